/- The program's Parse: what it answers, whatever the text. -/
import Derived.Test.YthpbadnedhjncaaDoorBack1
import Derived.Test.YthpbadnedhjncaaDoorCut
namespace Go.Proofs.YthpbadnedhjncaaDoor
open Go.RowKit

/-- The program's way: a sign, what is ahead of the first point, what is behind it. -/
def parseP (neg : Bool) (A B : List Int) (f : Bool) : Int × Int :=
  if wholeB A = false ∨ (f = true ∧ centsOk B = false) then (0, 21) else if neg = true ∧ A = [48] ∧ f = false then (0, 21) else if 14 < A.length then (0, 22)
  else if 1000000000000000 < 100 * valM A + valM B then (0, 22) else (if neg = true then -(100 * valM A + valM B) else 100 * valM A + valM B, 0)

theorem wholeB_good (l : List Int) : wholeB l = true ↔ GoodDs l := by
  unfold wholeB GoodDs
  constructor
  · intro h
    rw [Bool.or_eq_true, Bool.and_eq_true, Bool.and_eq_true] at h
    rcases h with h | ⟨h1, h2, h3⟩
    · have := of_decide_eq_true h
      subst this
      exact ⟨by simp, by decide, .inl rfl⟩
    · exact ⟨of_decide_eq_true h1, h3, .inr (of_decide_eq_true h2)⟩
  · rintro ⟨h1, h2, h3⟩
    by_cases h4 : l.getD 0 0 = 48
    · rcases h3 with h3 | h3
      · match l, h3 with
        | [a], _ => simp at h4; subst h4; rfl
      · exact absurd h4 h3
    · rw [decide_eq_true h1, decide_eq_true h4, h2]; simp

theorem centsOk_good (l : List Int) : centsOk l = true ↔ (l.length = 2 ∧ allDig l = true ∧ ¬ (l.getD 0 0 = 48 ∧ l.getD 1 0 = 48)) := by
  unfold centsOk
  rw [Bool.and_eq_true, Bool.and_eq_true]
  constructor
  · rintro ⟨h1, h2, h3⟩
    have h1 := of_decide_eq_true h1
    have h2 := of_decide_eq_true h2
    refine ⟨h1, h3, fun h => h2 ?_⟩
    rw [two_of h1, h.1, h.2]
  · rintro ⟨h1, h2, h3⟩
    refine ⟨decide_eq_true h1, decide_eq_true (fun h => h3 ?_), h2⟩
    rw [h]; exact ⟨rfl, rfl⟩

theorem split_one {A B A' B' : List Int} (h1 : 46 ∉ A) (h2 : 46 ∉ A') (h : A ++ 46 :: B = A' ++ 46 :: B') : A = A' ∧ B = B' := by
  induction A generalizing A' with
  | nil =>
    cases A' with
    | nil => simp at h; exact ⟨rfl, h⟩
    | cons a l => simp at h; exact absurd (h.1 ▸ List.mem_cons_self ..) h2
  | cons a l ih =>
    cases A' with
    | nil => simp at h; exact absurd (h.1 ▸ List.mem_cons_self ..) h1
    | cons a' l' =>
      simp at h
      have := ih (fun hh => h1 (List.mem_cons_of_mem _ hh)) (fun hh => h2 (List.mem_cons_of_mem _ hh)) h.2
      exact ⟨by rw [h.1, this.1], this.2⟩

theorem not_mem_dig {ds : List Int} (h : allDig ds = true) : 46 ∉ ds := by
  intro hm
  unfold allDig at h
  rw [List.all_eq_true] at h
  have := h _ hm
  simp [isDig] at this

theorem fold_bounds : ∀ (l : List Int) (a : Int), 0 ≤ a → allDig l = true → a * 10 ^ l.length ≤ l.foldl (fun n c => n * 10 + (c - 48)) a ∧ l.foldl (fun n c => n * 10 + (c - 48)) a < (a + 1) * 10 ^ l.length := by
  intro l
  induction l with
  | nil => intro a ha _; simp; omega
  | cons c l ih =>
    intro a ha h
    unfold allDig at h
    rw [List.all_cons, Bool.and_eq_true] at h
    have hc := of_decide_eq_true h.1
    have := ih (a * 10 + (c - 48)) (by omega) h.2
    rw [List.foldl_cons, List.length_cons, Int.pow_succ]
    have hp : (0 : Int) < 10 ^ l.length := Int.pow_pos (by decide)
    generalize (10 : Int) ^ l.length = P at *
    generalize l.foldl _ _ = R at *
    have e1 : a * (P * 10) ≤ (a * 10 + (c - 48)) * P := by
      rw [Int.add_mul, show a * (P * 10) = a * 10 * P by rw [Int.mul_comm P 10, Int.mul_assoc]]
      have : 0 ≤ (c - 48) * P := Int.mul_nonneg (by omega) (by omega)
      omega
    have e2 : (a * 10 + (c - 48) + 1) * P ≤ (a + 1) * (P * 10) := by
      rw [show (a + 1) * (P * 10) = (a * 10 + 10) * P by rw [Int.mul_comm P 10, ← Int.mul_assoc]; congr 1; omega]
      exact Int.mul_le_mul_of_nonneg_right (by omega) (by omega)
    omega

theorem val_ge (ds : List Int) (h : allDig ds = true) : 0 ≤ valM ds := by
  have := (fold_bounds ds 0 (by decide) h).1
  rw [Int.zero_mul] at this
  exact this

theorem val_lt (ds : List Int) (h : allDig ds = true) : valM ds < 10 ^ ds.length := by
  have := (fold_bounds ds 0 (by decide) h).2
  rw [Int.zero_add, Int.one_mul] at this
  exact this

theorem val_lead {ds : List Int} (h : allDig ds = true) (h0 : ds.getD 0 0 ≠ 48) (hl : 15 ≤ ds.length) : 100000000000000 ≤ valM ds := by
  cases ds with
  | nil => simp at hl
  | cons c l =>
    unfold allDig at h
    rw [List.all_cons, Bool.and_eq_true] at h
    have hc := of_decide_eq_true h.1
    simp at h0
    have := (fold_bounds l (c - 48) (by omega) h.2).1
    have e : valM (c :: l) = l.foldl (fun n c => n * 10 + (c - 48)) (c - 48) := by unfold valM; rw [List.foldl_cons]; congr 1; omega
    rw [e]
    have hp : (10 : Int) ^ 14 ≤ 10 ^ l.length := by
      have : (10 : Nat) ^ 14 ≤ 10 ^ l.length := Nat.pow_le_pow_right (by decide) (by simp at hl; omega)
      have e1 : ((10 ^ l.length : Nat) : Int) = (10 : Int) ^ l.length := by simp
      have e2 : ((10 ^ 14 : Nat) : Int) = (10 : Int) ^ 14 := by simp
      omega
    have h14 : (10 : Int) ^ 14 = 100000000000000 := by decide
    have h3 : 1 * (10 : Int) ^ l.length ≤ (c - 48) * 10 ^ l.length := Int.mul_le_mul_of_nonneg_right (by omega) (by omega)
    omega

/-- The program's way and the page's are one. -/
theorem parse_eq {l A B : List Int} {f : Bool} (h : l = (if negB l = true then [45] else []) ++ (A ++ (if f = true then 46 :: B else []))) (hA : 46 ∉ A) (hB : f = false → B = []) :
    parseP (negB l) A B f = parseM l := by
  by_cases hgood : Good (negB l) A B ∧ (f = true → B ≠ [])
  · obtain ⟨hg, hf⟩ := hgood
    have hl : l = comp (negB l) A B := by
      conv => lhs; rw [h]
      unfold comp
      cases f with
      | false => rw [hB rfl]; simp
      | true => rw [if_pos rfl, if_neg (hf rfl)]
    have hp : parseM l = parseM (comp (negB l) A B) := congrArg parseM hl
    rw [hp, parse_comp hg]
    obtain ⟨hd, hc, hn⟩ := hg
    have e1 : wholeB A = true := (wholeB_good A).2 hd
    have e2 : f = true → centsOk B = true := fun hf1 => by
      rcases hc with hc | hc
      · exact absurd hc (hf hf1)
      · exact (centsOk_good B).2 hc
    have hvB : 0 ≤ valM B := by
      rcases hc with rfl | hc
      · decide
      · exact val_ge B hc.2.1
    unfold parseP
    rw [if_neg (by rintro (hh | ⟨h1, h2⟩); · rw [e1] at hh; cases hh
                   · rw [e2 h1] at h2; cases h2)]
    rw [if_neg (by rintro ⟨h1, h2, h3⟩; exact hn ⟨h1, h2, hB h3⟩)]
    have hm : 100 * valM A + valM B = amount A B := by unfold amount; omega
    rw [hm]
    by_cases h15 : 15 < A.length
    · rw [if_pos (by omega), if_pos h15]
    · rw [if_neg h15]
      by_cases h14 : 14 < A.length
      · rw [if_pos h14, if_pos]
        have h48 : A.getD 0 0 ≠ 48 := by rcases hd.2.2 with h | h; · omega
                                         · exact h
        have := val_lead hd.2.1 h48 (by omega)
        unfold amount; omega
      · rw [if_neg h14]
  · have hbad : parseP (negB l) A B f = (0, 21) := by
      unfold parseP
      by_cases c1 : wholeB A = false ∨ (f = true ∧ centsOk B = false)
      · rw [if_pos c1]
      · rw [if_neg c1, if_pos]
        apply Classical.byContradiction
        intro c2
        apply hgood
        have hd : GoodDs A := (wholeB_good A).1 (by cases hw : wholeB A with | true => rfl | false => exact absurd (.inl hw) c1)
        have hcs : f = true → (B.length = 2 ∧ allDig B = true ∧ ¬ (B.getD 0 0 = 48 ∧ B.getD 1 0 = 48)) := fun hf1 => (centsOk_good B).1 (by cases hw : centsOk B with | true => rfl | false => exact absurd (.inr ⟨hf1, hw⟩) c1)
        refine ⟨⟨hd, ?_, ?_⟩, fun hf1 hb => ?_⟩
        · cases f with
          | false => exact .inl (hB rfl)
          | true => exact .inr (hcs rfl)
        · rintro ⟨n1, n2, n3⟩
          apply c2
          refine ⟨n1, n2, ?_⟩
          cases f with
          | false => rfl
          | true => have := (hcs rfl).1; rw [n3] at this; cases this
        · have := (hcs hf1).1; rw [hb] at this; cases this
    rw [hbad]
    symm
    apply parse_21
    apply Classical.byContradiction
    intro hh
    obtain ⟨neg, ds, cs, hg, hl⟩ := parse_good hh
    apply hgood
    have hneg : negB l = neg := by rw [hl]; exact comp_neg hg.d
    have hmem : 46 ∉ ds := not_mem_dig hg.d.2.1
    have e : A ++ (if f = true then 46 :: B else []) = ds ++ (if cs = [] then [] else 46 :: cs) := by
      have h1 : l = (if neg = true then [45] else []) ++ (ds ++ (if cs = [] then [] else 46 :: cs)) := hl
      rw [← hneg] at h1
      exact List.append_cancel_left (h.symm.trans h1)
    rw [hneg]
    cases f with
    | false =>
      rw [if_neg (by simp), List.append_nil] at e
      by_cases hcs : cs = []
      · rw [if_pos hcs, List.append_nil] at e
        rw [hB rfl, e, ← hcs]
        exact ⟨hg, fun hf => by cases hf⟩
      · rw [if_neg hcs] at e
        rw [e] at hA
        exact absurd (List.mem_append_right _ (List.mem_cons_self ..)) hA
    | true =>
      rw [if_pos rfl] at e
      by_cases hcs : cs = []
      · rw [if_pos hcs, List.append_nil] at e
        rw [← e] at hmem
        exact absurd (List.mem_append_right _ (List.mem_cons_self ..)) hmem
      · rw [if_neg hcs] at e
        obtain ⟨rfl, rfl⟩ := split_one hA hmem e
        exact ⟨hg, fun _ => hcs⟩

theorem sign_drop (l : List Int) : l = (if negB l = true then [45] else []) ++ l.drop (atM l) := by
  unfold atM
  cases hn : negB l with
  | false => simp
  | true =>
    have := of_decide_eq_true hn
    cases l with
    | nil => simp at this
    | cons a l => simp at this; simp [this]

set_option maxRecDepth 100000 in
set_option maxHeartbeats 6000000 in
theorem parse_any (s : ByteArray) (w : World) (hs : s.size ≤ 140737488355328) :
    Calls Tryd.prog 9 #[.string s] w fun e w' => e = .returned (pairV (parseM (strB s))) ∧ Below w.heap.size w w' := by
  obtain ⟨l, hl⟩ : ∃ l, l = strB s := ⟨_, rfl⟩
  have HSD := hide (sign_drop l)
  have C0 := hide (fun w => cutPrefix_any s w)
  rw [← hl] at C0 ⊢
  clear hl
  obtain ⟨neg, hneg⟩ : ∃ b, b = negB l := ⟨_, rfl⟩
  have HNG := hide hneg
  rw [← hneg] at C0 HSD
  clear hneg
  go_enter Tryd.func9, Tryd.ntmps9
  go_wp2_with fail
  refine (C0.out _).mono ?_
  rintro e w1 ⟨d, rfl, hd, hds, rfl⟩
  have HD := hide hd
  have C1 := hide (fun w => cut_any d w (by omega))
  clear hd C0
  go_wp2_with fail
  refine (C1.out _).mono ?_
  rintro e w2 ⟨a, b, f, rfl, ha, hb, hsp, hna, hfb, hb2⟩
  clear C1
  have HP : Hid (parseP neg (strB a) (strB b) f = parseM l) := by
    have h1 := HSD.out
    rw [← HD.out, hsp] at h1
    have := parse_eq (l := l) (A := strB a) (B := strB b) (f := f) (by rw [← HNG.out]; exact h1) hna hfb
    rw [← HNG.out] at this
    exact this
  have HFB := hide hfb
  clear hsp hna hfb
  have CW := hide (fun w => isWhole_any a w (by omega))
  have CC := hide (fun w => isCents_any b w (by omega))
  have hA48 := eq_const a [48]
  have HLA := hide (strB_len a)
  have HLB := hide (strB_len b)
  obtain ⟨z, hz⟩ : ∃ z, z = decide (strB a = [48]) := ⟨_, rfl⟩
  have hA48' : (a.toList == [48]) = z := by rw [hz]; exact hA48
  have HZ := hide hz
  clear hz hA48
  cases hw : wholeB (strB a) with
  | false =>
    have HV : Hid (parseM l = (0, 21)) := by unfold Hid; rw [← HP.out]; unfold parseP; rw [if_pos (.inl hw)]
    rw [hw] at CW
    clear hw
    go_wp2_with (go_at_call 31; refine (CW.out _).mono ?_; rintro e w3 ⟨rfl, hww⟩; subst w3)
    go_ret2
    exact ⟨ret_pair HV.out, hb2⟩
  | true =>
    have HW := hide hw
    rw [hw] at CW
    clear hw
    cases hf : (f && !centsOk (strB b)) with
    | true =>
      rw [Bool.and_eq_true] at hf
      have hf1 : f = true := hf.1
      have hcb : centsOk (strB b) = false := by simpa using hf.2
      subst hf1
      have HV : Hid (parseM l = (0, 21)) := by unfold Hid; rw [← HP.out]; unfold parseP; rw [if_pos (.inr ⟨rfl, hcb⟩)]
      rw [hcb] at CC
      clear hf hcb
      go_wp2_with (first | (go_at_call 31; refine (CW.out _).mono ?_; rintro e w3 ⟨rfl, hww⟩; subst w3) | (go_at_call 32; refine (CC.out _).mono ?_; rintro e w3 ⟨rfl, hww⟩; subst w3))
      go_ret2
      exact ⟨ret_pair HV.out, hb2⟩
    | false =>
      have HF1 : Hid (¬ (wholeB (strB a) = false ∨ (f = true ∧ centsOk (strB b) = false))) := by
        rintro (h | ⟨h1, h2⟩)
        · rw [HW.out] at h; cases h
        · rw [h1, h2] at hf; cases hf
      have HCB : Hid (allDig (strB b) = true ∧ b.size ≤ 2) := by
        cases f with
        | false => rw [HFB.out rfl]; refine ⟨rfl, ?_⟩; have := HLB.out; rw [HFB.out rfl] at this; simp at this; omega
        | true =>
          have hc : centsOk (strB b) = true := by simpa using hf
          have := (centsOk_good _).1 hc
          exact ⟨this.2.1, by rw [← HLB.out]; omega⟩
      have HCC : Hid (f = true → centsOk (strB b) = true) := fun h => by rw [h] at hf; simpa using hf
      clear hf
      cases hm : (neg && (z && !f)) with
      | true =>
        rw [Bool.and_eq_true, Bool.and_eq_true] at hm
        obtain ⟨hm1, hm2, hm3⟩ := hm
        have hm3' : f = false := by simpa using hm3
        subst hm1 hm2 hm3'
        have HV : Hid (parseM l = (0, 21)) := by unfold Hid; rw [← HP.out]; unfold parseP; rw [if_neg HF1.out, if_pos ⟨rfl, of_decide_eq_true HZ.out.symm, rfl⟩]
        go_wp2_with (first | (go_at_call 31; refine (CW.out _).mono ?_; rintro e w3 ⟨rfl, hww⟩; subst w3) | (go_at_call 32; refine (CC.out _).mono ?_; rintro e w3 ⟨rfl, hww⟩; subst w3))
        go_ret2
        exact ⟨ret_pair HV.out, hb2⟩
      | false =>
        have HM : Hid (¬ (neg = true ∧ strB a = [48] ∧ f = false)) := by
          rintro ⟨h1, h2, h3⟩
          have : z = true := by rw [HZ.out]; exact decide_eq_true h2
          rw [h1, this, h3] at hm; cases hm
        by_cases h14 : 14 < a.size
        · have HV : Hid (parseM l = (0, 22)) := by unfold Hid; rw [← HP.out]; unfold parseP; rw [if_neg HF1.out, if_neg HM.out, if_pos (by rw [HLA.out]; exact h14)]
          cases f with
          | false =>
            cases neg with
            | false => (go_wp2_with (first | (go_at_call 31; refine (CW.out _).mono ?_; rintro e w3 ⟨rfl, hww⟩; subst w3) | (go_at_call 32; refine (CC.out _).mono ?_; rintro e w3 ⟨rfl, hww⟩; subst w3)); go_ret2; exact ⟨ret_pair HV.out, hb2⟩)
            | true =>
              cases z with
              | true => cases hm
              | false => (go_wp2_with (first | (go_at_call 31; refine (CW.out _).mono ?_; rintro e w3 ⟨rfl, hww⟩; subst w3) | (go_at_call 32; refine (CC.out _).mono ?_; rintro e w3 ⟨rfl, hww⟩; subst w3)); go_ret2; exact ⟨ret_pair HV.out, hb2⟩)
          | true =>
            rw [HCC.out rfl] at CC
            cases neg with
            | false => (go_wp2_with (first | (go_at_call 31; refine (CW.out _).mono ?_; rintro e w3 ⟨rfl, hww⟩; subst w3) | (go_at_call 32; refine (CC.out _).mono ?_; rintro e w3 ⟨rfl, hww⟩; subst w3)); go_ret2; exact ⟨ret_pair HV.out, hb2⟩)
            | true =>
              cases z with
              | true => (go_wp2_with (first | (go_at_call 31; refine (CW.out _).mono ?_; rintro e w3 ⟨rfl, hww⟩; subst w3) | (go_at_call 32; refine (CC.out _).mono ?_; rintro e w3 ⟨rfl, hww⟩; subst w3)); go_ret2; exact ⟨ret_pair HV.out, hb2⟩)
              | false => (go_wp2_with (first | (go_at_call 31; refine (CW.out _).mono ?_; rintro e w3 ⟨rfl, hww⟩; subst w3) | (go_at_call 32; refine (CC.out _).mono ?_; rintro e w3 ⟨rfl, hww⟩; subst w3)); go_ret2; exact ⟨ret_pair HV.out, hb2⟩)
        · have hgd := (wholeB_good _).1 HW.out
          have N1 := hide (fun w => number_any a w (by omega) hgd.2.1)
          have N2 := hide (fun w => number_any b w (by have := HCB.out.2; omega) HCB.out.1)
          have hv1 := val_ge _ hgd.2.1
          have hv2 := val_lt _ hgd.2.1
          have hv3 := val_ge _ HCB.out.1
          have hv4 := val_lt _ HCB.out.1
          have hv5 := ten_pow_le (k := (strB a).length) (by rw [HLA.out]; omega)
          have hv6 := ten_pow_le (k := (strB b).length) (by rw [HLB.out]; have := HCB.out.2; omega)
          have HQ : Hid (parseM l = if 1000000000000000 < 100 * valM (strB a) + valM (strB b) then (0, 22) else (if neg = true then -(100 * valM (strB a) + valM (strB b)) else 100 * valM (strB a) + valM (strB b), 0)) := by
            unfold Hid; rw [← HP.out]; unfold parseP; rw [if_neg HF1.out, if_neg HM.out, if_neg (by rw [HLA.out]; exact h14)]
          generalize hx : valM (strB a) = x at *
          generalize hy : valM (strB b) = y at *
          have hx1 : x ≤ 100000000000000 := by omega
          have hy1 : y ≤ 100000000000000 := by omega
          clear hv2 hv4 hv5 hv6 hgd hx hy
          have CK := hide (fun w => check_any (100 * x + y) w)
          by_cases hov : 1000000000000000 < 100 * x + y
          · have HV : Hid (parseM l = (0, 22)) := by unfold Hid; rw [HQ.out, if_pos hov]
            rw [checkM_false (may_not (.inr hov))] at CK
            cases f with
            | false =>
              cases neg with
              | false => (go_wp2_with (first | (go_at_call 31; refine (CW.out _).mono ?_; rintro e w3 ⟨rfl, hww⟩; subst w3) | (go_at_call 32; refine (CC.out _).mono ?_; rintro e w3 ⟨rfl, hww⟩; subst w3)); refine (N1.out _).mono ?_; rintro e w4 ⟨rfl, hww⟩; subst w4; go_wp2_with fail; refine (N2.out _).mono ?_; rintro e w4 ⟨rfl, hww⟩; subst w4; go_wp2_with (go_at_call 17; refine (CK.out _).mono ?_; rintro e w3 ⟨rfl, hww⟩; subst w3); go_ret2; exact ⟨ret_pair HV.out, hb2⟩)
              | true =>
                cases z with
                | true => cases hm
                | false => (go_wp2_with (first | (go_at_call 31; refine (CW.out _).mono ?_; rintro e w3 ⟨rfl, hww⟩; subst w3) | (go_at_call 32; refine (CC.out _).mono ?_; rintro e w3 ⟨rfl, hww⟩; subst w3)); refine (N1.out _).mono ?_; rintro e w4 ⟨rfl, hww⟩; subst w4; go_wp2_with fail; refine (N2.out _).mono ?_; rintro e w4 ⟨rfl, hww⟩; subst w4; go_wp2_with (go_at_call 17; refine (CK.out _).mono ?_; rintro e w3 ⟨rfl, hww⟩; subst w3); go_ret2; exact ⟨ret_pair HV.out, hb2⟩)
            | true =>
              rw [HCC.out rfl] at CC
              cases neg with
              | false => (go_wp2_with (first | (go_at_call 31; refine (CW.out _).mono ?_; rintro e w3 ⟨rfl, hww⟩; subst w3) | (go_at_call 32; refine (CC.out _).mono ?_; rintro e w3 ⟨rfl, hww⟩; subst w3)); refine (N1.out _).mono ?_; rintro e w4 ⟨rfl, hww⟩; subst w4; go_wp2_with fail; refine (N2.out _).mono ?_; rintro e w4 ⟨rfl, hww⟩; subst w4; go_wp2_with (go_at_call 17; refine (CK.out _).mono ?_; rintro e w3 ⟨rfl, hww⟩; subst w3); go_ret2; exact ⟨ret_pair HV.out, hb2⟩)
              | true =>
                cases z with
                | true => (go_wp2_with (first | (go_at_call 31; refine (CW.out _).mono ?_; rintro e w3 ⟨rfl, hww⟩; subst w3) | (go_at_call 32; refine (CC.out _).mono ?_; rintro e w3 ⟨rfl, hww⟩; subst w3)); refine (N1.out _).mono ?_; rintro e w4 ⟨rfl, hww⟩; subst w4; go_wp2_with fail; refine (N2.out _).mono ?_; rintro e w4 ⟨rfl, hww⟩; subst w4; go_wp2_with (go_at_call 17; refine (CK.out _).mono ?_; rintro e w3 ⟨rfl, hww⟩; subst w3); go_ret2; exact ⟨ret_pair HV.out, hb2⟩)
                | false => (go_wp2_with (first | (go_at_call 31; refine (CW.out _).mono ?_; rintro e w3 ⟨rfl, hww⟩; subst w3) | (go_at_call 32; refine (CC.out _).mono ?_; rintro e w3 ⟨rfl, hww⟩; subst w3)); refine (N1.out _).mono ?_; rintro e w4 ⟨rfl, hww⟩; subst w4; go_wp2_with fail; refine (N2.out _).mono ?_; rintro e w4 ⟨rfl, hww⟩; subst w4; go_wp2_with (go_at_call 17; refine (CK.out _).mono ?_; rintro e w3 ⟨rfl, hww⟩; subst w3); go_ret2; exact ⟨ret_pair HV.out, hb2⟩)
          · have HV : Hid (parseM l = (if neg = true then -(100 * x + y) else 100 * x + y, 0)) := by unfold Hid; rw [HQ.out, if_neg hov]
            rw [checkM_true (may_mk ⟨by omega, by omega⟩)] at CK
            cases f with
            | false =>
              cases neg with
              | false => (go_wp2_with (first | (go_at_call 31; refine (CW.out _).mono ?_; rintro e w3 ⟨rfl, hww⟩; subst w3) | (go_at_call 32; refine (CC.out _).mono ?_; rintro e w3 ⟨rfl, hww⟩; subst w3)); refine (N1.out _).mono ?_; rintro e w4 ⟨rfl, hww⟩; subst w4; go_wp2_with fail; refine (N2.out _).mono ?_; rintro e w4 ⟨rfl, hww⟩; subst w4; go_wp2_with (go_at_call 17; refine (CK.out _).mono ?_; rintro e w3 ⟨rfl, hww⟩; subst w3); go_ret2; exact ⟨ret_pair HV.out, hb2⟩)
              | true =>
                cases z with
                | true => cases hm
                | false => (go_wp2_with (first | (go_at_call 31; refine (CW.out _).mono ?_; rintro e w3 ⟨rfl, hww⟩; subst w3) | (go_at_call 32; refine (CC.out _).mono ?_; rintro e w3 ⟨rfl, hww⟩; subst w3)); refine (N1.out _).mono ?_; rintro e w4 ⟨rfl, hww⟩; subst w4; go_wp2_with fail; refine (N2.out _).mono ?_; rintro e w4 ⟨rfl, hww⟩; subst w4; go_wp2_with (go_at_call 17; refine (CK.out _).mono ?_; rintro e w3 ⟨rfl, hww⟩; subst w3); go_ret2; exact ⟨ret_pair HV.out, hb2⟩)
            | true =>
              rw [HCC.out rfl] at CC
              cases neg with
              | false => (go_wp2_with (first | (go_at_call 31; refine (CW.out _).mono ?_; rintro e w3 ⟨rfl, hww⟩; subst w3) | (go_at_call 32; refine (CC.out _).mono ?_; rintro e w3 ⟨rfl, hww⟩; subst w3)); refine (N1.out _).mono ?_; rintro e w4 ⟨rfl, hww⟩; subst w4; go_wp2_with fail; refine (N2.out _).mono ?_; rintro e w4 ⟨rfl, hww⟩; subst w4; go_wp2_with (go_at_call 17; refine (CK.out _).mono ?_; rintro e w3 ⟨rfl, hww⟩; subst w3); go_ret2; exact ⟨ret_pair HV.out, hb2⟩)
              | true =>
                cases z with
                | true => (go_wp2_with (first | (go_at_call 31; refine (CW.out _).mono ?_; rintro e w3 ⟨rfl, hww⟩; subst w3) | (go_at_call 32; refine (CC.out _).mono ?_; rintro e w3 ⟨rfl, hww⟩; subst w3)); refine (N1.out _).mono ?_; rintro e w4 ⟨rfl, hww⟩; subst w4; go_wp2_with fail; refine (N2.out _).mono ?_; rintro e w4 ⟨rfl, hww⟩; subst w4; go_wp2_with (go_at_call 17; refine (CK.out _).mono ?_; rintro e w3 ⟨rfl, hww⟩; subst w3); go_ret2; exact ⟨ret_pair HV.out, hb2⟩)
                | false => (go_wp2_with (first | (go_at_call 31; refine (CW.out _).mono ?_; rintro e w3 ⟨rfl, hww⟩; subst w3) | (go_at_call 32; refine (CC.out _).mono ?_; rintro e w3 ⟨rfl, hww⟩; subst w3)); refine (N1.out _).mono ?_; rintro e w4 ⟨rfl, hww⟩; subst w4; go_wp2_with fail; refine (N2.out _).mono ?_; rintro e w4 ⟨rfl, hww⟩; subst w4; go_wp2_with (go_at_call 17; refine (CK.out _).mono ?_; rintro e w3 ⟨rfl, hww⟩; subst w3); go_ret2; exact ⟨ret_pair HV.out, hb2⟩)

end Go.Proofs.YthpbadnedhjncaaDoor
