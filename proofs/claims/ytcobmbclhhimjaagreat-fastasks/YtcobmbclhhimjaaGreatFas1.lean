/- Fast's Holds, Set, Undecided. -/
import Derived.Test.YtcobmbclhhimjaaGreatRh0
import Derived.Test.YtcobmbclhhimjaaGreatFs4
namespace Go.Proofs.YtcobmbclhhimjaaGreat.Fa
open Go.RowKit

/-- A run's marks in memory. -/
structure Rk (K n : Nat) (m : List Int) (w : World) : Prop where
  ln : m.length = n
  at_ : ∃ va, w.cell? ⟨K, 18, none⟩ = some (.slice va n n) ∧ At1 w va (u8s m)
theorem Rk.go {K n : Nat} {m : List Int} {w w' : World} (h : Rk K n m w) (hb : Below w.heap.size w w') : Rk K n m w' := by
  obtain ⟨va, h1, h2⟩ := h.at_
  exact ⟨h.ln, va, Rf.cell_onR h1 hb, h2.below hb⟩
section
variable {w : World} {T : Th} {F m : List Int} {fa ra ba ea : Option Addr} {fc rc bc ec : Nat}
theorem run_rk {n k : Nat} (h : TA w.heap.size w T fa fc ra rc ba bc) (hF : Ints w.heap.size w F (.slice ea F.length ec)) (hp : Pf T F n) (hM : Rf.Uq T F m) (_ : k = k) :
    Calls Tryz.prog 30 #[tv T fa fc ra rc ba bc, .slice ea F.length ec] w fun o w' => ∃ K, o = .returned (ptr K) ∧ Rk K n m w' ∧ Below w.heap.size w w' := by
  refine (run_ends (P := fun _ => True) h hF hp trivial fun _ _ _ _ => trivial).mono ?_
  rintro o w' ⟨K, va, e, rfl, -, h18, ⟨m2, k2, hs2, how, -⟩, -, -, -, -, hb⟩
  have hl := sol_len hp hs2
  obtain rfl := hM _ _ hs2
  exact ⟨K, rfl, ⟨hl, va, h18, owns_at1 how⟩, hb⟩
set_option maxRecDepth 100000 in
set_option maxHeartbeats 3200000 in
theorem hasK {K n q : Nat} {t : Int} (h : Rk K n m w) (hq : q < n) (ht : isTag t) :
    Calls Tryz.prog 36 #[ptr K, .int .i64 q, .int .i64 t] w fun r w' => r = .returned (.bool (hb (m.getD q 0) t)) ∧ Below w.heap.size w w' := by
  obtain ⟨va, k8, hat⟩ := h.at_
  obtain ⟨g, o1, rfl, cm⟩ := hat q _ (u8s_at (by rw [h.ln]; exact hq))
  have CB := hide fun d : Nat => bitF_any (w := w.drewN d) ht
  have HS : Hid ((bits .and .u8 (m.getD q 0) (bitM t) != 0) = hb (m.getD q 0) t) := hide rfl
  generalize hb (m.getD q 0) t = o at *
  generalize m.getD q 0 = x at *
  generalize bitM t = y at *
  clear h ht hat
  go_enter Tryz.func36, Tryz.ntmps36
  go_upto_region 1 with fail
  go_quiet ((go_at_call 53; exact Calls.quiet_of_same (CB.out _)))
  go_wp2_with fail
  go_ret
  exact ⟨by rw [← HS.out]; rfl, below_drewN w _⟩
set_option maxRecDepth 100000 in
set_option maxHeartbeats 3200000 in
theorem isTag_any {t : Int} : Calls Tryz.prog 35 #[.int .i64 t] w fun r w' => r = .returned (.bool (decide (Rf.tagE t = 0))) ∧ w' = w := by
  by_cases h0 : t < 1
  · have HE : Hid (decide (Rf.tagE t = 0) = false) := hide (by rw [Rf.tagE_no (.inl h0)]; rfl)
    rw [HE.out]
    go_enter Tryz.func35, Tryz.ntmps35
    go_wp2_with fail
    go_ret
    exact ⟨rfl, rfl⟩
  · by_cases h1 : 4 < t
    · have HE : Hid (decide (Rf.tagE t = 0) = false) := hide (by rw [Rf.tagE_no (.inr h1)]; rfl)
      rw [HE.out]
      have hd : decide (t ≤ 4) = false := decide_eq_false (by omega)
      go_enter Tryz.func35, Tryz.ntmps35
      go_wp2_with fail
      go_ret
      exact ⟨rfl, rfl⟩
    · have HE : Hid (decide (Rf.tagE t = 0) = true) := hide (by rw [Rf.tagE_yes (by omega)]; rfl)
      rw [HE.out]
      have hd : decide (t ≤ 4) = true := decide_eq_true (by omega)
      go_enter Tryz.func35, Tryz.ntmps35
      go_wp2_with fail
      go_ret
      exact ⟨rfl, rfl⟩
end
/-- A run in a box. -/
structure Rb (b K n : Nat) (m : List Int) (w : World) : Prop where
  bx : Fx b 75 [ptr K] w
  rk : Rk K n m w
theorem Rb.go {b K n : Nat} {m : List Int} {w w' : World} (h : Rb b K n m w) (hb : Below w.heap.size w w') : Rb b K n m w' := ⟨h.bx.keep (hb.block _ h.bx.lt), h.rk.go hb⟩
section
variable {w : World} {m : List Int} {b c K n : Nat} {t : Int}
set_option maxRecDepth 100000 in
set_option maxHeartbeats 3200000 in
theorem set_call (h : Rb b K n m w) (hc : Fx c 46 [.int .i64 t] w) (ht : isTag t) {x : Nat} (hx : x < n) : Calls Tryz.prog 39 #[.int .i64 x, ptr b, ptr c] w fun e w' => e = .returned (.bool (Rf.tagP m t x)) ∧ Below w.heap.size w w' := by
  have d1 := h.bx.get (i := 0) rfl
  have d2 := hc.get (i := 0) rfl
  have CH := hide (hasK h.rk hx ht)
  have HE : Hid (Rf.tagP m t x = hb (m.getD x 0) t) := hide (by unfold Rf.tagP; rw [Int.toNat_natCast])
  rw [HE.out]
  generalize hb (m.getD x 0) t = y1 at *
  clear h hc ht HE
  go_enter Tryz.func39, Tryz.ntmps39
  go_wp2_with (go_at_call 36; refine CH.out.mono ?_; rintro _ w2 ⟨rfl, hb2⟩; have HB2 := hide hb2; clear hb2)
  go_ret
  exact ⟨rfl, HB2.out⟩
theorem set_ts (h : Rb b K n m w) (hc : Fx c 46 [.int .i64 t] w) (ht : isTag t) : Ts w (Rf.tagP m t) (fun x => 0 ≤ x ∧ x < (n : Int)) (.func (.func 39) #[] #[ptr b, ptr c]) := by
  refine ⟨39, #[ptr b, ptr c], rfl, enters_go Tryz.func39 (by kernel_rfl) (by kernel_rfl), fun x w' hx hb => ?_⟩
  obtain ⟨q, rfl⟩ := Int.eq_ofNat_of_zero_le hx.1
  exact set_call (h.go hb) (hc.keep (hb.block _ hc.lt)) ht (by omega)
set_option maxRecDepth 100000 in
set_option maxHeartbeats 3200000 in
theorem und_call (h : Rb b K n m w) {x : Nat} (hx : x < n) : Calls Tryz.prog 40 #[.int .i64 x, ptr b] w fun e w' => e = .returned (.bool (Rf.undP m x)) ∧ Below w.heap.size w w' := by
  have d1 := h.bx.get (i := 0) rfl
  have CH3 := hide (hasK h.rk hx tag3)
  have HG := hide fun (w' : World) (hb : Below w.heap.size w w') => And.intro ((h.go hb).bx.get (i := 0) rfl) (hasK (h.go hb).rk hx tag4)
  have HE : Hid (Rf.undP m x = (!hb (m.getD x 0) 3 && !hb (m.getD x 0) 4)) := hide (by unfold Rf.undP; rw [Int.toNat_natCast])
  rw [HE.out]
  generalize hb (m.getD x 0) 3 = y3 at *
  generalize hb (m.getD x 0) 4 = y4 at *
  clear h HE
  go_enter Tryz.func40, Tryz.ntmps40
  cases y3 with
  | true =>
    go_wp2_with (go_at_call 36; refine CH3.out.mono ?_; rintro _ w2 ⟨rfl, hb2⟩; have HB2 := hide hb2; clear hb2)
    go_ret
    exact ⟨rfl, HB2.out⟩
  | false =>
    cases y4 with
    | true =>
      go_wp2_with fail
      refine CH3.out.mono ?_
      rintro _ w2 ⟨rfl, hb2⟩
      obtain ⟨d2, hc4⟩ := HG.out w2 hb2
      have CH4 := hide hc4
      have HB2 := hide hb2
      clear hb2 hc4
      go_wp2_with fail
      refine CH4.out.mono ?_
      rintro _ w3 ⟨rfl, hb3⟩
      have HB3 := hide (HB2.out.trans (hb3.mono HB2.out.size))
      clear hb3
      go_wp2_with fail
      go_ret
      exact ⟨rfl, HB3.out⟩
    | false =>
      go_wp2_with fail
      refine CH3.out.mono ?_
      rintro _ w2 ⟨rfl, hb2⟩
      obtain ⟨d2, hc4⟩ := HG.out w2 hb2
      have CH4 := hide hc4
      have HB2 := hide hb2
      clear hb2 hc4
      go_wp2_with fail
      refine CH4.out.mono ?_
      rintro _ w3 ⟨rfl, hb3⟩
      have HB3 := hide (HB2.out.trans (hb3.mono HB2.out.size))
      clear hb3
      go_wp2_with fail
      go_ret
      exact ⟨rfl, HB3.out⟩
theorem und_ts (h : Rb b K n m w) : Ts w (Rf.undP m) (fun x => 0 ≤ x ∧ x < (n : Int)) (.func (.func 40) #[] #[ptr b]) := by
  refine ⟨40, #[ptr b], rfl, enters_go Tryz.func40 (by kernel_rfl) (by kernel_rfl), fun x w' hx hb => ?_⟩
  obtain ⟨q, rfl⟩ := Int.eq_ofNat_of_zero_le hx.1
  exact und_call (h.go hb) (by omega)
end
end Go.Proofs.YtcobmbclhhimjaaGreat.Fa
/- Fast's Holds, Set, Undecided. -/
namespace Go.Proofs.YtcobmbclhhimjaaGreat.Fa
open Go.RowKit

section
variable {w : World} {T : Th} {F m : List Int} {fa ra ba ea : Option Addr} {fc rc bc ec : Nat}
set_option maxRecDepth 100000 in
set_option maxHeartbeats 6400000 in
theorem Holds_any (hM : Rf.Uq T F m) (h : TA w.heap.size w T fa fc ra rc ba bc) (hF : Ints w.heap.size w F (.slice ea F.length ec)) {q t : Int} :
    Calls Tryz.prog 17 #[tv T fa fc ra rc ba bc, .slice ea F.length ec, .int .i64 q, .int .i64 t] w fun e w' => e = .returned (.tuple #[.bool (Rf.hasV T F m q t), .int .i64 (Rf.hasE T F q t)]) ∧ Below w.heap.size w w' := by
  have hB := below_new w (.cells #[.int .i64 T.lits, .slice fa T.foes.length fc, .slice ra T.rules.length rc, .slice ba T.beats.length bc] 25)
  have hX := heap_alloc_new w (.cells #[.int .i64 T.lits, .slice fa T.foes.length fc, .slice ra T.rules.length rc, .slice ba T.beats.length bc] 25)
  have CF := hide (fault_any (TR.go hB h) (Ints.go hB hF))
  have HB := hide hB
  by_cases h0 : faultM T F = 0
  · rw [h0] at CF
    obtain ⟨n, hn⟩ : ∃ n, T.lits.toNat = n := ⟨_, rfl⟩
    have hp := pf_of h0
    rw [hn] at hp
    have HP := hide hp
    have HLN := hide hp.ln
    have HE1 : Hid ((q < 0 ∨ T.lits ≤ q) → Rf.hasE T F q t = 91) := hide (Rf.hasE_lit h0)
    have HE2 : Hid (¬(q < 0 ∨ T.lits ≤ q) → Rf.hasE T F q t = Rf.tagE t) := hide (Rf.hasE_tag h0)
    have HM := hide hM
    have HTA := hide (TR.go hB h)
    have HF := hide (Ints.go hB hF)
    have HX := hide hX
    clear h hF hB h0 hp hn hM
    go_enter Tryz.func17, Tryz.ntmps17
    go_upto_region 1 with fail
    generalize w.alloc (.cells #[.int .i64 T.lits, .slice fa T.foes.length fc, .slice ra T.rules.length rc, .slice ba T.beats.length bc] 25) = W at *
    obtain ⟨-, c0, c1, c2, c3⟩ := Bt.of hX
    clear hX
    go_upto_region 4 with (go_at_call 29; refine CF.out.mono ?_; rintro _ w1 ⟨rfl, hw1⟩; have HW1 := hide hw1; clear hw1)
    have HX1 := hide ((HW1.out.block _ (loc_lt HX.out)).trans HX.out)
    have HTA1 := hide (TR.go HW1.out HTA.out)
    have HF1 := hide (Ints.go HW1.out HF.out)
    have HB1 := hide (HB.out.trans (HW1.out.mono HB.out.size))
    clear c0 c1 c2 c3 CF HX HTA HF HB HW1
    obtain ⟨-, c0, c1, c2, c3⟩ := Bt.of HX1.out
    rw [HLN.out] at c0
    by_cases hq0 : q < 0
    · have HE : Hid (Rf.hasE T F q t = 91) := hide (HE1.out (.inl hq0))
      go_wp2_with fail
      go_ret2
      exact ⟨Rf.ret2_b (Rf.hasV_no (by rw [HE.out]; decide)).symm HE.out.symm, HB1.out⟩
    · by_cases hq1 : (n : Int) ≤ q
      · have HE : Hid (Rf.hasE T F q t = 91) := hide (HE1.out (.inr (by rw [HLN.out]; exact hq1)))
        go_wp2_with fail
        go_ret2
        exact ⟨Rf.ret2_b (Rf.hasV_no (by rw [HE.out]; decide)).symm HE.out.symm, HB1.out⟩
      · have HE3 : Hid (Rf.hasE T F q t = Rf.tagE t) := hide (HE2.out (by rw [HLN.out]; omega))
        have CT := hide (isTag_any (w := w1) (t := t))
        by_cases ht : Rf.tagE t = 0
        · have HE : Hid (Rf.hasE T F q t = 0) := hide (by rw [HE3.out, ht])
          have HTG := hide (Rf.tag_of ht)
          rw [decide_eq_true ht] at CT
          obtain ⟨x, rfl⟩ := Int.eq_ofNat_of_zero_le (a := q) (by omega)
          have hxn : x < n := by omega
          have CR := hide (run_rk (k := 0) HTA1.out HF1.out HP.out HM.out rfl)
          have HV : Hid (hb (m.getD x 0) t = Rf.hasV T F m (x : Int) t) := hide (Rf.hasV_yes HE.out).symm
          clear ht HE3 HE1 HE2
          go_upto_region 8 with (go_at_call 35; refine CT.out.mono ?_; rintro _ w2 ⟨rfl, hw⟩; subst w2)
          rw [← HLN.out] at c0
          clear CT
          go_wp2_with fail
          refine CR.out.mono ?_
          rintro _ w3 ⟨K, rfl, hk, hb3⟩
          have CH := hide (hasK hk hxn HTG.out)
          have HB3 := hide (HB1.out.trans (hb3.mono HB1.out.size))
          generalize hb (m.getD x 0) t = ob at *
          clear hk hb3 CR
          go_wp2_with fail
          refine CH.out.mono ?_
          rintro _ w4 ⟨rfl, hb4⟩
          have HB4 := hide (HB3.out.trans (hb4.mono HB3.out.size))
          clear hb4
          go_wp2_with fail
          go_ret2
          exact ⟨Rf.ret2_b HV.out HE.out.symm, HB4.out⟩
        · have HT1 : Hid (Rf.tagE t = 1) := hide (by unfold Rf.tagE at ht ⊢; by_cases c : t < 1 ∨ 4 < t <;> simp [c] at ht ⊢)
          have HE : Hid (Rf.hasE T F q t = 1) := hide (by rw [HE3.out, HT1.out])
          rw [decide_eq_false ht] at CT
          clear ht
          go_wp2_with (go_at_call 35; refine CT.out.mono ?_; rintro _ w2 ⟨rfl, hw⟩; subst w2)
          go_ret2
          exact ⟨Rf.ret2_b (Rf.hasV_no (by rw [HE.out]; decide)).symm HE.out.symm, HB1.out⟩
  · have HE : Hid (Rf.hasE T F q t = faultM T F) := hide (Rf.hasE_bad h0)
    have HV : Hid (Rf.hasV T F m q t = false) := hide (Rf.hasV_no (by rw [HE.out]; exact h0))
    generalize faultM T F = z at *
    have hzb : (z != 0) = true := by simpa using h0
    clear h hF hB h0
    go_enter Tryz.func17, Tryz.ntmps17
    go_upto_region 1 with fail
    generalize w.alloc (.cells #[.int .i64 T.lits, .slice fa T.foes.length fc, .slice ra T.rules.length rc, .slice ba T.beats.length bc] 25) = W at *
    obtain ⟨-, c0, c1, c2, c3⟩ := Bt.of hX
    clear hX
    go_wp2_with (go_at_call 29; refine CF.out.mono ?_; rintro _ w1 ⟨rfl, hw1⟩; have HW1 := hide (HB.out.trans (hw1.mono HB.out.size)); clear hw1)
    go_ret2
    exact ⟨Rf.ret2_b HV.out.symm HE.out.symm, HW1.out⟩
set_option maxRecDepth 100000 in
set_option maxHeartbeats 6400000 in
theorem Und_any (hM : Rf.Uq T F m) (h : TA w.heap.size w T fa fc ra rc ba bc) (hF : Ints w.heap.size w F (.slice ea F.length ec)) :
    Calls Tryz.prog 21 #[tv T fa fc ra rc ba bc, .slice ea F.length ec] w fun e w' => ∃ va vc, e = .returned (.tuple #[.slice va (Rf.undL T F m).length vc, .int .i64 (faultM T F)]) ∧ At1 w' va (ints (Rf.undL T F m)) ∧ Below w.heap.size w w' := by
  have hB := below_new w (.cells #[.int .i64 T.lits, .slice fa T.foes.length fc, .slice ra T.rules.length rc, .slice ba T.beats.length bc] 25)
  have hX := heap_alloc_new w (.cells #[.int .i64 T.lits, .slice fa T.foes.length fc, .slice ra T.rules.length rc, .slice ba T.beats.length bc] 25)
  have CF := hide (fault_any (TR.go hB h) (Ints.go hB hF))
  have HB := hide hB
  by_cases h0 : faultM T F = 0
  · rw [h0] at CF
    obtain ⟨n, hn⟩ : ∃ n, T.lits.toNat = n := ⟨_, rfl⟩
    have hp := pf_of h0
    rw [hn] at hp
    have HP := hide hp
    have HM := hide hM
    have HL2 : Hid (Rf.undL T F m = soL (Rf.undP m) n) := hide (by unfold Rf.undL; rw [if_pos h0, hn])
    have HTA := hide (TR.go hB h)
    have HF := hide (Ints.go hB hF)
    have HX := hide hX
    rw [HL2.out, h0]
    clear h hF hB h0 hp hn hM
    go_enter Tryz.func21, Tryz.ntmps21
    go_upto_region 1 with fail
    generalize w.alloc (.cells #[.int .i64 T.lits, .slice fa T.foes.length fc, .slice ra T.rules.length rc, .slice ba T.beats.length bc] 25) = W at *
    obtain ⟨-, c0, c1, c2, c3⟩ := Bt.of hX
    clear hX
    go_upto_region 4 with (go_at_call 29; refine CF.out.mono ?_; rintro _ w1 ⟨rfl, hw1⟩; have HW1 := hide hw1; clear hw1)
    have HX1 := hide ((HW1.out.block _ (loc_lt HX.out)).trans HX.out)
    have HTA1 := hide (TR.go HW1.out HTA.out)
    have HF1 := hide (Ints.go HW1.out HF.out)
    have HB1 := hide (HB.out.trans (HW1.out.mono HB.out.size))
    clear c0 c1 c2 c3 CF HX HTA HF HB HW1
    obtain ⟨-, c0, c1, c2, c3⟩ := Bt.of HX1.out
    have CR := hide (run_rk (k := 0) HTA1.out HF1.out HP.out HM.out rfl)
    go_wp2_with fail
    refine CR.out.mono ?_
    rintro _ w3 ⟨K, rfl, hk, hb3⟩
    have HX3 := hide ((hb3.block _ (loc_lt HX1.out)).trans HX1.out)
    have HBn := hide (below_new w3 (.cells #[ptr K] 75))
    have HN : Hid (Fx w3.heap.size 75 [ptr K] (w3.alloc (.cells #[ptr K] 75))) := hide (heap_alloc_new w3 (.cells #[ptr K] 75))
    have HRb : Hid (Rb w3.heap.size K n m (w3.alloc (.cells #[ptr K] 75))) := hide ⟨HN.out, hk.go HBn.out⟩
    have HX4 := hide ((HBn.out.block _ (loc_lt HX3.out)).trans HX3.out)
    have HB4 := hide ((HB1.out.trans (hb3.mono HB1.out.size)).trans (HBn.out.mono (HB1.out.trans (hb3.mono HB1.out.size)).size))
    have CL := hide (literals_any (T := T) (fa := fa) (fc := fc) (ra := ra) (rc := rc) (ba := ba) (bc := bc) HP.out.ln HP.out.n4 (und_ts HRb.out))
    have f1 : (w3.alloc (.cells #[.pointer none] 75)).frozen? ⟨w3.heap.size, 0, none⟩ = false := frozen_of_row _ _ 0 _ _ (heap_alloc_new w3 _)
    clear c0 c1 c2 c3 hk hb3 CR
    obtain ⟨-, c0, c1, c2, c3⟩ := Bt.of HX4.out
    go_upto_region 5 with fail
    generalize w3.alloc (.cells #[ptr K] 75) = W4 at *
    go_wp2_with (go_at_call 38; refine CL.out.mono ?_; rintro _ w5 ⟨va, vc, rfl, hown, hb5⟩; have HO := hide hown; have HB5 := hide hb5; clear hown hb5)
    go_ret2
    exact ⟨va, vc, rfl, owns_at1 HO.out, HB4.out.trans (HB5.out.mono HB4.out.size)⟩
  · have HL2 : Hid (Rf.undL T F m = []) := hide (by unfold Rf.undL; rw [if_neg h0])
    rw [HL2.out]
    generalize faultM T F = z at *
    have hzb : (z != 0) = true := by simpa using h0
    clear h hF hB h0 HL2
    go_enter Tryz.func21, Tryz.ntmps21
    go_upto_region 1 with fail
    generalize w.alloc (.cells #[.int .i64 T.lits, .slice fa T.foes.length fc, .slice ra T.rules.length rc, .slice ba T.beats.length bc] 25) = W at *
    obtain ⟨-, c0, c1, c2, c3⟩ := Bt.of hX
    clear hX
    go_wp2_with (go_at_call 29; refine CF.out.mono ?_; rintro _ w1 ⟨rfl, hw1⟩; have HW1 := hide (HB.out.trans (hw1.mono HB.out.size)); clear hw1)
    go_ret2
    exact ⟨none, 0, rfl, fun i v hi => (by simp [ints] at hi), HW1.out⟩
end
end Go.Proofs.YtcobmbclhhimjaaGreat.Fa
/- Fast's Set. -/
namespace Go.Proofs.YtcobmbclhhimjaaGreat.Fa
open Go.RowKit

section
variable {w : World} {T : Th} {F m : List Int} {fa ra ba ea : Option Addr} {fc rc bc ec : Nat}
set_option maxRecDepth 100000 in
set_option maxHeartbeats 6400000 in
theorem Set_any (hM : Rf.Uq T F m) (h : TA w.heap.size w T fa fc ra rc ba bc) (hF : Ints w.heap.size w F (.slice ea F.length ec)) {t : Int} :
    Calls Tryz.prog 19 #[tv T fa fc ra rc ba bc, .slice ea F.length ec, .int .i64 t] w fun e w' => ∃ va vc, e = .returned (.tuple #[.slice va (Rf.setL T F m t).length vc, .int .i64 (Rf.setE T F t)]) ∧ At1 w' va (ints (Rf.setL T F m t)) ∧ Below w.heap.size w w' := by
  have hB1 := below_new w (.cells #[.int .i64 T.lits, .slice fa T.foes.length fc, .slice ra T.rules.length rc, .slice ba T.beats.length bc] 25)
  have hX1 := heap_alloc_new w (.cells #[.int .i64 T.lits, .slice fa T.foes.length fc, .slice ra T.rules.length rc, .slice ba T.beats.length bc] 25)
  have hB2 := below_new (w.alloc (.cells #[.int .i64 T.lits, .slice fa T.foes.length fc, .slice ra T.rules.length rc, .slice ba T.beats.length bc] 25)) (.cells #[.int .i64 t] 46)
  have hC := heap_alloc_new (w.alloc (.cells #[.int .i64 T.lits, .slice fa T.foes.length fc, .slice ra T.rules.length rc, .slice ba T.beats.length bc] 25)) (.cells #[.int .i64 t] 46)
  rw [show (w.alloc (.cells #[.int .i64 T.lits, .slice fa T.foes.length fc, .slice ra T.rules.length rc, .slice ba T.beats.length bc] 25)).heap.size = w.heap.size + 1 from by simp] at hC
  have hX := (hB2.block _ (loc_lt hX1)).trans hX1
  have hB := hB1.trans (hB2.mono hB1.size)
  have hTA := TR.go hB2 (TR.go hB1 h)
  have hF' := Ints.go hB2 (Ints.go hB1 hF)
  have CF := hide (fault_any hTA hF')
  have HB := hide hB
  by_cases h0 : faultM T F = 0
  · rw [h0] at CF
    obtain ⟨n, hn⟩ : ∃ n, T.lits.toNat = n := ⟨_, rfl⟩
    have hp := pf_of h0
    rw [hn] at hp
    have HP := hide hp
    have HNN := hide hn
    have HM := hide hM
    have HE2 : Hid (Rf.setE T F t = Rf.tagE t) := hide (Rf.setE_tag h0)
    have HTA := hide hTA
    have HF := hide hF'
    have HX := hide hX
    have HC := hide hC
    have d0 := Fx.get (i := 0) (vs := [.int .i64 t]) hC rfl
    clear h hF hB h0 hp hn hM hTA hF' hB1 hB2 hX1 hC
    go_enter Tryz.func19, Tryz.ntmps19
    go_upto_region 1 with fail
    generalize (w.alloc (.cells #[.int .i64 T.lits, .slice fa T.foes.length fc, .slice ra T.rules.length rc, .slice ba T.beats.length bc] 25)).alloc (.cells #[.int .i64 t] 46) = W at *
    obtain ⟨-, c0, c1, c2, c3⟩ := Bt.of hX
    clear hX
    go_upto_region 4 with (go_at_call 29; refine CF.out.mono ?_; rintro _ w1 ⟨rfl, hw1⟩; have HW1 := hide hw1; clear hw1)
    have HX1 := hide ((HW1.out.block _ (loc_lt HX.out)).trans HX.out)
    have HC1 := hide ((HW1.out.block _ (loc_lt HC.out)).trans HC.out)
    have HTA1 := hide (TR.go HW1.out HTA.out)
    have HF1 := hide (Ints.go HW1.out HF.out)
    have HB1 := hide (HB.out.trans (HW1.out.mono HB.out.size))
    clear c0 c1 c2 c3 d0 CF HX HTA HF HB HW1 HC
    obtain ⟨-, c0, c1, c2, c3⟩ := Bt.of HX1.out
    have d0 := Fx.get (i := 0) (vs := [.int .i64 t]) HC1.out rfl
    have CT := hide (isTag_any (w := w1) (t := t))
    by_cases ht : Rf.tagE t = 0
    · have HE : Hid (Rf.setE T F t = 0) := hide (by rw [HE2.out, ht])
      have HTG := hide (Rf.tag_of ht)
      have HL2 : Hid (Rf.setL T F m t = soL (Rf.tagP m t) n) := hide (by unfold Rf.setL; rw [if_pos HE.out, HNN.out])
      rw [decide_eq_true ht] at CT
      have CR := hide (run_rk (k := 0) HTA1.out HF1.out HP.out HM.out rfl)
      clear ht HE2
      go_upto_region 6 with (go_at_call 35; refine CT.out.mono ?_; rintro _ w2 ⟨rfl, hw⟩; subst w2)
      clear CT
      go_wp2_with fail
      refine CR.out.mono ?_
      rintro _ w3 ⟨K, rfl, hk, hb3⟩
      have HX3 := hide ((hb3.block _ (loc_lt HX1.out)).trans HX1.out)
      have HC3 := hide ((hb3.block _ (loc_lt HC1.out)).trans HC1.out)
      have HBn := hide (below_new w3 (.cells #[ptr K] 75))
      have HN : Hid (Fx w3.heap.size 75 [ptr K] (w3.alloc (.cells #[ptr K] 75))) := hide (heap_alloc_new w3 (.cells #[ptr K] 75))
      have HRb : Hid (Rb w3.heap.size K n m (w3.alloc (.cells #[ptr K] 75))) := hide ⟨HN.out, hk.go HBn.out⟩
      have HX4 := hide ((HBn.out.block _ (loc_lt HX3.out)).trans HX3.out)
      have HC4 := hide ((HBn.out.block _ (loc_lt HC3.out)).trans HC3.out)
      have HB4 := hide ((HB1.out.trans (hb3.mono HB1.out.size)).trans (HBn.out.mono (HB1.out.trans (hb3.mono HB1.out.size)).size))
      have CL := hide (literals_any (T := T) (fa := fa) (fc := fc) (ra := ra) (rc := rc) (ba := ba) (bc := bc) HP.out.ln HP.out.n4 (set_ts HRb.out HC4.out HTG.out))
      have f1 : (w3.alloc (.cells #[.pointer none] 75)).frozen? ⟨w3.heap.size, 0, none⟩ = false := frozen_of_row _ _ 0 _ _ (heap_alloc_new w3 _)
      clear c0 c1 c2 c3 d0 hk hb3 CR
      obtain ⟨-, c0, c1, c2, c3⟩ := Bt.of HX4.out
      go_upto_region 7 with fail
      generalize w3.alloc (.cells #[ptr K] 75) = W4 at *
      go_wp2_with (go_at_call 38; refine CL.out.mono ?_; rintro _ w5 ⟨va, vc, rfl, hown, hb5⟩; have HO := hide hown; have HB5 := hide hb5; clear hown hb5)
      go_ret2
      rw [HL2.out, HE.out]
      exact ⟨va, vc, rfl, owns_at1 HO.out, HB4.out.trans (HB5.out.mono HB4.out.size)⟩
    · have HT1 : Hid (Rf.tagE t = 1) := hide (by unfold Rf.tagE at ht ⊢; by_cases c : t < 1 ∨ 4 < t <;> simp [c] at ht ⊢)
      have HE : Hid (Rf.setE T F t = 1) := hide (by rw [HE2.out, HT1.out])
      have HL2 : Hid (Rf.setL T F m t = []) := hide (by unfold Rf.setL; rw [HE.out]; rfl)
      rw [decide_eq_false ht] at CT
      clear ht HT1 HE2
      go_wp2_with (go_at_call 35; refine CT.out.mono ?_; rintro _ w2 ⟨rfl, hw⟩; subst w2)
      go_ret2
      rw [HL2.out, HE.out]
      exact ⟨none, 0, rfl, fun i v hi => (by simp [ints] at hi), HB1.out⟩
  · have HE : Hid (Rf.setE T F t = faultM T F) := hide (Rf.setE_bad h0)
    have HL2 : Hid (Rf.setL T F m t = []) := hide (by unfold Rf.setL; rw [if_neg (by rw [HE.out]; exact h0)])
    rw [HL2.out, HE.out]
    clear HE HL2
    generalize faultM T F = z at *
    have hzb : (z != 0) = true := by simpa using h0
    clear h hF hB h0 hTA hF' hB1 hB2 hX1 hC
    go_enter Tryz.func19, Tryz.ntmps19
    go_upto_region 1 with fail
    generalize (w.alloc (.cells #[.int .i64 T.lits, .slice fa T.foes.length fc, .slice ra T.rules.length rc, .slice ba T.beats.length bc] 25)).alloc (.cells #[.int .i64 t] 46) = W at *
    obtain ⟨-, c0, c1, c2, c3⟩ := Bt.of hX
    clear hX
    go_wp2_with (go_at_call 29; refine CF.out.mono ?_; rintro _ w1 ⟨rfl, hw1⟩; have HW1 := hide (HB.out.trans (hw1.mono HB.out.size)); clear hw1)
    go_ret2
    exact ⟨none, 0, rfl, fun i v hi => (by simp [ints] at hi), HW1.out⟩
end
end Go.Proofs.YtcobmbclhhimjaaGreat.Fa
