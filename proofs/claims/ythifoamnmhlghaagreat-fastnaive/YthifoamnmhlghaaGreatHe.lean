/- A step, the beginning, the end. PLAIN. -/
import Derived.Test.YthifoamnmhlghaaGreatHd
namespace Go.Proofs.YthifoamnmhlghaaGreat.Fa

section
variable {T : Th} {F : List Int} {n k : Nat} {m : List Int} {G G' : Gho} {e e' : Es} {K : Int → Int → Bool}
theorem take_one {α : Type} {l l2 : List α} {j : Nat} {x : α} (h : l[j]? = some x) : (l ++ l2).take (j + 1) = l.take j ++ [x] := by
  have hj := (List.getElem?_eq_some_iff.1 h).1
  rw [List.take_append_of_le_length (by omega), List.take_add_one, h]
  rfl
theorem step_all (hp : Pf T F n) (hs_ : Sol T F m k) (h : Alls T F n m e) (htok : Tok n e) (hlt : e.tk < e.td.length) : Alls T F n m (stepE T F e) := by
  obtain ⟨x, hx⟩ := get_at hlt
  obtain ⟨x0, x1, xt, xh⟩ := htok.inn x (List.mem_of_getElem? hx)
  obtain ⟨G, i0, c0, t0⟩ := h.iv
  obtain ⟨q, hq⟩ := Int.eq_ofNat_of_zero_le x0
  have hK : Kof e q x.2 = false := by
    unfold Kof
    rw [decide_eq_false_iff_not, ← hq]
    intro hm
    have hn : (e.td.take (e.tk + 1)).Nodup := (List.take_sublist _ _).nodup htok.nd
    have h2 := take_one (l2 := []) hx
    rw [List.append_nil] at h2
    rw [h2, List.nodup_append] at hn
    exact hn.2.2 _ hm _ (List.mem_singleton.2 rfl) rfl
  have i1 : Iv T F n m G (takeE e) := ⟨i0.x.same rfl rfl rfl rfl rfl, ⟨i0.s.a, i0.s.nn, i0.s.c, i0.s.f, i0.s.r, i0.s.w, i0.s.cb, i0.s.mm⟩, i0.y⟩
  have c1 : Cmp T F n (Kof e) G (takeE e) := ⟨c0.c1, c0.cf, c0.c2, c0.p3, c0.cb, c0.gr, c0.gw, c0.gc, c0.c3, c0.c4, c0.co, c0.cr, c0.q2, c0.q1⟩
  obtain ⟨G1, i2, c2, t2⟩ := does_all hp hs_ i1 c1 t0 (show q < n by omega) xt (show has e q x.2 = true by rw [← hq]; exact xh) hK
  have hE : stepE T F e = doesE T F (takeE e) q x.2 := by
    unfold stepE
    rw [List.getD_eq_getElem?_getD, hx, ← hq]
    rfl
  rw [hE]
  have hg : Gro (takeE e) (doesE T F (takeE e) q x.2) := (Gro.refl i1.y).does
  obtain ⟨l, hl⟩ := hg.td
  have hKof : Kof (doesE T F (takeE e) q x.2) = addK (Kof e) q x.2 := by
    funext z u
    unfold Kof addK
    rw [hg.tk, hl, show (takeE e).tk = e.tk + 1 from rfl, show (takeE e).td = e.td from rfl, take_one hx]
    rw [Bool.eq_iff_iff]
    simp only [decide_eq_true_eq, Bool.or_eq_true, List.mem_append, List.mem_singleton]
    rw [show x = ((q : Int), x.2) from Prod.ext hq rfl, Prod.mk.injEq]
  exact ⟨⟨G1, i2, by rw [hKof]; exact c2, by rw [hKof]; exact t2⟩, hg.sm h.sm, hg.tdd h.td⟩
theorem grr_start : Grr T noG (startE T F) := by
  intro s _ p _ ho
  rcases ho with ho | ho
  · have ho : false = true := ho
    cases ho
  · have ho : false = true := ho
    cases ho
/-- Behind the bare rules. -/
theorem bare_all (hp : Pf T F n) : ∀ j : Nat, j ≤ T.rules.length → ∃ G, Iv T F n m G (bareE T j (startE T F)) ∧ Agh noG G ∧ Alk (startE T F) (bareE T j (startE T F)) ∧ Grr T G (bareE T j (startE T F)) ∧ ∀ t : Nat, t < j → teamB T t = true → bodyM T t = [] → ∀ s ∈ row T.beats t, (bareE T j (startE T F)).cb s (headOf T t) = true := by
  intro j
  induction j with
  | zero => intro _; exact ⟨noG, Iv.start, Agh.refl, Alk.refl, grr_start, fun t ht => absurd ht (by omega)⟩
  | succ j ih =>
    intro hj
    obtain ⟨G, i, g, a, r, c⟩ := ih (by omega)
    have hE : bareE T (j + 1) (startE T F) = bare1 T (bareE T j (startE T F)) j := by unfold bareE; rw [List.range_succ, List.foldl_append]; rfl
    rw [hE]
    unfold bare1
    by_cases hc : (teamB T j && (bodyM T j).isEmpty) = true
    · rw [if_pos hc]
      rw [Bool.and_eq_true, List.isEmpty_iff] at hc
      obtain ⟨G2, i2, g2, a2, cb2, m2, r2⟩ := i.defend hp (show j < T.rules.length by omega) hc.1 fun x hx => by rw [hc.2] at hx; cases hx
      refine ⟨G2, i2, g.trans g2, a.trans a2, r2 r, fun t ht htm hb s hs => ?_⟩
      by_cases e1 : t = j
      · subst e1; exact cb2 s hs
      · exact m2 _ _ (c t (by omega) htm hb s hs)
    · rw [if_neg hc]
      refine ⟨G, i, g, a, r, fun t ht htm hb s hs => ?_⟩
      by_cases e1 : t = j
      · subst e1; exact absurd (by rw [htm, hb]; rfl) hc
      · exact c t (by omega) htm hb s hs
theorem beg1_all (hp : Pf T F n) (hs_ : Sol T F m k) (h : Iv T F n m G e) : ∀ j : Nat, j ≤ n → Iv T F n m G ((List.range j).foldl (beg1 T F) e) ∧ Tem e ((List.range j).foldl (beg1 T F) e) ∧ ((List.range j).foldl (beg1 T F) e).ms = e.ms ∧ ∀ q : Nat, q < j → (firmB T F q = false → has ((List.range j).foldl (beg1 T F) e) q 2 = true) ∧ (firmB T F q = true → e.op false q = 0 → has ((List.range j).foldl (beg1 T F) e) q 1 = true) := by
  intro j
  induction j with
  | zero => intro _; exact ⟨h, Tem.refl, rfl, fun q hq => absurd hq (by omega)⟩
  | succ j ih =>
    intro hj
    obtain ⟨i, t, ms, d⟩ := ih (by omega)
    rw [List.range_succ, List.foldl_append]
    show Iv T F n m G (beg1 T F _ j) ∧ Tem e (beg1 T F _ j) ∧ (beg1 T F _ j).ms = e.ms ∧ _
    have old : ∀ {e2 : Es}, (∀ z t, isTag t → has ((List.range j).foldl (beg1 T F) e) z t = true → has e2 z t = true) → ∀ q : Nat, q < j → (firmB T F q = false → has e2 q 2 = true) ∧ (firmB T F q = true → e.op false q = 0 → has e2 q 1 = true) := fun up q hq => ⟨fun h1 => up _ _ tag2 ((d q hq).1 h1), fun h1 h2 => up _ _ tag1 ((d q hq).2 h1 h2)⟩
    generalize (List.range j).foldl (beg1 T F) e = e1 at *
    show Iv T F n m G (beg1 T F e1 j) ∧ Tem e (beg1 T F e1 j) ∧ (beg1 T F e1 j).ms = e.ms ∧ ∀ q : Nat, q < j + 1 → (firmB T F q = false → has (beg1 T F e1 j) q 2 = true) ∧ (firmB T F q = true → e.op false q = 0 → has (beg1 T F e1 j) q 1 = true)
    unfold beg1
    by_cases hfm : firmB T F j = true
    · rw [hfm]
      simp only [Bool.not_true, Bool.false_eq_true, if_false]
      by_cases h0 : e1.op false j = 0
      · rw [if_pos h0]
        have t2 := tem_tell i.y (q := (j : Int)) tag1
        have hm : hs m j 1 = true := by
          refine (sol_iff hp hs_ (by omega) (by omega) tag1).2 (plusS_iff.2 ?_)
          have h3 := i.x.op false j (by omega)
          rw [h0] at h3
          split at h3
          · rename_i h4
            rw [Bool.or_eq_true] at h4
            unfold firmB at hfm
            rw [Bool.or_eq_true] at hfm
            rcases h4 with h4 | h4
            · unfold openZ at h4
              rw [Bool.or_eq_true] at h4
              rcases h4 with h4 | h4
              · unfold bareB at h4
                obtain ⟨r, hr, hb⟩ := List.any_eq_true.1 h4
                refine .inr ⟨r, hr, ?_⟩
                unfold wholeB
                rw [List.isEmpty_iff.1 hb]
                rfl
              · rw [Bool.and_eq_true] at h4
                exact .inl (of_decide_eq_true h4.2)
            · rcases hfm with hfm | hfm
              · exact .inl (of_decide_eq_true hfm)
              · have h4 : (rulesL T kS (j : Int)).isEmpty = true := h4
                rw [h4] at hfm; cases hfm
          · omega
        refine ⟨i.tell tag1 hm, t.trans t2, tell_ms.trans ms, fun q hq => ?_⟩
        by_cases e2 : q = j
        · subst e2; exact ⟨fun h5 => (by rw [hfm] at h5; cases h5), fun _ _ => tell_has i.y tag1⟩
        · exact old t2.up q (by omega)
      · rw [if_neg h0]
        refine ⟨i, t, ms, fun q hq => ?_⟩
        by_cases e2 : q = j
        · subst e2; exact ⟨fun h5 => (by rw [hfm] at h5; cases h5), fun _ h5 => absurd (by rw [t.op]; exact h5) h0⟩
        · exact old (fun _ _ _ h => h) q (by omega)
    · have hfm : firmB T F j = false := by cases hh : firmB T F j; rfl; exact absurd hh hfm
      rw [hfm]
      simp only [Bool.not_false, if_true]
      have t2 := tem_tell i.y (q := (j : Int)) tag2
      have hm : hs m j 2 = true := by
        unfold firmB at hfm
        simp only [Bool.or_eq_false_iff, decide_eq_false_iff_not, Bool.not_eq_false', List.isEmpty_iff] at hfm
        exact (sol_iff hp hs_ (by omega) (by omega) tag2).2 (minusS_iff.2 ⟨hfm.1, fun r hr => by rw [hfm.2] at hr; cases hr⟩)
      refine ⟨i.tell tag2 hm, t.trans t2, tell_ms.trans ms, fun q hq => ?_⟩
      by_cases e2 : q = j
      · subst e2; exact ⟨fun _ => tell_has i.y tag2, fun h5 => by rw [hfm] at h5; cases h5⟩
      · exact old t2.up q (by omega)
theorem prove_ms {q : Int} : (proveE T e q).ms = e.ms := by unfold proveE; split; exact tell_ms; rfl
theorem beg2_all (hp : Pf T F n) (hs_ : Sol T F m k) (h : Iv T F n m G e) : ∀ j : Nat, j ≤ n → Iv T F n m G ((List.range j).foldl (beg2 T) e) ∧ Tem e ((List.range j).foldl (beg2 T) e) ∧ ((List.range j).foldl (beg2 T) e).ms = e.ms ∧ ∀ q : Nat, q < j → (rulesL T kT q).any (used e) = true → e.ob q = 0 → has ((List.range j).foldl (beg2 T) e) q 3 = true := by
  intro j
  induction j with
  | zero => intro _; exact ⟨h, Tem.refl, rfl, fun q hq => absurd hq (by omega)⟩
  | succ j ih =>
    intro hj
    obtain ⟨i, t, ms, d⟩ := ih (by omega)
    rw [List.range_succ, List.foldl_append]
    generalize (List.range j).foldl (beg2 T) e = e1 at *
    show Iv T F n m G (beg2 T e1 j) ∧ Tem e (beg2 T e1 j) ∧ (beg2 T e1 j).ms = e.ms ∧ ∀ q : Nat, q < j + 1 → (rulesL T kT q).any (used e) = true → e.ob q = 0 → has (beg2 T e1 j) q 3 = true
    unfold beg2
    have first : Iv T F n m G (if has e1 j 1 = true then tell e1 j 3 else e1) ∧ Tem e1 (if has e1 j 1 = true then tell e1 j 3 else e1) ∧ (if has e1 j 1 = true then tell e1 j 3 else e1).ms = e1.ms := by
      by_cases h1 : has e1 j 1 = true
      · rw [if_pos h1]
        exact ⟨i.tell tag3 ((sol_iff hp hs_ (by omega) (by omega) tag3).2 (plusD_iff.2 (.inl (i.s.mm j 1 (by omega) (by omega) tag1 h1)))), tem_tell i.y tag3, tell_ms⟩
      · rw [if_neg h1]
        exact ⟨i, Tem.refl, rfl⟩
    generalize (if has e1 j 1 = true then tell e1 j 3 else e1) = e2 at *
    obtain ⟨i2, t2, ms2⟩ := first
    obtain ⟨i3, t3, o3, c3, p3, v3⟩ := i2.prove hp hs_ (show j < n by omega)
    have t3' : Tem e2 (proveE T e2 j) := ⟨t3.rf, t3.cb, c3, o3, p3, t3.tk, by rw [t3.ms], t3.up, t3.td⟩
    obtain ⟨i4, t4, ms4, -⟩ := i3.disprove hp hs_ (show j < n by omega)
    have tt := t2.trans (t3'.trans t4)
    refine ⟨i4, t.trans tt, ms4.trans (t3.ms.trans (ms2.trans ms)), fun q hq hu h0 => ?_⟩
    by_cases e5 : q = j
    · subst e5
      refine t4.up _ _ tag3 (v3 ?_ ?_)
      · rw [used_ms (ms2.trans ms)]; exact hu
      · rw [t2.ob, t.ob]; exact h0
    · exact tt.up _ _ tag3 (d q (by omega) hu h0)
theorem start_all (hp : Pf T F n) (hs_ : Sol T F m k) : Alls T F n m (layE T F n) := by
  obtain ⟨G, i0, g0, a0, r0, b0⟩ := bare_all (m := m) hp T.rules.length (Nat.le_refl _)
  have hby0 : ∀ q, isByte ((startE T F).mq q) := fun _ => (show isByte 0 by unfold isByte; omega)
  have hg : Gro (startE T F) (beginE T F n (bareE T T.rules.length (startE T F))) := (Gro.refl hby0).bare.begin
  have hEq : beginE T F n (bareE T T.rules.length (startE T F)) = (List.range n).foldl (beg2 T) ((List.range n).foldl (beg1 T F) (bareE T T.rules.length (startE T F))) := rfl
  rw [hEq] at hg
  generalize hE0 : bareE T T.rules.length (startE T F) = e0 at *
  obtain ⟨i1, t1, m1, d1⟩ := beg1_all hp hs_ i0 n (Nat.le_refl _)
  generalize hE1 : (List.range n).foldl (beg1 T F) e0 = e1 at *
  obtain ⟨i2, t2, m2, d2⟩ := beg2_all hp hs_ i1 n (Nat.le_refl _)
  have hL : layE T F n = { (List.range n).foldl (beg2 T) e1 with up := 0 } := by unfold layE; rw [hE0, hEq]
  generalize (List.range n).foldl (beg2 T) e1 = e2 at *
  have t12 := t1.trans t2
  have hrf : ∀ b s, e2.rf b s = false := fun b s => by rw [t12.rf, a0.rf]; rfl
  have hga : ∀ b r x, G.a b r x = false := fun b r x => by rw [g0.a]; rfl
  have hbody : ∀ b (r : Nat), r < T.rules.length → kindB T (kW b) r = true → e2.ms b r = 0 → bodyM T r = [] := fun b r hr hk h0 => by
    rw [i2.x.ms b r hr hk, lf_zero] at h0
    cases hb : bodyM T r with
    | nil => rfl
    | cons x l => have := h0 x (by rw [hb]; exact List.mem_cons_self); rw [hga] at this; cases this
  have one : ∀ q : Nat, q < n → openZ T F false q = true → firmB T F q = true → has e2 q 1 = true := fun q hq ho hfm => by
    refine t2.up _ _ tag1 ((d1 q hq).2 hfm ?_)
    rw [i0.x.op false q hq, ho]
    rfl
  have htk : e2.tk = 0 := by rw [t12.tk, a0.tk]; rfl
  have hK : ∀ z u, Kof e2 z u = false := fun z u => by unfold Kof; rw [htk]; rfl
  have cmp : Cmp T F n (Kof e2) G e2 := by
    refine ⟨fun r hr hk h0 => ?_, fun q hq => ?_, fun q hq hF hall => ?_, fun q hq hu h0 => ?_, fun t ht1 ht hu s hs => ?_, fun s hs p hp ho => ?_, fun t _ _ h => (by rw [hrf] at h; cases h), fun b r _ _ h => (by rw [hrf] at h; cases h), fun q h => (by rw [hK] at h; cases h), fun q _ h => (by rw [hK] at h; cases h), fun q _ h => (by rw [hK] at h; cases h), fun q _ h => (by rw [hK] at h; cases h), fun q h => (by rw [hK] at h; cases h), fun q h => (by rw [hK] at h; cases h)⟩
    · obtain ⟨hd, ehd, hdn⟩ := head_nat hp hr
      have hb := hbody false r hr hk h0
      have hrm := kind_mem hr hk
      rw [ehd] at hrm ⊢
      refine one hd hdn ?_ ?_
      · unfold openZ
        have : bareB T (kL false) hd = true := List.any_eq_true.2 ⟨r, hrm, by rw [hb]; rfl⟩
        rw [this]; rfl
      · unfold firmB
        cases hl : rulesL T kS (hd : Int) with
        | nil => rw [hl] at hrm; cases hrm
        | cons _ _ => simp
    · obtain ⟨q0, q1⟩ := hp.fact q hq
      obtain ⟨z, rfl⟩ := Int.eq_ofNat_of_zero_le q0
      refine one z (by omega) ?_ ?_
      · unfold openZ; simp [hq]
      · unfold firmB; simp [hq]
    · refine t2.up _ _ tag2 ((d1 q hq).1 ?_)
      unfold firmB
      cases hl : rulesL T kS (q : Int) with
      | nil => simp [hF]
      | cons r l => have := hall r (by rw [hl]; exact List.mem_cons_self); rw [hrf] at this; cases this
    · exact d2 q hq (by rw [used_ms m2] at hu; exact hu) (by rw [t2.ob] at h0; exact h0)
    · rw [t12.cb]
      exact b0 t ht1 ht (hbody true t ht1 (kA_kind ht1) (of_decide_eq_true hu)) s hs
    · exact r0 s hs p hp (by rw [t12.rf, t12.cb] at ho; exact ho)
  have tie : Tie T F (Kof e2) G := ⟨fun b r x _ _ _ => (by rw [hga, hK]), fun b r x _ _ _ => (by rw [hK, g0.n]; exact Iff.rfl), fun f p _ _ => (by rw [hK, g0.f]; exact Iff.rfl)⟩
  rw [hL]
  refine ⟨⟨G, ⟨i2.x.same rfl rfl rfl rfl rfl, ⟨i2.s.a, i2.s.nn, i2.s.c, i2.s.f, i2.s.r, i2.s.w, i2.s.cb, i2.s.mm⟩, i2.y⟩, ⟨cmp.c1, cmp.cf, cmp.c2, cmp.p3, cmp.cb, cmp.gr, cmp.gw, cmp.gc, cmp.c3, cmp.c4, cmp.co, cmp.cr, cmp.q2, cmp.q1⟩, tie⟩, fun q => hg.sm (fun _ => (by decide : (0 : Int) < 16)) q, hg.tdd fun z t ht h => ?_⟩
  have h : hb 0 t = true := h
  rw [hb_zero ht] at h
  cases h
end
end Go.Proofs.YthifoamnmhlghaaGreat.Fa
