/- A rule. -/
import Derived.Test.YtbdlgglbcaoakaaGreatPartL8
namespace Go.Proofs.YtbdlgglbcaoakaaGreat
open Go.RowKit Go.Shelf Go.Maps Go.WideMaps

theorem bodyM_len {C : Ctx} (hp : ∀ p ∈ C.preds, p.kinds.length ≤ 4) : ∀ {l : List PremM} {v v' : Scope}, bodyM C v l = .ok v' → v'.length ≤ v.length + 64 * l.length
  | [], v, v', h => by rw [← ok_inj h]; omega
  | p :: r, v, v', h => by
    unfold bodyM at h
    obtain ⟨v2, h2, h⟩ := ex_ok h
    have := premM_len hp h2
    have := bodyM_len hp h
    simp only [List.length_cons]
    omega
theorem partsM_len {C : Ctx} (hp : ∀ p ∈ C.preds, p.kinds.length ≤ 4) {t : RuleM} {v' : Scope} (h : partsM C t = .ok v') : v'.length ≤ 64 * t.body.length + 4 := by
  unfold partsM at h
  obtain ⟨v2, h2, h⟩ := ex_ok h
  obtain ⟨x, h3, h⟩ := ex_ok h
  have := bodyM_len hp h2
  have := literalM_len hp h3
  rw [← ok_inj h]
  simp only [List.length_nil] at *
  omega
theorem owns_at1 {w : World} {e : Nat} {a : Option Addr} {n c : Nat} {xs : List Value} (h : w.ownsRow 0 e 1 (.slice a n c) n xs) : At1 w a xs := by
  intro i x hx
  obtain ⟨g, c', e1, h2, _⟩ := owns_at h hx
  cases e1
  exact ⟨g, 0, rfl, by rw [Nat.zero_add]; exact h2⟩
section
variable {R : Nat} {S : StatM} {st : St9} {mp : Mp8} {it : Nat} {seen : List Bytes} {w : World}
set_option maxRecDepth 100000 in
set_option maxHeartbeats 12800000 in
theorem rule0_any (h : Res R S st mp it seen w) (hp4 : ∀ p ∈ S.preds, p.kinds.length ≤ 4) (n : Nat) (t : RuleM) (ht : t.till = 0) {ba ka : Option Addr} {bc kc : Nat} (hnl : t.name.length ≤ maxLen) (hsl : t.source.length ≤ maxLen) (hb : Prems R w t.body (.slice ba t.body.length bc)) (hpr : t.head.pred.length ≤ maxLen) (hka : Strs R w t.head.args (.slice ka t.head.args.length kc)) :
    Calls Tryz.prog 72 #[ptr R, .int .i64 n, .agg (ruleV t ba ka bc kc)] w fun e w' => Ed w it rU (ruleM S.ctx S.srcs S.heads n t) e w' := by
  have hR0 := loc_lt h.box
  have hbl : t.body.length ≤ 140737488351232 := by obtain ⟨_, _, _, _, h⟩ := hb.form; exact h
  obtain ⟨nm, sc, day, till, body, arrow, head⟩ := t
  simp only at ht hnl hsl hb hpr hka hbl
  subst ht
  have HP4c : Hid (∀ p ∈ S.ctx.preds, p.kinds.length ≤ 4) := hp4
  have hA : Below w.heap.size w (w.alloc (.cells #[.string ⟨nm.toArray⟩, .string ⟨sc.toArray⟩, .int .i64 day, .int .i64 0, .slice ba body.length bc, .int .i64 arrow, .bool head.neg, .string ⟨head.pred.toArray⟩, .slice ka head.args.length kc, .bool head.hasValue, .int .i64 head.value] 49)) := (Below.refl _ _).alloc (Nat.le_refl _) _
  have hR := h.below hA
  have HA := hide hA
  have HRR := hide hR
  have C := hide (fun X hX => called_any (hR.like (w' := X) hX).c9 (hR.like (w' := X) hX).mR nm hnl n)
  have CF := hide (fun X hX => find_any (hR.like (w' := X) hX).c9 (hR.like (w' := X) hX).mS sc hsl 88)
  have CD := hide (fun (X : World) => day_any day X)
  have CT := hide (fun (X : World) => day_any 0 X)
  have CP : Hid (∀ X, Lk (w.alloc (.cells #[.string ⟨nm.toArray⟩, .string ⟨sc.toArray⟩, .int .i64 day, .int .i64 0, .slice ba body.length bc, .int .i64 arrow, .bool head.neg, .string ⟨head.pred.toArray⟩, .slice ka head.args.length kc, .bool head.hasValue, .int .i64 head.value] 49)) X → body.length ≤ 16 → Calls Tryz.prog 101 #[ptr R, .agg #[.string ⟨nm.toArray⟩, .string ⟨sc.toArray⟩, .int .i64 day, .int .i64 0, .slice ba body.length bc, .int .i64 arrow, .bool head.neg, .string ⟨head.pred.toArray⟩, .slice ka head.args.length kc, .bool head.hasValue, .int .i64 head.value]] X fun e w' => Ep X it (partsM S.ctx ⟨nm, sc, day, 0, body, arrow, head⟩) e w') := fun X hX h16 => parts_any (hR.like hX) hp4 ⟨nm, sc, day, 0, body, arrow, head⟩ (Prems.keep (fun g hg => (hX.below.block g (by have := hA.size; omega)).trans (hA.block g (by omega))) hb) hpr (Strs.keep (fun g hg => (hX.below.block g (by have := hA.size; omega)).trans (hA.block g (by omega))) hka) h16
  have c13 := hR.c13
  have c14 := hR.c14
  obtain ⟨o, ho⟩ : ∃ o, ruleM S.ctx S.srcs S.heads n ⟨nm, sc, day, 0, body, arrow, head⟩ = o := ⟨_, rfl⟩
  rw [ho]
  have HO := hide ho
  unfold ruleM at HO
  simp only at HO
  unfold str ruleV at *
  simp only at *
  clear h hA hR ho hb hka hp4
  go_enter Tryz.func72, Tryz.ntmps72
  go_upto_region 1 with fail
  refine region_last (by kernel_rfl) (by kernel_rfl) (by kernel_rfl) (by kernel_rfl) (by kernel_rfl) ?_
  dsimp only [List.dropLast, List.getLast, List.cons_append, List.nil_append]
  repeat (go_big_quiet_step (fail))
  refine wpQuiet_nil ?_
  rintro _ ⟨nq, rfl⟩
  go_wp2_with fail
  refine (C.out _ .of).mono ?_
  intro e w1 hE
  rcases hE.no with ⟨c1, h3, rfl, hw⟩ | ⟨_, h3, rfl, hw⟩
  · subst w1
    exact on_panic rfl (Ed.bad (ex_no HO.out h3) (HA.out.trans ((Lk.of (w := (w.alloc (.cells #[.string ⟨nm.toArray⟩, .string ⟨sc.toArray⟩, .int .i64 day, .int .i64 0, .slice ba body.length bc, .int .i64 arrow, .bool head.neg, .string ⟨head.pred.toArray⟩, .slice ka head.args.length kc, .bool head.hasValue, .int .i64 head.value] 49)))).below.mono HA.out.size)))
  subst w1
  have HO1 := hide (ex_go HO.out h3)
  clear hE h3 HO C
  go_upto_region 2 with fail
  refine region_last (by kernel_rfl) (by kernel_rfl) (by kernel_rfl) (by kernel_rfl) (by kernel_rfl) ?_
  dsimp only [List.dropLast, List.getLast, List.cons_append, List.nil_append]
  repeat (go_big_quiet_step (fail))
  refine wpQuiet_nil ?_
  rintro Y ⟨nq2, hY⟩
  have hLk : Lk (w.alloc (.cells #[.string ⟨nm.toArray⟩, .string ⟨sc.toArray⟩, .int .i64 day, .int .i64 0, .slice ba body.length bc, .int .i64 arrow, .bool head.neg, .string ⟨head.pred.toArray⟩, .slice ka head.args.length kc, .bool head.hasValue, .int .i64 head.value] 49)) Y := by rw [hY]; exact .of
  have HL := hide hLk
  have HD := hide (HA.out.trans (hLk.below.mono HA.out.size))
  have hbY : Y.heap[w.heap.size]? = some (.cells #[.string ⟨nm.toArray⟩, .string ⟨sc.toArray⟩, .int .i64 day, .int .i64 0, .slice ba body.length bc, .int .i64 arrow, .bool head.neg, .string ⟨head.pred.toArray⟩, .slice ka head.args.length kc, .bool head.hasValue, .int .i64 head.value] 49 (0, 0)) := by rw [hLk.heap]; exact heap_alloc_new w _
  have RY := HRR.out.like hLk
  have CW := hide (fun b c => want_any RY.c9 b c)
  have HRY := hide RY
  have y0 := cell_of_row Y w.heap.size 0 _ _ _ hbY
  have y1 := cell_of_row Y w.heap.size 1 _ _ _ hbY
  have y2 := cell_of_row Y w.heap.size 2 _ _ _ hbY
  have y3 := cell_of_row Y w.heap.size 3 _ _ _ hbY
  have y4 := cell_of_row Y w.heap.size 4 _ _ _ hbY
  have y5 := cell_of_row Y w.heap.size 5 _ _ _ hbY
  have y6 := cell_of_row Y w.heap.size 6 _ _ _ hbY
  have y7 := cell_of_row Y w.heap.size 7 _ _ _ hbY
  have y8 := cell_of_row Y w.heap.size 8 _ _ _ hbY
  have y9 := cell_of_row Y w.heap.size 9 _ _ _ hbY
  have y10 := cell_of_row Y w.heap.size 10 _ _ _ hbY
  simp only [List.getElem?_toArray, List.getElem?_cons_zero, List.getElem?_cons_succ] at y0 y1 y2 y3 y4 y5 y6 y7 y8 y9 y10
  have CF2 := hide (CF.out Y hLk)
  have CP2 := hide (CP.out Y hLk)
  clear hY hLk hbY RY CF CP HRR c13 c14
  go_wp2_with fail
  refine CF2.out.mono ?_
  intro e w1 hE
  rcases hE.no with ⟨c1, h3, rfl, hw⟩ | ⟨_, h3, rfl, hw⟩
  · subst w1
    exact on_panic rfl (Ed.bad (ex_no HO1.out h3) HD.out)
  subst w1
  have HO2 := hide (ex_go HO1.out h3)
  clear hE h3 HO1 CF2
  cases hd : dayB day with
  | false =>
    rw [hd] at CD HO2
    rw [Bool.false_and] at HO2
    go_wp2_with (go_at_call 100; refine (CD.out _).mono ?_; rintro _ wn ⟨rfl, hwn⟩; subst wn)
    refine (CW.out _ _).mono ?_
    intro e w2 hE
    rcases hE.no with ⟨c1, h3, rfl, hw⟩ | ⟨_, h3, rfl, hw⟩
    · subst w2
      exact on_panic rfl (Ed.bad (ex_no HO2.out h3) HD.out)
    · cases h3
  | true =>
  rw [hd] at CD HO2
  rw [Bool.true_and] at HO2
  simp only [decide_true, Bool.true_or] at HO2
  go_wp2_with (go_at_call 100; refine (CD.out _).mono ?_; rintro _ wn ⟨rfl, hwn⟩; subst wn)
  refine (CW.out _ _).mono ?_
  intro e w2 hE
  rcases hE.no with ⟨c1, h3, rfl, hw⟩ | ⟨_, h3, rfl, hw⟩
  · cases h3
  subst w2
  have HO3 := hide (ex_go HO2.out h3)
  clear hE h3 HO2 CD CT hd
  go_wp2_with fail
  refine (CW.out _ _).mono ?_
  intro e w2 hE
  rcases hE.no with ⟨c1, h3, rfl, hw⟩ | ⟨_, h3, rfl, hw⟩
  · cases h3
  subst w2
  have HO4 := hide (ex_go HO3.out h3)
  clear hE h3 HO3 
  by_cases ha : arrow < 1
  · rw [decide_eq_false (by omega), Bool.false_and] at HO4
    go_wp2_with fail
    refine (CW.out _ _).mono ?_
    intro e w2 hE
    rcases hE.no with ⟨c1, h3, rfl, hw⟩ | ⟨_, h3, rfl, hw⟩
    · subst w2
      exact on_panic rfl (Ed.bad (ex_no HO4.out h3) HD.out)
    · cases h3
  rw [decide_eq_true (show 1 ≤ arrow by omega), Bool.true_and] at HO4
  go_wp2_with fail
  refine (CW.out _ _).mono ?_
  intro e w2 hE
  rcases hE.no with ⟨c1, h3, rfl, hw⟩ | ⟨_, h3, rfl, hw⟩
  · subst w2
    exact on_panic rfl (Ed.bad (ex_no HO4.out h3) HD.out)
  subst w2
  have HO5 := hide (ex_go HO4.out h3)
  clear hE h3 HO4 ha
  go_wp2_with fail
  refine (CW.out _ _).mono ?_
  intro e w2 hE
  rcases hE.no with ⟨c1, h3, rfl, hw⟩ | ⟨_, h3, rfl, hw⟩
  · subst w2
    exact on_panic rfl (Ed.bad (ex_no HO5.out h3) HD.out)
  subst w2
  have HO6 := hide (ex_go HO5.out h3)
  have h16 : body.length ≤ 16 := by
    apply Classical.byContradiction
    intro hn
    rw [decide_eq_false (show ¬ ((body.length : Int) ≤ 16) by omega)] at h3
    cases h3
  clear hE h3 HO5 
  have CP3 := hide (CP2.out h16)
  clear CP2
  go_wp2_with fail
  refine CP3.out.mono ?_
  intro e w2 hE
  rcases hE.no with ⟨c1, h3, rfl, hf⟩ | ⟨v2, Z, V, M, nv, kv, h3, rfl, hs, hz, hf⟩
  · exact on_panic rfl (Ed.bad (ex_no HO6.out h3) (HD.out.trans (hf.mono HD.out.size)))
  have HO7 := hide (ex_go HO6.out h3)
  have hv2 := partsM_len HP4c.out h3
  simp only at hv2
  obtain ⟨ka2, kc2, rfl⟩ := owns_slice hs.rowK
  have HS := hide (hs)
  have RW := HRY.out.below hf
  have q1 := cell_of_row w2 V 1 _ _ _ hs.box
  simp only [List.getElem?_toArray, List.getElem?_cons_zero, List.getElem?_cons_succ] at q1
  have hkl : v2.kinds.length = v2.length := by unfold Scope.kinds; simp
  have CH := hide (hasI_any (c := kc2) (owns_at1 hs.rowK) (by rw [hkl]; omega) (-1))
  rw [hkl] at CH
  have CW2 := hide (fun b c => want_any RW.c9 b c)
  have HD2 := hide (HD.out.trans (hf.mono HD.out.size))
  clear hE h3 hs hf CP3 CW HO6 RW HRY y0 y1 y2 y3 y4 y5 y6 y7 y8 y9 y10
  go_wp2_with fail
  refine CH.out.mono ?_
  rintro _ wn ⟨rfl, hwn⟩
  subst wn
  go_wp2_with fail
  refine (CW2.out _ _).mono ?_
  intro e w3 hE
  rcases hE.no with ⟨c1, h3, rfl, hw⟩ | ⟨_, h3, rfl, hw⟩
  · subst w3
    exact on_panic rfl (Ed.bad (h3.symm.trans HO7.out) HD2.out)
  subst w3
  go_wp2_with fail
  go_end0
  exact Ed.ok (h3.symm.trans HO7.out) rfl HD2.out

set_option maxRecDepth 100000 in
set_option maxHeartbeats 12800000 in
theorem rule1_any (h : Res R S st mp it seen w) (hp4 : ∀ p ∈ S.preds, p.kinds.length ≤ 4) (n : Nat) (t : RuleM) (ht : ¬ t.till = 0) {ba ka : Option Addr} {bc kc : Nat} (hnl : t.name.length ≤ maxLen) (hsl : t.source.length ≤ maxLen) (hb : Prems R w t.body (.slice ba t.body.length bc)) (hpr : t.head.pred.length ≤ maxLen) (hka : Strs R w t.head.args (.slice ka t.head.args.length kc)) :
    Calls Tryz.prog 72 #[ptr R, .int .i64 n, .agg (ruleV t ba ka bc kc)] w fun e w' => Ed w it rU (ruleM S.ctx S.srcs S.heads n t) e w' := by
  have hR0 := loc_lt h.box
  have hbl : t.body.length ≤ 140737488351232 := by obtain ⟨_, _, _, _, h⟩ := hb.form; exact h
  obtain ⟨nm, sc, day, till, body, arrow, head⟩ := t
  simp only at ht hnl hsl hb hpr hka hbl
  have hbt : (till == 0) = false := by simpa using ht
  have HP4c : Hid (∀ p ∈ S.ctx.preds, p.kinds.length ≤ 4) := hp4
  have hA : Below w.heap.size w (w.alloc (.cells #[.string ⟨nm.toArray⟩, .string ⟨sc.toArray⟩, .int .i64 day, .int .i64 till, .slice ba body.length bc, .int .i64 arrow, .bool head.neg, .string ⟨head.pred.toArray⟩, .slice ka head.args.length kc, .bool head.hasValue, .int .i64 head.value] 49)) := (Below.refl _ _).alloc (Nat.le_refl _) _
  have hR := h.below hA
  have HA := hide hA
  have HRR := hide hR
  have C := hide (fun X hX => called_any (hR.like (w' := X) hX).c9 (hR.like (w' := X) hX).mR nm hnl n)
  have CF := hide (fun X hX => find_any (hR.like (w' := X) hX).c9 (hR.like (w' := X) hX).mS sc hsl 88)
  have CD := hide (fun (X : World) => day_any day X)
  have CT := hide (fun (X : World) => day_any till X)
  have CP : Hid (∀ X, Lk (w.alloc (.cells #[.string ⟨nm.toArray⟩, .string ⟨sc.toArray⟩, .int .i64 day, .int .i64 till, .slice ba body.length bc, .int .i64 arrow, .bool head.neg, .string ⟨head.pred.toArray⟩, .slice ka head.args.length kc, .bool head.hasValue, .int .i64 head.value] 49)) X → body.length ≤ 16 → Calls Tryz.prog 101 #[ptr R, .agg #[.string ⟨nm.toArray⟩, .string ⟨sc.toArray⟩, .int .i64 day, .int .i64 till, .slice ba body.length bc, .int .i64 arrow, .bool head.neg, .string ⟨head.pred.toArray⟩, .slice ka head.args.length kc, .bool head.hasValue, .int .i64 head.value]] X fun e w' => Ep X it (partsM S.ctx ⟨nm, sc, day, till, body, arrow, head⟩) e w') := fun X hX h16 => parts_any (hR.like hX) hp4 ⟨nm, sc, day, till, body, arrow, head⟩ (Prems.keep (fun g hg => (hX.below.block g (by have := hA.size; omega)).trans (hA.block g (by omega))) hb) hpr (Strs.keep (fun g hg => (hX.below.block g (by have := hA.size; omega)).trans (hA.block g (by omega))) hka) h16
  have c13 := hR.c13
  have c14 := hR.c14
  obtain ⟨o, ho⟩ : ∃ o, ruleM S.ctx S.srcs S.heads n ⟨nm, sc, day, till, body, arrow, head⟩ = o := ⟨_, rfl⟩
  rw [ho]
  have HO := hide ho
  unfold ruleM at HO
  simp only at HO
  unfold str ruleV at *
  simp only at *
  clear h hA hR ho hb hka hp4
  go_enter Tryz.func72, Tryz.ntmps72
  go_upto_region 1 with fail
  refine region_last (by kernel_rfl) (by kernel_rfl) (by kernel_rfl) (by kernel_rfl) (by kernel_rfl) ?_
  dsimp only [List.dropLast, List.getLast, List.cons_append, List.nil_append]
  repeat (go_big_quiet_step (fail))
  refine wpQuiet_nil ?_
  rintro _ ⟨nq, rfl⟩
  go_wp2_with fail
  refine (C.out _ .of).mono ?_
  intro e w1 hE
  rcases hE.no with ⟨c1, h3, rfl, hw⟩ | ⟨_, h3, rfl, hw⟩
  · subst w1
    exact on_panic rfl (Ed.bad (ex_no HO.out h3) (HA.out.trans ((Lk.of (w := (w.alloc (.cells #[.string ⟨nm.toArray⟩, .string ⟨sc.toArray⟩, .int .i64 day, .int .i64 till, .slice ba body.length bc, .int .i64 arrow, .bool head.neg, .string ⟨head.pred.toArray⟩, .slice ka head.args.length kc, .bool head.hasValue, .int .i64 head.value] 49)))).below.mono HA.out.size)))
  subst w1
  have HO1 := hide (ex_go HO.out h3)
  clear hE h3 HO C
  go_upto_region 2 with fail
  refine region_last (by kernel_rfl) (by kernel_rfl) (by kernel_rfl) (by kernel_rfl) (by kernel_rfl) ?_
  dsimp only [List.dropLast, List.getLast, List.cons_append, List.nil_append]
  repeat (go_big_quiet_step (fail))
  refine wpQuiet_nil ?_
  rintro Y ⟨nq2, hY⟩
  have hLk : Lk (w.alloc (.cells #[.string ⟨nm.toArray⟩, .string ⟨sc.toArray⟩, .int .i64 day, .int .i64 till, .slice ba body.length bc, .int .i64 arrow, .bool head.neg, .string ⟨head.pred.toArray⟩, .slice ka head.args.length kc, .bool head.hasValue, .int .i64 head.value] 49)) Y := by rw [hY]; exact .of
  have HL := hide hLk
  have HD := hide (HA.out.trans (hLk.below.mono HA.out.size))
  have hbY : Y.heap[w.heap.size]? = some (.cells #[.string ⟨nm.toArray⟩, .string ⟨sc.toArray⟩, .int .i64 day, .int .i64 till, .slice ba body.length bc, .int .i64 arrow, .bool head.neg, .string ⟨head.pred.toArray⟩, .slice ka head.args.length kc, .bool head.hasValue, .int .i64 head.value] 49 (0, 0)) := by rw [hLk.heap]; exact heap_alloc_new w _
  have RY := HRR.out.like hLk
  have CW := hide (fun b c => want_any RY.c9 b c)
  have HRY := hide RY
  have y0 := cell_of_row Y w.heap.size 0 _ _ _ hbY
  have y1 := cell_of_row Y w.heap.size 1 _ _ _ hbY
  have y2 := cell_of_row Y w.heap.size 2 _ _ _ hbY
  have y3 := cell_of_row Y w.heap.size 3 _ _ _ hbY
  have y4 := cell_of_row Y w.heap.size 4 _ _ _ hbY
  have y5 := cell_of_row Y w.heap.size 5 _ _ _ hbY
  have y6 := cell_of_row Y w.heap.size 6 _ _ _ hbY
  have y7 := cell_of_row Y w.heap.size 7 _ _ _ hbY
  have y8 := cell_of_row Y w.heap.size 8 _ _ _ hbY
  have y9 := cell_of_row Y w.heap.size 9 _ _ _ hbY
  have y10 := cell_of_row Y w.heap.size 10 _ _ _ hbY
  simp only [List.getElem?_toArray, List.getElem?_cons_zero, List.getElem?_cons_succ] at y0 y1 y2 y3 y4 y5 y6 y7 y8 y9 y10
  have CF2 := hide (CF.out Y hLk)
  have CP2 := hide (CP.out Y hLk)
  clear hY hLk hbY RY CF CP HRR c13 c14
  go_wp2_with fail
  refine CF2.out.mono ?_
  intro e w1 hE
  rcases hE.no with ⟨c1, h3, rfl, hw⟩ | ⟨_, h3, rfl, hw⟩
  · subst w1
    exact on_panic rfl (Ed.bad (ex_no HO1.out h3) HD.out)
  subst w1
  have HO2 := hide (ex_go HO1.out h3)
  clear hE h3 HO1 CF2
  cases hd : dayB day with
  | false =>
    rw [hd] at CD HO2
    rw [Bool.false_and] at HO2
    go_wp2_with (go_at_call 100; refine (CD.out _).mono ?_; rintro _ wn ⟨rfl, hwn⟩; subst wn)
    refine (CW.out _ _).mono ?_
    intro e w2 hE
    rcases hE.no with ⟨c1, h3, rfl, hw⟩ | ⟨_, h3, rfl, hw⟩
    · subst w2
      exact on_panic rfl (Ed.bad (ex_no HO2.out h3) HD.out)
    · cases h3
  | true =>
  rw [hd] at CD HO2
  rw [Bool.true_and] at HO2
  rw [decide_eq_false ht, Bool.false_or] at HO2
  cases hd2 : dayB till with
  | false =>
    rw [hd2] at CT HO2
    go_wp2_with fail
    refine (CD.out _).mono ?_
    rintro _ wn ⟨rfl, hwn⟩
    subst wn
    go_wp2_with fail
    refine (CT.out _).mono ?_
    rintro _ wn ⟨rfl, hwn⟩
    subst wn
    go_wp2_with fail
    refine (CW.out _ _).mono ?_
    intro e w2 hE
    rcases hE.no with ⟨c1, h3, rfl, hw⟩ | ⟨_, h3, rfl, hw⟩
    · subst w2
      exact on_panic rfl (Ed.bad (ex_no HO2.out h3) HD.out)
    · cases h3
  | true =>
  rw [hd2] at CT HO2
  go_wp2_with fail
  refine (CD.out _).mono ?_
  rintro _ wn ⟨rfl, hwn⟩
  subst wn
  go_wp2_with fail
  refine (CT.out _).mono ?_
  rintro _ wn ⟨rfl, hwn⟩
  subst wn
  go_wp2_with fail
  refine (CW.out _ _).mono ?_
  intro e w2 hE
  rcases hE.no with ⟨c1, h3, rfl, hw⟩ | ⟨_, h3, rfl, hw⟩
  · cases h3
  subst w2
  have HO3 := hide (ex_go HO2.out h3)
  clear hE h3 HO2 CD CT hd hd2
  rw [Bool.false_or] at HO3
  go_wp2_with fail
  refine (CW.out _ _).mono ?_
  intro e w2 hE
  rcases hE.no with ⟨c1, h3, rfl, hw⟩ | ⟨_, h3, rfl, hw⟩
  · subst w2
    exact on_panic rfl (Ed.bad (ex_no HO3.out h3) HD.out)
  subst w2
  have HO4 := hide (ex_go HO3.out h3)
  clear hE h3 HO3 
  by_cases ha : arrow < 1
  · rw [decide_eq_false (by omega), Bool.false_and] at HO4
    go_wp2_with fail
    refine (CW.out _ _).mono ?_
    intro e w2 hE
    rcases hE.no with ⟨c1, h3, rfl, hw⟩ | ⟨_, h3, rfl, hw⟩
    · subst w2
      exact on_panic rfl (Ed.bad (ex_no HO4.out h3) HD.out)
    · cases h3
  rw [decide_eq_true (show 1 ≤ arrow by omega), Bool.true_and] at HO4
  go_wp2_with fail
  refine (CW.out _ _).mono ?_
  intro e w2 hE
  rcases hE.no with ⟨c1, h3, rfl, hw⟩ | ⟨_, h3, rfl, hw⟩
  · subst w2
    exact on_panic rfl (Ed.bad (ex_no HO4.out h3) HD.out)
  subst w2
  have HO5 := hide (ex_go HO4.out h3)
  clear hE h3 HO4 ha
  go_wp2_with fail
  refine (CW.out _ _).mono ?_
  intro e w2 hE
  rcases hE.no with ⟨c1, h3, rfl, hw⟩ | ⟨_, h3, rfl, hw⟩
  · subst w2
    exact on_panic rfl (Ed.bad (ex_no HO5.out h3) HD.out)
  subst w2
  have HO6 := hide (ex_go HO5.out h3)
  have h16 : body.length ≤ 16 := by
    apply Classical.byContradiction
    intro hn
    rw [decide_eq_false (show ¬ ((body.length : Int) ≤ 16) by omega)] at h3
    cases h3
  clear hE h3 HO5 
  have CP3 := hide (CP2.out h16)
  clear CP2
  go_wp2_with fail
  refine CP3.out.mono ?_
  intro e w2 hE
  rcases hE.no with ⟨c1, h3, rfl, hf⟩ | ⟨v2, Z, V, M, nv, kv, h3, rfl, hs, hz, hf⟩
  · exact on_panic rfl (Ed.bad (ex_no HO6.out h3) (HD.out.trans (hf.mono HD.out.size)))
  have HO7 := hide (ex_go HO6.out h3)
  have hv2 := partsM_len HP4c.out h3
  simp only at hv2
  obtain ⟨ka2, kc2, rfl⟩ := owns_slice hs.rowK
  have HS := hide (hs)
  have RW := HRY.out.below hf
  have q1 := cell_of_row w2 V 1 _ _ _ hs.box
  simp only [List.getElem?_toArray, List.getElem?_cons_zero, List.getElem?_cons_succ] at q1
  have hkl : v2.kinds.length = v2.length := by unfold Scope.kinds; simp
  have CH := hide (hasI_any (c := kc2) (owns_at1 hs.rowK) (by rw [hkl]; omega) (-1))
  rw [hkl] at CH
  have CW2 := hide (fun b c => want_any RW.c9 b c)
  have HD2 := hide (HD.out.trans (hf.mono HD.out.size))
  clear hE h3 hs hf CP3 CW HO6 RW HRY y0 y1 y2 y3 y4 y5 y6 y7 y8 y9 y10
  go_wp2_with fail
  refine CH.out.mono ?_
  rintro _ wn ⟨rfl, hwn⟩
  subst wn
  go_wp2_with fail
  refine (CW2.out _ _).mono ?_
  intro e w3 hE
  rcases hE.no with ⟨c1, h3, rfl, hw⟩ | ⟨_, h3, rfl, hw⟩
  · subst w3
    exact on_panic rfl (Ed.bad (h3.symm.trans HO7.out) HD2.out)
  subst w3
  go_wp2_with fail
  go_end0
  exact Ed.ok (h3.symm.trans HO7.out) rfl HD2.out

theorem rule_any (h : Res R S st mp it seen w) (hp4 : ∀ p ∈ S.preds, p.kinds.length ≤ 4) (n : Nat) (t : RuleM) {ba ka : Option Addr} {bc kc : Nat} (hnl : t.name.length ≤ maxLen) (hsl : t.source.length ≤ maxLen) (hb : Prems R w t.body (.slice ba t.body.length bc)) (hpr : t.head.pred.length ≤ maxLen) (hka : Strs R w t.head.args (.slice ka t.head.args.length kc)) :
    Calls Tryz.prog 72 #[ptr R, .int .i64 n, .agg (ruleV t ba ka bc kc)] w fun e w' => Ed w it rU (ruleM S.ctx S.srcs S.heads n t) e w' := by
  by_cases ht : t.till = 0
  · exact rule0_any h hp4 n t ht hnl hsl hb hpr hka
  · exact rule1_any h hp4 n t ht hnl hsl hb hpr hka
end
end Go.Proofs.YtbdlgglbcaoakaaGreat
/- The items of a list, one behind the other. -/
namespace Go.Proofs.YtbdlgglbcaoakaaGreat
open Go.RowKit Go.Shelf Go.Maps Go.WideMaps

def AllOk (l : List (Er Unit)) : Prop := ∀ x ∈ l, x = .ok ()
theorem AllOk.nil : AllOk [] := fun _ h => by cases h
theorem AllOk.snoc {l : List (Er Unit)} {i : Nat} {x : Er Unit} (h : AllOk (l.take i)) (hx : l[i]? = some x) (ho : x = .ok ()) : AllOk (l.take (i + 1)) := by
  intro y hy
  rw [take_snoc hx, List.mem_append] at hy
  rcases hy with hy | hy
  · exact h y hy
  · rw [List.mem_singleton] at hy; rw [hy]; exact ho
/-- The first that is wrong. -/
def Bad1 (l : List (Er Unit)) (n : Nat) (c : Int) : Prop := AllOk (l.take n) ∧ l[n]? = some (.error c)
theorem firstE_ok {l : List (Er Unit)} (h : AllOk l) : ∀ k, firstE k l = (0, k + l.length) := by
  induction l with
  | nil => intro k; rfl
  | cons x r ih =>
    intro k
    have hx := h x (List.mem_cons_self ..)
    subst hx
    show firstE (k + 1) r = _
    rw [ih (fun y hy => h y (List.mem_cons_of_mem _ hy)) (k + 1), List.length_cons]
    congr 1; omega
theorem firstE_bad {l : List (Er Unit)} {n : Nat} {c : Int} (h : Bad1 l n c) : ∀ k, firstE k l = (c, k + n) := by
  induction l generalizing n with
  | nil => exact absurd h.2 (by simp)
  | cons x r ih =>
    intro k
    cases n with
    | zero =>
      have hx : x = .error c := by have := h.2; simpa using this
      subst hx
      rfl
    | succ n =>
      have hx := h.1 x (by simp)
      subst hx
      show firstE (k + 1) r = _
      rw [ih (n := n) ⟨fun y hy => h.1 y (by simp [hy]), by have := h.2; simpa using this⟩ (k + 1)]
      congr 1; omega
theorem AllOk.app {l m : List (Er Unit)} (h : AllOk l) (k : AllOk m) : AllOk (l ++ m) := by
  intro x hx
  rcases List.mem_append.1 hx with a | a
  · exact h x a
  · exact k x a
theorem Bad1.left {l m : List (Er Unit)} {n : Nat} {c : Int} (h : Bad1 l n c) : Bad1 (l ++ m) n c := by
  have hn := (List.getElem?_eq_some_iff.1 h.2).1
  refine ⟨?_, ?_⟩
  · rw [List.take_append_of_le_length (by omega)]; exact h.1
  · rw [List.getElem?_append_left hn]; exact h.2
theorem Bad1.right {l m : List (Er Unit)} {n : Nat} {c : Int} (hl : AllOk l) (h : Bad1 m n c) : Bad1 (l ++ m) (l.length + n) c := by
  refine ⟨?_, ?_⟩
  · intro x hx
    rw [List.take_append] at hx
    rcases List.mem_append.1 hx with a | a
    · exact hl x (List.mem_of_mem_take a)
    · exact h.1 x (by rwa [Nat.add_sub_cancel_left] at a)
  · rw [List.getElem?_append_right (by omega), Nat.add_sub_cancel_left]; exact h.2

section
variable {R : Nat} {S : StatM} {st : St9} {mp : Mp8} {it : Nat} {seen : List Bytes} {w w' : World}
/-- What the asking of items may write. -/
def Zi (R : Nat) (mp : Mp8) : Nat → Prop := fun k => k = R ∨ k = mp.C
/-- How the asking of a list's items ends. -/
def Ee (R : Nat) (S : StatM) (st : St9) (mp : Mp8) (it : Nat) (seen' : List Bytes) (w : World) (l : List (Er Unit)) (e : Ending) (w' : World) : Prop :=
  Fr (Zi R mp) w w' ∧ ((e = .returned (.tuple #[]) ∧ AllOk l ∧ Res R S st mp (it + l.length) seen' w') ∨ (∃ n c, Bad1 l n c ∧ e = .panicked [fl c ((it + n : Nat) : Int)]))
theorem Res.count (h : Res R S st mp it seen w) : Res R S st mp (it + 1) seen (w.setCell ⟨R, 9, none⟩ (.int .i64 ((it + 1 : Nat) : Int))) := by
  have hk : ∀ k, k ≠ R → (w.setCell ⟨R, 9, none⟩ (.int .i64 ((it + 1 : Nat) : Int))).heap[k]? = w.heap[k]? := fun k hk => heap_setCell_other w _ k _ (fun e => hk e)
  obtain ⟨n1, n2, n3, n4, n5, n6, n7, n8⟩ := h.ne
  refine ⟨?_, h.rep.keep fun g hg => hk g (by omega), h.fit, h.mK.keep (hk _ (by omega)), h.mM.keep (hk _ (by omega)), h.mP.keep (hk _ (by omega)), h.mS.keep (hk _ (by omega)), h.mR.keep (hk _ (by omega)), h.mE.keep (hk _ (by omega)), h.mT.keep (hk _ (by omega)), h.mC.keep (hk _ (by omega)), h.ne, h.nc⟩
  exact loc_set h.box
end
end Go.Proofs.YtbdlgglbcaoakaaGreat
