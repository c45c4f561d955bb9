/- ResolveLess, walked: a statute that is taken is taken with less of it. -/
import Derived.Test.YtfnobccminhjpaaWork9
namespace Go.Proofs.Ytfnobccminhjpaa
open Go.RowKit Go.Shelf Go.Maps Go.WideMaps

/-- The statute in the call's own box at block H. -/
structure Lw (H : Nat) (S : StatM) (st : St9) (w w' : World) : Prop where
  low : Below H w w'
  rep : SR H w' S st
  box : w'.heap[H]? = some (.cells #[st.title, st.kinds, st.members, st.preds, st.classes, st.sources, st.rules, st.excepts, st.totals] 31 (0, 0))
section
variable {H : Nat} {S : StatM} {st : St9} {w w' w'' : World}
theorem Lw.below (h : Lw H S st w w') (hb : Below w'.heap.size w' w'') : Lw H S st w w'' := by
  have hl := loc_lt h.box
  exact ⟨h.low.trans (hb.mono (by omega)), h.rep.keep fun g hg => hb.block g (by omega), (hb.block _ hl).trans h.box⟩
theorem Lw.sr (h : Lw H S st w w') : SR w'.heap.size w' S st := SR.mono (by have := loc_lt h.box; omega) h.rep
theorem Lw.cells (h : Lw H S st w w') : w'.cell? ⟨H, 0, none⟩ = some st.title ∧ w'.cell? ⟨H, 1, none⟩ = some st.kinds ∧ w'.cell? ⟨H, 2, none⟩ = some st.members ∧ w'.cell? ⟨H, 3, none⟩ = some st.preds ∧ w'.cell? ⟨H, 4, none⟩ = some st.classes ∧ w'.cell? ⟨H, 5, none⟩ = some st.sources ∧ w'.cell? ⟨H, 6, none⟩ = some st.rules ∧ w'.cell? ⟨H, 7, none⟩ = some st.excepts ∧ w'.cell? ⟨H, 8, none⟩ = some st.totals ∧ ∀ i, w'.frozen? ⟨H, i, none⟩ = false :=
  ⟨cell_of_row w' _ 0 _ _ _ h.box, cell_of_row w' _ 1 _ _ _ h.box, cell_of_row w' _ 2 _ _ _ h.box, cell_of_row w' _ 3 _ _ _ h.box, cell_of_row w' _ 4 _ _ _ h.box, cell_of_row w' _ 5 _ _ _ h.box, cell_of_row w' _ 6 _ _ _ h.box, cell_of_row w' _ 7 _ _ _ h.box, cell_of_row w' _ 8 _ _ _ h.box, fun i => frozen_of_row w' _ i _ _ h.box⟩
theorem Lw.keepSet (h : Lw H S st w w') (i : Nat) (v : Value) : Below H w (w'.setCell ⟨H, i, none⟩ v) ∧ SR H (w'.setCell ⟨H, i, none⟩ v) S st :=
  ⟨h.low.setCell (Nat.le_refl _) _, h.rep.keep fun g hg => heap_setCell_other w' ⟨H, i, none⟩ g _ (by show g ≠ H; omega)⟩
theorem Lw.totals (h : Lw H S st w w') : Lw H { S with totals := [] } { st with totals := .slice none 0 0 } w (w'.setCell ⟨H, 8, none⟩ (.slice none 0 0)) :=
  ⟨(h.keepSet 8 _).1, { (h.keepSet 8 (.slice none 0 0)).2 with totals := RR.none }, loc_set h.box⟩
theorem Lw.excepts (h : Lw H S st w w') : Lw H { S with excepts := [] } { st with excepts := .slice none 0 0 } w (w'.setCell ⟨H, 7, none⟩ (.slice none 0 0)) :=
  ⟨(h.keepSet 7 _).1, { (h.keepSet 7 (.slice none 0 0)).2 with excepts := RR.none }, loc_set h.box⟩
theorem Lw.rules (h : Lw H S st w w') {a : Option Addr} {l c : Nat} (k : Nat) (hk : k ≤ S.rules.length) (he : st.rules = .slice a l c) : Lw H { S with rules := S.rules.take k } { st with rules := .slice a k c } w (w'.setCell ⟨H, 6, none⟩ (.slice a k c)) :=
  ⟨(h.keepSet 6 _).1, { (h.keepSet 6 (.slice a k c)).2 with rules := (h.keepSet 6 (.slice a k c)).2.rules.take k hk a l c he }, loc_set h.box⟩
theorem Lw.classes (h : Lw H S st w w') {a : Option Addr} {l c : Nat} (k : Nat) (hk : k ≤ S.classes.length) (he : st.classes = .slice a l c) : Lw H { S with classes := S.classes.take k } { st with classes := .slice a k c } w (w'.setCell ⟨H, 4, none⟩ (.slice a k c)) :=
  ⟨(h.keepSet 4 _).1, { (h.keepSet 4 (.slice a k c)).2 with classes := (h.keepSet 4 (.slice a k c)).2.classes.take k hk a l c he }, loc_set h.box⟩
end

section
variable {S : StatM} {st : St9} {w : World}
set_option maxRecDepth 100000 in
set_option maxHeartbeats 6400000 in
theorem less_walk (h : SR w.heap.size w S st) : Calls Try.prog 3 #[st.agg] w fun e w' => e = .returned (.bool true) ∧ Below w.heap.size w w' := by
  obtain ⟨tt, ht⟩ := h.title
  obtain ⟨a1, b1, f1, _, _⟩ := h.kinds.form
  obtain ⟨a2, b2, f2, _, _⟩ := h.members.form
  obtain ⟨a3, b3, f3, _, _⟩ := h.preds.form
  obtain ⟨a4, b4, f4, p4, m4⟩ := h.classes.form
  obtain ⟨a5, b5, f5, _, _⟩ := h.sources.form
  obtain ⟨a6, b6, f6, p6, m6⟩ := h.rules.form
  obtain ⟨a7, b7, f7, _, _⟩ := h.excepts.form
  obtain ⟨a8, b8, f8, _, _⟩ := h.totals.form
  obtain ⟨s0, s1, s2, s3, s4, s5, s6, s7, s8⟩ := st
  simp only at ht f1 f2 f3 f4 f5 f6 f7 f8
  subst ht f1 f2 f3 f4 f5 f6 f7 f8
  have hA : Below w.heap.size w (w.alloc (.cells #[.string tt, .slice a1 S.kinds.length b1, .slice a2 S.members.length b2, .slice a3 S.preds.length b3, .slice a4 S.classes.length b4, .slice a5 S.sources.length b5, .slice a6 S.rules.length b6, .slice a7 S.excepts.length b7, .slice a8 S.totals.length b8] 31)) := (Below.refl _ w).alloc (Nat.le_refl _) _
  have K1 : Hid (Lw w.heap.size S ⟨.string tt, .slice a1 S.kinds.length b1, .slice a2 S.members.length b2, .slice a3 S.preds.length b3, .slice a4 S.classes.length b4, .slice a5 S.sources.length b5, .slice a6 S.rules.length b6, .slice a7 S.excepts.length b7, .slice a8 S.totals.length b8⟩ w (w.alloc (.cells #[.string tt, .slice a1 S.kinds.length b1, .slice a2 S.members.length b2, .slice a3 S.preds.length b3, .slice a4 S.classes.length b4, .slice a5 S.sources.length b5, .slice a6 S.rules.length b6, .slice a7 S.excepts.length b7, .slice a8 S.totals.length b8] 31))) := hide ⟨hA, h.keep fun g hg => hA.block g hg, heap_alloc_new w _⟩
  have CW := hide works_any
  obtain ⟨H, hH⟩ : ∃ H, H = w.heap.size := ⟨_, rfl⟩
  rw [← hH] at K1 ⊢
  have HH := hide hH
  clear h hA
  unfold St9.agg
  simp only
  go_enter Try.func3, Try.ntmps3
  go_upto_region 3 with (first | (go_at_call 5; refine (CW.out _).mono ?_; rintro _ w2 ⟨rfl, hw2⟩; have K2 := hide (K1.out.below hw2); clear hw2 CW K1))
  rw [← hH]
  clear hH
  obtain ⟨c0, c1, c2, c3, c4, c5, c6, c7, c8, cf⟩ := K2.out.cells
  simp only at c0 c1 c2 c3 c4 c5 c6 c7 c8
  have CK := hide (check_any K2.out.sr)
  unfold St9.agg at CK
  simp only at CK
  by_cases he : (checkM S).1 = 0
  case neg =>
    have hbq : ((checkM S).1 == 0) = false := by simpa using he
    generalize (checkM S).1 = e0 at *
    generalize (checkM S).2 = n0 at *
    go_wp2_with (first | (go_at_call 6; refine CK.out.mono ?_; rintro _ w3 ⟨rfl, hw3⟩))
    go_ret
    exact ⟨rfl, (K2.out.below hw3).low⟩
  have L1 := hide (less_totals he)
  have L2 := hide (less_excepts L1.out.1)
  have L3 := hide (less_rules L2.out.1 rfl (S.rules.length - 1))
  have L4 := hide (less_classes L3.out.1 (S.classes.length - 1))
  simp only at L1 L2 L3 L4
  obtain ⟨n0, E0⟩ : ∃ n, Hid ((checkM S).2 = n) := ⟨_, hide rfl⟩
  obtain ⟨n1, E1⟩ : ∃ n, Hid ((checkM { S with totals := [] }).2 = n) := ⟨_, hide rfl⟩
  obtain ⟨n2, E2⟩ : ∃ n, Hid ((checkM { S with excepts := [], totals := [] }).2 = n) := ⟨_, hide rfl⟩
  obtain ⟨n3, E3⟩ : ∃ n, Hid ((checkM { S with rules := S.rules.take (S.rules.length - 1), excepts := [], totals := [] }).2 = n) := ⟨_, hide rfl⟩
  obtain ⟨n4, E4⟩ : ∃ n, Hid ((checkM { S with classes := S.classes.take (S.classes.length - 1), rules := S.rules.take (S.rules.length - 1), excepts := [], totals := [] }).2 = n) := ⟨_, hide rfl⟩
  have z1 : n1 ≤ n0 := by have := L1.out.2; rw [E1.out, E0.out] at this; exact this
  have z2 : n2 ≤ n1 := by have := L2.out.2; rw [E2.out, E1.out] at this; exact this
  have z3 : n3 ≤ n2 := by have := L3.out.2; rw [E3.out, E2.out] at this; exact this
  have z4 : n4 ≤ n3 := by have := L4.out.2; rw [E4.out, E3.out] at this; exact this
  rw [he, E0.out] at CK
  go_upto_region 7 with (first | (go_at_call 6; refine CK.out.mono ?_; rintro _ w3 ⟨rfl, hw⟩; have J3 := hide (K2.out.below hw); clear CK c0 c1 c2 c3 c4 c5 c6 c7 c8 cf; clear hw; obtain ⟨c0, c1, c2, c3, c4, c5, c6, c7, c8, cf⟩ := J3.out.cells; simp only at c0 c1 c2 c3 c4 c5 c6 c7 c8))
  have K3 := hide J3.out.totals
  clear J3 c0 c1 c2 c3 c4 c5 c6 c7 c8 cf
  generalize w3.setCell ⟨H, 8, none⟩ (.slice none 0 0) = v3 at *
  obtain ⟨c0, c1, c2, c3, c4, c5, c6, c7, c8, cf⟩ := K3.out.cells
  simp only at c0 c1 c2 c3 c4 c5 c6 c7 c8
  have CK := hide (check_any K3.out.sr)
  unfold St9.agg at CK
  simp only at CK
  rw [L1.out.1, E1.out] at CK
  go_upto_region 9 with (first | (go_at_call 6; refine CK.out.mono ?_; rintro _ w4 ⟨rfl, hw⟩; have J4 := hide (K3.out.below hw); clear CK c0 c1 c2 c3 c4 c5 c6 c7 c8 cf; clear hw; obtain ⟨c0, c1, c2, c3, c4, c5, c6, c7, c8, cf⟩ := J4.out.cells; simp only at c0 c1 c2 c3 c4 c5 c6 c7 c8))
  have K4 := hide J4.out.excepts
  simp only at K4
  clear J4 c0 c1 c2 c3 c4 c5 c6 c7 c8 cf
  generalize w4.setCell ⟨H, 7, none⟩ (.slice none 0 0) = v4 at *
  obtain ⟨c0, c1, c2, c3, c4, c5, c6, c7, c8, cf⟩ := K4.out.cells
  simp only at c0 c1 c2 c3 c4 c5 c6 c7 c8
  have CK := hide (check_any K4.out.sr)
  unfold St9.agg at CK
  simp only at CK
  rw [L2.out.1, E2.out] at CK
  have y1 : ¬ ((n0 : Int) < (n1 : Int)) := by omega
  have y2 : ¬ ((n1 : Int) < (n2 : Int)) := by omega
  go_upto_region 12 with (first | (go_at_call 6; refine CK.out.mono ?_; rintro _ w5 ⟨rfl, hw⟩; have K5 := hide (K4.out.below hw); clear CK c0 c1 c2 c3 c4 c5 c6 c7 c8 cf; clear hw; obtain ⟨c0, c1, c2, c3, c4, c5, c6, c7, c8, cf⟩ := K5.out.cells; simp only at c0 c1 c2 c3 c4 c5 c6 c7 c8))
  have hwr : 0 < S.rules.length → IntKind.i64.wrap ((S.rules.length : Int) - 1) = ((S.rules.length - 1 : Nat) : Int) := fun h => by rw [IntKind.wrap_i64]; omega
  have hwc : 0 < S.classes.length → IntKind.i64.wrap ((S.classes.length : Int) - 1) = ((S.classes.length - 1 : Nat) : Int) := fun h => by rw [IntKind.wrap_i64]; omega
  clear K2 K3 K4
  by_cases hq : 0 < S.rules.length
  · have hwr2 := hwr hq
    have hle : S.rules.length - 1 ≤ b6 := by omega
    go_upto_region 14 with fail
    have J5 := hide (K5.out.rules (S.rules.length - 1) (Nat.sub_le _ _) rfl)
    simp only at J5
    clear K5 c0 c1 c2 c3 c4 c5 c6 c7 c8 cf
    generalize w5.setCell ⟨H, 6, none⟩ (.slice a6 (S.rules.length - 1) b6) = v5 at *
    obtain ⟨c0, c1, c2, c3, c4, c5, c6, c7, c8, cf⟩ := J5.out.cells
    simp only at c0 c1 c2 c3 c4 c5 c6 c7 c8
    have CK := hide (check_any J5.out.sr)
    unfold St9.agg at CK
    simp only at CK
    rw [L3.out.1, E3.out] at CK
    go_upto_region 15 with (first | (go_at_call 6; refine CK.out.mono ?_; rintro _ w6 ⟨rfl, hw⟩; have K6 := hide (J5.out.below hw); clear CK c0 c1 c2 c3 c4 c5 c6 c7 c8 cf; clear hw; obtain ⟨c0, c1, c2, c3, c4, c5, c6, c7, c8, cf⟩ := K6.out.cells; simp only at c0 c1 c2 c3 c4 c5 c6 c7 c8))
    by_cases hqc : 0 < S.classes.length
    · have hwc2 := hwc hqc
      have hle4 : S.classes.length - 1 ≤ b4 := by omega
      go_upto_region 17 with fail
      have K7 := hide (K6.out.classes (S.classes.length - 1) (Nat.sub_le _ _) rfl)
      simp only at K7
      clear K6 c0 c1 c2 c3 c4 c5 c6 c7 c8 cf
      generalize w6.setCell ⟨H, 4, none⟩ (.slice a4 (S.classes.length - 1) b4) = v7 at *
      obtain ⟨c0, c1, c2, c3, c4, c5, c6, c7, c8, cf⟩ := K7.out.cells
      simp only at c0 c1 c2 c3 c4 c5 c6 c7 c8
      have CK := hide (check_any K7.out.sr)
      unfold St9.agg at CK
      simp only at CK
      rw [L4.out.1, E4.out] at CK
      go_wp2_with (first | (go_at_call 6; refine CK.out.mono ?_; rintro _ w8 ⟨rfl, hw⟩; have K8 := hide (K7.out.below hw); clear CK c0 c1 c2 c3 c4 c5 c6 c7 c8 cf; clear hw; obtain ⟨c0, c1, c2, c3, c4, c5, c6, c7, c8, cf⟩ := K8.out.cells; simp only at c0 c1 c2 c3 c4 c5 c6 c7 c8))
      go_ret
      exact ⟨by simp, K8.out.low⟩
    · have hT : S.classes.take (S.classes.length - 1) = S.classes := List.take_of_length_le (by omega)
      have K7 : Hid (Lw H { S with classes := S.classes.take (S.classes.length - 1), rules := S.rules.take (S.rules.length - 1), excepts := [], totals := [] } ⟨.string tt, .slice a1 S.kinds.length b1, .slice a2 S.members.length b2, .slice a3 S.preds.length b3, .slice a4 S.classes.length b4, .slice a5 S.sources.length b5, .slice a6 (S.rules.length - 1) b6, .slice none 0 0, .slice none 0 0⟩ w w6) := by rw [hT]; exact K6
      go_upto_region 17 with fail
      clear K6 c0 c1 c2 c3 c4 c5 c6 c7 c8 cf
      obtain ⟨c0, c1, c2, c3, c4, c5, c6, c7, c8, cf⟩ := K7.out.cells
      simp only at c0 c1 c2 c3 c4 c5 c6 c7 c8
      have CK := hide (check_any K7.out.sr)
      unfold St9.agg at CK
      simp only at CK
      rw [L4.out.1, E4.out] at CK
      go_wp2_with (first | (go_at_call 6; refine CK.out.mono ?_; rintro _ w8 ⟨rfl, hw⟩; have K8 := hide (K7.out.below hw); clear CK c0 c1 c2 c3 c4 c5 c6 c7 c8 cf; clear hw; obtain ⟨c0, c1, c2, c3, c4, c5, c6, c7, c8, cf⟩ := K8.out.cells; simp only at c0 c1 c2 c3 c4 c5 c6 c7 c8))
      go_ret
      exact ⟨by simp, K8.out.low⟩
  · have hT : S.rules.take (S.rules.length - 1) = S.rules := List.take_of_length_le (by omega)
    have J5 : Hid (Lw H { S with rules := S.rules.take (S.rules.length - 1), excepts := [], totals := [] } ⟨.string tt, .slice a1 S.kinds.length b1, .slice a2 S.members.length b2, .slice a3 S.preds.length b3, .slice a4 S.classes.length b4, .slice a5 S.sources.length b5, .slice a6 S.rules.length b6, .slice none 0 0, .slice none 0 0⟩ w w5) := by rw [hT]; exact K5
    go_upto_region 14 with fail
    clear K5 c0 c1 c2 c3 c4 c5 c6 c7 c8 cf
    obtain ⟨c0, c1, c2, c3, c4, c5, c6, c7, c8, cf⟩ := J5.out.cells
    simp only at c0 c1 c2 c3 c4 c5 c6 c7 c8
    have CK := hide (check_any J5.out.sr)
    unfold St9.agg at CK
    simp only at CK
    rw [L3.out.1, E3.out] at CK
    go_upto_region 15 with (first | (go_at_call 6; refine CK.out.mono ?_; rintro _ w6 ⟨rfl, hw⟩; have K6 := hide (J5.out.below hw); clear CK c0 c1 c2 c3 c4 c5 c6 c7 c8 cf; clear hw; obtain ⟨c0, c1, c2, c3, c4, c5, c6, c7, c8, cf⟩ := K6.out.cells; simp only at c0 c1 c2 c3 c4 c5 c6 c7 c8))
    by_cases hqc : 0 < S.classes.length
    · have hwc2 := hwc hqc
      have hle4 : S.classes.length - 1 ≤ b4 := by omega
      go_upto_region 17 with fail
      have K7 := hide (K6.out.classes (S.classes.length - 1) (Nat.sub_le _ _) rfl)
      simp only at K7
      clear K6 c0 c1 c2 c3 c4 c5 c6 c7 c8 cf
      generalize w6.setCell ⟨H, 4, none⟩ (.slice a4 (S.classes.length - 1) b4) = v7 at *
      obtain ⟨c0, c1, c2, c3, c4, c5, c6, c7, c8, cf⟩ := K7.out.cells
      simp only at c0 c1 c2 c3 c4 c5 c6 c7 c8
      have CK := hide (check_any K7.out.sr)
      unfold St9.agg at CK
      simp only at CK
      rw [L4.out.1, E4.out] at CK
      go_wp2_with (first | (go_at_call 6; refine CK.out.mono ?_; rintro _ w8 ⟨rfl, hw⟩; have K8 := hide (K7.out.below hw); clear CK c0 c1 c2 c3 c4 c5 c6 c7 c8 cf; clear hw; obtain ⟨c0, c1, c2, c3, c4, c5, c6, c7, c8, cf⟩ := K8.out.cells; simp only at c0 c1 c2 c3 c4 c5 c6 c7 c8))
      go_ret
      exact ⟨by simp, K8.out.low⟩
    · have hT : S.classes.take (S.classes.length - 1) = S.classes := List.take_of_length_le (by omega)
      have K7 : Hid (Lw H { S with classes := S.classes.take (S.classes.length - 1), rules := S.rules.take (S.rules.length - 1), excepts := [], totals := [] } ⟨.string tt, .slice a1 S.kinds.length b1, .slice a2 S.members.length b2, .slice a3 S.preds.length b3, .slice a4 S.classes.length b4, .slice a5 S.sources.length b5, .slice a6 S.rules.length b6, .slice none 0 0, .slice none 0 0⟩ w w6) := by rw [hT]; exact K6
      go_upto_region 17 with fail
      clear K6 c0 c1 c2 c3 c4 c5 c6 c7 c8 cf
      obtain ⟨c0, c1, c2, c3, c4, c5, c6, c7, c8, cf⟩ := K7.out.cells
      simp only at c0 c1 c2 c3 c4 c5 c6 c7 c8
      have CK := hide (check_any K7.out.sr)
      unfold St9.agg at CK
      simp only at CK
      rw [L4.out.1, E4.out] at CK
      go_wp2_with (first | (go_at_call 6; refine CK.out.mono ?_; rintro _ w8 ⟨rfl, hw⟩; have K8 := hide (K7.out.below hw); clear CK c0 c1 c2 c3 c4 c5 c6 c7 c8 cf; clear hw; obtain ⟨c0, c1, c2, c3, c4, c5, c6, c7, c8, cf⟩ := K8.out.cells; simp only at c0 c1 c2 c3 c4 c5 c6 c7 c8))
      go_ret
      exact ⟨by simp, K8.out.low⟩
end
end Go.Proofs.Ytfnobccminhjpaa
