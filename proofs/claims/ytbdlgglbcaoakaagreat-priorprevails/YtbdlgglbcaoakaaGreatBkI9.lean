/- The page's item. -/
import Derived.Test.YtbdlgglbcaoakaaGreatBkO9
import Derived.Test.YtbdlgglbcaoakaaGreatBkX9
namespace Go.Proofs.YtbdlgglbcaoakaaGreat
open Go.RowKit Go.Shelf Go.Maps Go.WideMaps
section
variable {S : StatM} {st : St9} {w : World}
set_option maxRecDepth 100000 in
set_option maxHeartbeats 12800000 in
theorem ritem0_any (h : SR w.heap.size w S st) (hfit : S.fitsB = true) {n : Nat} {s : Bytes} (hn : S.kinds[n]? = some s) : Calls Tryz.prog 21 #[st.agg, .int .i64 0, .int .i64 n] w fun e w' => e = .returned (.int .i64 (erc (kindM S.kinds n s))) ∧ Below w.heap.size w w' := by
  obtain ⟨hfk, hfm, hfp, hfc, hfs, hfr, hfe, hft⟩ := fitB hfit
  have H0 := hide h
  obtain ⟨tt, ht⟩ := h.title
  obtain ⟨a1, b1, f1, _, _⟩ := h.kinds.form
  obtain ⟨a2, b2, f2, _, _⟩ := h.members.form
  obtain ⟨a3, b3, f3, _, _⟩ := h.preds.form
  obtain ⟨a4, b4, f4, _, _⟩ := h.classes.form
  obtain ⟨a5, b5, f5, _, _⟩ := h.sources.form
  obtain ⟨a6, b6, f6, _, _⟩ := h.rules.form
  obtain ⟨a7, b7, f7, _, _⟩ := h.excepts.form
  obtain ⟨a8, b8, f8, _, _⟩ := h.totals.form
  obtain ⟨s0, s1, s2, s3, s4, s5, s6, s7, s8⟩ := st
  simp only at ht f1 f2 f3 f4 f5 f6 f7 f8
  subst ht f1 f2 f3 f4 f5 f6 f7 f8
  have hA : Below w.heap.size w (w.alloc (.cells #[.string tt, .slice a1 S.kinds.length b1, .slice a2 S.members.length b2, .slice a3 S.preds.length b3, .slice a4 S.classes.length b4, .slice a5 S.sources.length b5, .slice a6 S.rules.length b6, .slice a7 S.excepts.length b7, .slice a8 S.totals.length b8] 31)) := (Below.refl _ w).alloc (Nat.le_refl _) _
  have K0 : Hid (Lw w.heap.size S ⟨.string tt, .slice a1 S.kinds.length b1, .slice a2 S.members.length b2, .slice a3 S.preds.length b3, .slice a4 S.classes.length b4, .slice a5 S.sources.length b5, .slice a6 S.rules.length b6, .slice a7 S.excepts.length b7, .slice a8 S.totals.length b8⟩ w (w.alloc (.cells #[.string tt, .slice a1 S.kinds.length b1, .slice a2 S.members.length b2, .slice a3 S.preds.length b3, .slice a4 S.classes.length b4, .slice a5 S.sources.length b5, .slice a6 S.rules.length b6, .slice a7 S.excepts.length b7, .slice a8 S.totals.length b8] 31))) := hide ⟨hA, h.keep fun g hg => hA.block g hg, heap_alloc_new w _⟩
  have hlt : n < S.kinds.length := (List.getElem?_eq_some_iff.1 hn).1
  have hgd : S.kinds.getD n [] = s := by rw [List.getD_eq_getElem?_getD, hn]; rfl
  have CN := hide (rnamedS (w := (w.alloc (.cells #[.string tt, .slice a1 S.kinds.length b1, .slice a2 S.members.length b2, .slice a3 S.preds.length b3, .slice a4 S.classes.length b4, .slice a5 S.sources.length b5, .slice a6 S.rules.length b6, .slice a7 S.excepts.length b7, .slice a8 S.totals.length b8] 31))) (c := b1) (Strs.at1 K0.out.sr.kinds) rfl (by omega) hlt hgd)
  unfold kindM
  obtain ⟨H, hH⟩ : ∃ H, H = w.heap.size := ⟨_, rfl⟩
  rw [← hH] at K0
  have HH := hide hH
  clear h hA
  unfold St9.agg at *
  simp only at *
  obtain ⟨c0, c1, c2, c3, c4, c5, c6, c7, c8, cf⟩ := K0.out.cells
  simp only at c0 c1 c2 c3 c4 c5 c6 c7 c8
  clear cf
  go_enter Tryz.func21, Tryz.ntmps21
  go_upto_region 1 with fail
  rw [← hH]
  generalize w.alloc (.cells #[.string tt, .slice a1 S.kinds.length b1, .slice a2 S.members.length b2, .slice a3 S.preds.length b3, .slice a4 S.classes.length b4, .slice a5 S.sources.length b5, .slice a6 S.rules.length b6, .slice a7 S.excepts.length b7, .slice a8 S.totals.length b8] 31) = w0 at *
  clear hH
  go_wp2_with (go_at_call 32; refine CN.out.mono ?_; rintro _ w9 ⟨rfl, hw⟩; subst w9)
  go_ret
  exact ⟨rfl, by rw [← HH.out]; exact K0.out.low⟩
set_option maxRecDepth 100000 in
set_option maxHeartbeats 12800000 in
theorem ritem2_any (h : SR w.heap.size w S st) (hfit : S.fitsB = true) {n : Nat} {p : PredM} (hn : S.preds[n]? = some p) : Calls Tryz.prog 21 #[st.agg, .int .i64 2, .int .i64 n] w fun e w' => e = .returned (.int .i64 (erc (predM S.ctx n p))) ∧ Below w.heap.size w w' := by
  obtain ⟨hfk, hfm, hfp, hfc, hfs, hfr, hfe, hft⟩ := fitB hfit
  have H0 := hide h
  obtain ⟨tt, ht⟩ := h.title
  obtain ⟨a1, b1, f1, _, _⟩ := h.kinds.form
  obtain ⟨a2, b2, f2, _, _⟩ := h.members.form
  obtain ⟨a3, b3, f3, _, _⟩ := h.preds.form
  obtain ⟨a4, b4, f4, _, _⟩ := h.classes.form
  obtain ⟨a5, b5, f5, _, _⟩ := h.sources.form
  obtain ⟨a6, b6, f6, _, _⟩ := h.rules.form
  obtain ⟨a7, b7, f7, _, _⟩ := h.excepts.form
  obtain ⟨a8, b8, f8, _, _⟩ := h.totals.form
  obtain ⟨s0, s1, s2, s3, s4, s5, s6, s7, s8⟩ := st
  simp only at ht f1 f2 f3 f4 f5 f6 f7 f8
  subst ht f1 f2 f3 f4 f5 f6 f7 f8
  have hA : Below w.heap.size w (w.alloc (.cells #[.string tt, .slice a1 S.kinds.length b1, .slice a2 S.members.length b2, .slice a3 S.preds.length b3, .slice a4 S.classes.length b4, .slice a5 S.sources.length b5, .slice a6 S.rules.length b6, .slice a7 S.excepts.length b7, .slice a8 S.totals.length b8] 31)) := (Below.refl _ w).alloc (Nat.le_refl _) _
  have K0 : Hid (Lw w.heap.size S ⟨.string tt, .slice a1 S.kinds.length b1, .slice a2 S.members.length b2, .slice a3 S.preds.length b3, .slice a4 S.classes.length b4, .slice a5 S.sources.length b5, .slice a6 S.rules.length b6, .slice a7 S.excepts.length b7, .slice a8 S.totals.length b8⟩ w (w.alloc (.cells #[.string tt, .slice a1 S.kinds.length b1, .slice a2 S.members.length b2, .slice a3 S.preds.length b3, .slice a4 S.classes.length b4, .slice a5 S.sources.length b5, .slice a6 S.rules.length b6, .slice a7 S.excepts.length b7, .slice a8 S.totals.length b8] 31))) := hide ⟨hA, h.keep fun g hg => hA.block g hg, heap_alloc_new w _⟩
  have CX := hide (rpred_any K0.out.sr (by omega) hn)
  obtain ⟨H, hH⟩ : ∃ H, H = w.heap.size := ⟨_, rfl⟩
  rw [← hH] at K0
  have HH := hide hH
  clear h hA
  unfold St9.agg at *
  simp only at *
  obtain ⟨c0, c1, c2, c3, c4, c5, c6, c7, c8, cf⟩ := K0.out.cells
  simp only at c0 c1 c2 c3 c4 c5 c6 c7 c8
  clear cf
  go_enter Tryz.func21, Tryz.ntmps21
  go_upto_region 1 with fail
  rw [← hH]
  generalize w.alloc (.cells #[.string tt, .slice a1 S.kinds.length b1, .slice a2 S.members.length b2, .slice a3 S.preds.length b3, .slice a4 S.classes.length b4, .slice a5 S.sources.length b5, .slice a6 S.rules.length b6, .slice a7 S.excepts.length b7, .slice a8 S.totals.length b8] 31) = w0 at *
  clear hH
  go_wp2_with fail
  refine CX.out.mono ?_
  rintro _ w1 ⟨rfl, hb⟩
  have K1 := hide (K0.out.below hb)
  clear hb
  go_wp2_with fail
  go_ret
  exact ⟨rfl, by rw [← HH.out]; exact K1.out.low⟩
set_option maxRecDepth 100000 in
set_option maxHeartbeats 12800000 in
theorem ritem3_any (h : SR w.heap.size w S st) (hfit : S.fitsB = true) {n : Nat} {l : List Bytes} (hn : S.classes[n]? = some l) : Calls Tryz.prog 21 #[st.agg, .int .i64 3, .int .i64 n] w fun e w' => e = .returned (.int .i64 (erc (classM S.ctx (S.classes.take n).flatten l))) ∧ Below w.heap.size w w' := by
  obtain ⟨hfk, hfm, hfp, hfc, hfs, hfr, hfe, hft⟩ := fitB hfit
  have H0 := hide h
  obtain ⟨tt, ht⟩ := h.title
  obtain ⟨a1, b1, f1, _, _⟩ := h.kinds.form
  obtain ⟨a2, b2, f2, _, _⟩ := h.members.form
  obtain ⟨a3, b3, f3, _, _⟩ := h.preds.form
  obtain ⟨a4, b4, f4, _, _⟩ := h.classes.form
  obtain ⟨a5, b5, f5, _, _⟩ := h.sources.form
  obtain ⟨a6, b6, f6, _, _⟩ := h.rules.form
  obtain ⟨a7, b7, f7, _, _⟩ := h.excepts.form
  obtain ⟨a8, b8, f8, _, _⟩ := h.totals.form
  obtain ⟨s0, s1, s2, s3, s4, s5, s6, s7, s8⟩ := st
  simp only at ht f1 f2 f3 f4 f5 f6 f7 f8
  subst ht f1 f2 f3 f4 f5 f6 f7 f8
  have hA : Below w.heap.size w (w.alloc (.cells #[.string tt, .slice a1 S.kinds.length b1, .slice a2 S.members.length b2, .slice a3 S.preds.length b3, .slice a4 S.classes.length b4, .slice a5 S.sources.length b5, .slice a6 S.rules.length b6, .slice a7 S.excepts.length b7, .slice a8 S.totals.length b8] 31)) := (Below.refl _ w).alloc (Nat.le_refl _) _
  have K0 : Hid (Lw w.heap.size S ⟨.string tt, .slice a1 S.kinds.length b1, .slice a2 S.members.length b2, .slice a3 S.preds.length b3, .slice a4 S.classes.length b4, .slice a5 S.sources.length b5, .slice a6 S.rules.length b6, .slice a7 S.excepts.length b7, .slice a8 S.totals.length b8⟩ w (w.alloc (.cells #[.string tt, .slice a1 S.kinds.length b1, .slice a2 S.members.length b2, .slice a3 S.preds.length b3, .slice a4 S.classes.length b4, .slice a5 S.sources.length b5, .slice a6 S.rules.length b6, .slice a7 S.excepts.length b7, .slice a8 S.totals.length b8] 31))) := hide ⟨hA, h.keep fun g hg => hA.block g hg, heap_alloc_new w _⟩
  have CX := hide (rclass_any K0.out.sr (by omega) hn)
  obtain ⟨H, hH⟩ : ∃ H, H = w.heap.size := ⟨_, rfl⟩
  rw [← hH] at K0
  have HH := hide hH
  clear h hA
  unfold St9.agg at *
  simp only at *
  obtain ⟨c0, c1, c2, c3, c4, c5, c6, c7, c8, cf⟩ := K0.out.cells
  simp only at c0 c1 c2 c3 c4 c5 c6 c7 c8
  clear cf
  go_enter Tryz.func21, Tryz.ntmps21
  go_upto_region 1 with fail
  rw [← hH]
  generalize w.alloc (.cells #[.string tt, .slice a1 S.kinds.length b1, .slice a2 S.members.length b2, .slice a3 S.preds.length b3, .slice a4 S.classes.length b4, .slice a5 S.sources.length b5, .slice a6 S.rules.length b6, .slice a7 S.excepts.length b7, .slice a8 S.totals.length b8] 31) = w0 at *
  clear hH
  go_wp2_with fail
  refine CX.out.mono ?_
  rintro _ w1 ⟨rfl, hb⟩
  have K1 := hide (K0.out.below hb)
  clear hb
  go_wp2_with fail
  go_ret
  exact ⟨rfl, by rw [← HH.out]; exact K1.out.low⟩
set_option maxRecDepth 100000 in
set_option maxHeartbeats 12800000 in
theorem ritem6_any (h : SR w.heap.size w S st) (hfit : S.fitsB = true) {n : Nat} {x : Bytes × Bytes} (hn : S.excepts[n]? = some x) : Calls Tryz.prog 21 #[st.agg, .int .i64 6, .int .i64 n] w fun e w' => e = .returned (.int .i64 (erc (exceptM S.heads S.keys n x))) ∧ Below w.heap.size w w' := by
  obtain ⟨hfk, hfm, hfp, hfc, hfs, hfr, hfe, hft⟩ := fitB hfit
  have H0 := hide h
  obtain ⟨tt, ht⟩ := h.title
  obtain ⟨a1, b1, f1, _, _⟩ := h.kinds.form
  obtain ⟨a2, b2, f2, _, _⟩ := h.members.form
  obtain ⟨a3, b3, f3, _, _⟩ := h.preds.form
  obtain ⟨a4, b4, f4, _, _⟩ := h.classes.form
  obtain ⟨a5, b5, f5, _, _⟩ := h.sources.form
  obtain ⟨a6, b6, f6, _, _⟩ := h.rules.form
  obtain ⟨a7, b7, f7, _, _⟩ := h.excepts.form
  obtain ⟨a8, b8, f8, _, _⟩ := h.totals.form
  obtain ⟨s0, s1, s2, s3, s4, s5, s6, s7, s8⟩ := st
  simp only at ht f1 f2 f3 f4 f5 f6 f7 f8
  subst ht f1 f2 f3 f4 f5 f6 f7 f8
  have hA : Below w.heap.size w (w.alloc (.cells #[.string tt, .slice a1 S.kinds.length b1, .slice a2 S.members.length b2, .slice a3 S.preds.length b3, .slice a4 S.classes.length b4, .slice a5 S.sources.length b5, .slice a6 S.rules.length b6, .slice a7 S.excepts.length b7, .slice a8 S.totals.length b8] 31)) := (Below.refl _ w).alloc (Nat.le_refl _) _
  have K0 : Hid (Lw w.heap.size S ⟨.string tt, .slice a1 S.kinds.length b1, .slice a2 S.members.length b2, .slice a3 S.preds.length b3, .slice a4 S.classes.length b4, .slice a5 S.sources.length b5, .slice a6 S.rules.length b6, .slice a7 S.excepts.length b7, .slice a8 S.totals.length b8⟩ w (w.alloc (.cells #[.string tt, .slice a1 S.kinds.length b1, .slice a2 S.members.length b2, .slice a3 S.preds.length b3, .slice a4 S.classes.length b4, .slice a5 S.sources.length b5, .slice a6 S.rules.length b6, .slice a7 S.excepts.length b7, .slice a8 S.totals.length b8] 31))) := hide ⟨hA, h.keep fun g hg => hA.block g hg, heap_alloc_new w _⟩
  have CX := hide (rexcept_any K0.out.sr hfit hn)
  obtain ⟨H, hH⟩ : ∃ H, H = w.heap.size := ⟨_, rfl⟩
  rw [← hH] at K0
  have HH := hide hH
  clear h hA
  unfold St9.agg at *
  simp only at *
  obtain ⟨c0, c1, c2, c3, c4, c5, c6, c7, c8, cf⟩ := K0.out.cells
  simp only at c0 c1 c2 c3 c4 c5 c6 c7 c8
  clear cf
  go_enter Tryz.func21, Tryz.ntmps21
  go_upto_region 1 with fail
  rw [← hH]
  generalize w.alloc (.cells #[.string tt, .slice a1 S.kinds.length b1, .slice a2 S.members.length b2, .slice a3 S.preds.length b3, .slice a4 S.classes.length b4, .slice a5 S.sources.length b5, .slice a6 S.rules.length b6, .slice a7 S.excepts.length b7, .slice a8 S.totals.length b8] 31) = w0 at *
  clear hH
  go_wp2_with fail
  refine CX.out.mono ?_
  rintro _ w1 ⟨rfl, hb⟩
  have K1 := hide (K0.out.below hb)
  clear hb
  go_wp2_with fail
  go_ret
  exact ⟨rfl, by rw [← HH.out]; exact K1.out.low⟩
set_option maxRecDepth 100000 in
set_option maxHeartbeats 12800000 in
theorem ritem7_any (h : SR w.heap.size w S st) (hfit : S.fitsB = true) {n : Nat} {t : TotalM} (hn : S.totals[n]? = some t) : Calls Tryz.prog 21 #[st.agg, .int .i64 7, .int .i64 n] w fun e w' => e = .returned (.int .i64 (erc (totalM S.ctx S.sums n t))) ∧ Below w.heap.size w w' := by
  obtain ⟨hfk, hfm, hfp, hfc, hfs, hfr, hfe, hft⟩ := fitB hfit
  have H0 := hide h
  obtain ⟨tt, ht⟩ := h.title
  obtain ⟨a1, b1, f1, _, _⟩ := h.kinds.form
  obtain ⟨a2, b2, f2, _, _⟩ := h.members.form
  obtain ⟨a3, b3, f3, _, _⟩ := h.preds.form
  obtain ⟨a4, b4, f4, _, _⟩ := h.classes.form
  obtain ⟨a5, b5, f5, _, _⟩ := h.sources.form
  obtain ⟨a6, b6, f6, _, _⟩ := h.rules.form
  obtain ⟨a7, b7, f7, _, _⟩ := h.excepts.form
  obtain ⟨a8, b8, f8, _, _⟩ := h.totals.form
  obtain ⟨s0, s1, s2, s3, s4, s5, s6, s7, s8⟩ := st
  simp only at ht f1 f2 f3 f4 f5 f6 f7 f8
  subst ht f1 f2 f3 f4 f5 f6 f7 f8
  have hA : Below w.heap.size w (w.alloc (.cells #[.string tt, .slice a1 S.kinds.length b1, .slice a2 S.members.length b2, .slice a3 S.preds.length b3, .slice a4 S.classes.length b4, .slice a5 S.sources.length b5, .slice a6 S.rules.length b6, .slice a7 S.excepts.length b7, .slice a8 S.totals.length b8] 31)) := (Below.refl _ w).alloc (Nat.le_refl _) _
  have K0 : Hid (Lw w.heap.size S ⟨.string tt, .slice a1 S.kinds.length b1, .slice a2 S.members.length b2, .slice a3 S.preds.length b3, .slice a4 S.classes.length b4, .slice a5 S.sources.length b5, .slice a6 S.rules.length b6, .slice a7 S.excepts.length b7, .slice a8 S.totals.length b8⟩ w (w.alloc (.cells #[.string tt, .slice a1 S.kinds.length b1, .slice a2 S.members.length b2, .slice a3 S.preds.length b3, .slice a4 S.classes.length b4, .slice a5 S.sources.length b5, .slice a6 S.rules.length b6, .slice a7 S.excepts.length b7, .slice a8 S.totals.length b8] 31))) := hide ⟨hA, h.keep fun g hg => hA.block g hg, heap_alloc_new w _⟩
  have CX := hide (rtotal_any K0.out.sr hfit hn)
  obtain ⟨H, hH⟩ : ∃ H, H = w.heap.size := ⟨_, rfl⟩
  rw [← hH] at K0
  have HH := hide hH
  clear h hA
  unfold St9.agg at *
  simp only at *
  obtain ⟨c0, c1, c2, c3, c4, c5, c6, c7, c8, cf⟩ := K0.out.cells
  simp only at c0 c1 c2 c3 c4 c5 c6 c7 c8
  clear cf
  go_enter Tryz.func21, Tryz.ntmps21
  go_upto_region 1 with fail
  rw [← hH]
  generalize w.alloc (.cells #[.string tt, .slice a1 S.kinds.length b1, .slice a2 S.members.length b2, .slice a3 S.preds.length b3, .slice a4 S.classes.length b4, .slice a5 S.sources.length b5, .slice a6 S.rules.length b6, .slice a7 S.excepts.length b7, .slice a8 S.totals.length b8] 31) = w0 at *
  clear hH
  go_wp2_with fail
  refine CX.out.mono ?_
  rintro _ w1 ⟨rfl, hb⟩
  have K1 := hide (K0.out.below hb)
  clear hb
  go_wp2_with fail
  go_ret
  exact ⟨rfl, by rw [← HH.out]; exact K1.out.low⟩
set_option maxRecDepth 100000 in
set_option maxHeartbeats 12800000 in
theorem ritem1_any (h : SR w.heap.size w S st) (hfit : S.fitsB = true) {n : Nat} {m : Bytes × Bytes} (hn : S.members[n]? = some m) : Calls Tryz.prog 21 #[st.agg, .int .i64 1, .int .i64 n] w fun e w' => e = .returned (.int .i64 (erc (memberM S.ctx n m))) ∧ Below w.heap.size w w' := by
  obtain ⟨hfk, hfm, hfp, hfc, hfs, hfr, hfe, hft⟩ := fitB hfit
  have H0 := hide h
  obtain ⟨tt, ht⟩ := h.title
  obtain ⟨a1, b1, f1, _, _⟩ := h.kinds.form
  obtain ⟨a2, b2, f2, _, _⟩ := h.members.form
  obtain ⟨a3, b3, f3, _, _⟩ := h.preds.form
  obtain ⟨a4, b4, f4, _, _⟩ := h.classes.form
  obtain ⟨a5, b5, f5, _, _⟩ := h.sources.form
  obtain ⟨a6, b6, f6, _, _⟩ := h.rules.form
  obtain ⟨a7, b7, f7, _, _⟩ := h.excepts.form
  obtain ⟨a8, b8, f8, _, _⟩ := h.totals.form
  obtain ⟨s0, s1, s2, s3, s4, s5, s6, s7, s8⟩ := st
  simp only at ht f1 f2 f3 f4 f5 f6 f7 f8
  subst ht f1 f2 f3 f4 f5 f6 f7 f8
  have hA : Below w.heap.size w (w.alloc (.cells #[.string tt, .slice a1 S.kinds.length b1, .slice a2 S.members.length b2, .slice a3 S.preds.length b3, .slice a4 S.classes.length b4, .slice a5 S.sources.length b5, .slice a6 S.rules.length b6, .slice a7 S.excepts.length b7, .slice a8 S.totals.length b8] 31)) := (Below.refl _ w).alloc (Nat.le_refl _) _
  have K0 : Hid (Lw w.heap.size S ⟨.string tt, .slice a1 S.kinds.length b1, .slice a2 S.members.length b2, .slice a3 S.preds.length b3, .slice a4 S.classes.length b4, .slice a5 S.sources.length b5, .slice a6 S.rules.length b6, .slice a7 S.excepts.length b7, .slice a8 S.totals.length b8⟩ w (w.alloc (.cells #[.string tt, .slice a1 S.kinds.length b1, .slice a2 S.members.length b2, .slice a3 S.preds.length b3, .slice a4 S.classes.length b4, .slice a5 S.sources.length b5, .slice a6 S.rules.length b6, .slice a7 S.excepts.length b7, .slice a8 S.totals.length b8] 31))) := hide ⟨hA, h.keep fun g hg => hA.block g hg, heap_alloc_new w _⟩
  have hlt : n < S.members.length := (List.getElem?_eq_some_iff.1 hn).1
  have hgd : S.ctx.people.getD n [] = m.1 := by show (S.members.map (·.1)).getD n [] = m.1; rw [List.getD_eq_getElem?_getD, List.getElem?_map, hn]; rfl
  have HPL : Hid (S.ctx.people.length = S.members.length) := hide (List.length_map _)
  have CM := hide (rmembersS K0.out.sr (by omega))
  obtain ⟨g, oo, rfl, hg, -, e1, -, -⟩ := at_M h.members hn
  obtain ⟨z, hz⟩ : ∃ z, erc (memberM S.ctx n m) = z := ⟨_, rfl⟩
  rw [hz]
  have HZ := hide hz
  unfold memberM at HZ
  have HGD := hide hgd
  clear hz hgd
  obtain ⟨H, hH⟩ : ∃ H, H = w.heap.size := ⟨_, rfl⟩
  rw [← hH] at K0
  have HH := hide hH
  clear h hA
  unfold St9.agg at *
  simp only at *
  obtain ⟨c0, c1, c2, c3, c4, c5, c6, c7, c8, cf⟩ := K0.out.cells
  simp only at c0 c1 c2 c3 c4 c5 c6 c7 c8
  clear cf
  go_enter Tryz.func21, Tryz.ntmps21
  go_upto_region 1 with fail
  rw [← hH]
  generalize w.alloc (.cells #[.string tt, .slice a1 S.kinds.length b1, .slice (some ⟨g, oo, none⟩) S.members.length b2, .slice a3 S.preds.length b3, .slice a4 S.classes.length b4, .slice a5 S.sources.length b5, .slice a6 S.rules.length b6, .slice a7 S.excepts.length b7, .slice a8 S.totals.length b8] 31) = w0 at *
  clear hH
  go_wp2_with fail
  refine CM.out.mono ?_
  rintro _ w1 ⟨xa, xc, rfl, hat, hb⟩
  have CN := hide (rnamedS (c := xc) hat HPL.out (by omega) hlt HGD.out)
  have K1 := hide (K0.out.below hb)
  have hgH : g < H := by rw [HH.out]; exact hg
  have q1 := K1.out.cell hgH e1
  have CF := hide (fun q => rfindS (w := w1.drewN q) (c := b1) ((Lk.refl.drewN q).at1 (Strs.at1 K1.out.sr.kinds)) rfl (by omega) m.2)
  unfold str at q1
  clear hat hb CM K0 c0 c1 c2 c3 c4 c5 c6 c7 c8
  obtain ⟨c0, c1, c2, c3, c4, c5, c6, c7, c8, cf⟩ := K1.out.cells
  simp only at c0 c1 c2 c3 c4 c5 c6 c7 c8
  clear cf
  cases hcd : calledM S.ctx.people m.1 n with
  | error c =>
    have hzc := es HZ.out hcd
    subst hzc
    have hcz := nz_called _ _ _ c hcd
    have hbq : (c == 0) = false := beq_eq_false_iff_ne.2 hcz
    have hbd : decide (c = 0) = false := decide_eq_false hcz
    rw [erc_no hcd] at CN
    go_upto_region 6 with (go_at_call 32; refine CN.out.mono ?_; rintro _ w9 ⟨rfl, hw⟩; subst w9)
    go_quiet (fail)
    rename Nat => nq
    go_wp2_with fail
    go_ret
    exact ⟨rfl, by rw [← HH.out]; exact (K1.out.below (below_drewN w1 nq)).low⟩
  | ok u =>
    have HZ1 := hide (eg HZ.out hcd)
    rw [erc_ok hcd] at CN
    by_cases hk : m.2 ∈ S.kinds
    · have hzc : 0 = z := by
        have := HZ1.out
        rw [findM_yes (l := S.ctx.kinds) hk] at this
        exact this
      subst hzc
      rw [findZ_in hk] at CF
      clear HZ HZ1 hcd hk
      generalize posB S.kinds m.2 = pk at *
      go_upto_region 6 with (go_at_call 32; refine CN.out.mono ?_; rintro _ w9 ⟨rfl, hw⟩; subst w9)
      go_quiet ((go_at_call 34; exact Calls.quiet_of_same (CF.out _)))
      rename Nat => nq
      go_wp2_with fail
      go_ret
      exact ⟨rfl, by rw [← HH.out]; exact (K1.out.below (below_drewN w1 nq)).low⟩
    · have hzc := es HZ1.out (findM_no (l := S.ctx.kinds) hk)
      subst hzc
      rw [findZ_out hk] at CF
      go_upto_region 6 with (go_at_call 32; refine CN.out.mono ?_; rintro _ w9 ⟨rfl, hw⟩; subst w9)
      go_quiet ((go_at_call 34; exact Calls.quiet_of_same (CF.out _)))
      rename Nat => nq
      go_wp2_with fail
      go_ret
      exact ⟨rfl, by rw [← HH.out]; exact (K1.out.below (below_drewN w1 nq)).low⟩
set_option maxRecDepth 100000 in
set_option maxHeartbeats 12800000 in
theorem ritem4_any (h : SR w.heap.size w S st) (hfit : S.fitsB = true) {n : Nat} {m : Bytes × Int} (hn : S.sources[n]? = some m) : Calls Tryz.prog 21 #[st.agg, .int .i64 4, .int .i64 n] w fun e w' => e = .returned (.int .i64 (erc (sourceM S.srcs n m))) ∧ Below w.heap.size w w' := by
  obtain ⟨hfk, hfm, hfp, hfc, hfs, hfr, hfe, hft⟩ := fitB hfit
  have H0 := hide h
  obtain ⟨tt, ht⟩ := h.title
  obtain ⟨a1, b1, f1, _, _⟩ := h.kinds.form
  obtain ⟨a2, b2, f2, _, _⟩ := h.members.form
  obtain ⟨a3, b3, f3, _, _⟩ := h.preds.form
  obtain ⟨a4, b4, f4, _, _⟩ := h.classes.form
  obtain ⟨a5, b5, f5, _, _⟩ := h.sources.form
  obtain ⟨a6, b6, f6, _, _⟩ := h.rules.form
  obtain ⟨a7, b7, f7, _, _⟩ := h.excepts.form
  obtain ⟨a8, b8, f8, _, _⟩ := h.totals.form
  obtain ⟨s0, s1, s2, s3, s4, s5, s6, s7, s8⟩ := st
  simp only at ht f1 f2 f3 f4 f5 f6 f7 f8
  subst ht f1 f2 f3 f4 f5 f6 f7 f8
  have hA : Below w.heap.size w (w.alloc (.cells #[.string tt, .slice a1 S.kinds.length b1, .slice a2 S.members.length b2, .slice a3 S.preds.length b3, .slice a4 S.classes.length b4, .slice a5 S.sources.length b5, .slice a6 S.rules.length b6, .slice a7 S.excepts.length b7, .slice a8 S.totals.length b8] 31)) := (Below.refl _ w).alloc (Nat.le_refl _) _
  have K0 : Hid (Lw w.heap.size S ⟨.string tt, .slice a1 S.kinds.length b1, .slice a2 S.members.length b2, .slice a3 S.preds.length b3, .slice a4 S.classes.length b4, .slice a5 S.sources.length b5, .slice a6 S.rules.length b6, .slice a7 S.excepts.length b7, .slice a8 S.totals.length b8⟩ w (w.alloc (.cells #[.string tt, .slice a1 S.kinds.length b1, .slice a2 S.members.length b2, .slice a3 S.preds.length b3, .slice a4 S.classes.length b4, .slice a5 S.sources.length b5, .slice a6 S.rules.length b6, .slice a7 S.excepts.length b7, .slice a8 S.totals.length b8] 31))) := hide ⟨hA, h.keep fun g hg => hA.block g hg, heap_alloc_new w _⟩
  have hlt : n < S.sources.length := (List.getElem?_eq_some_iff.1 hn).1
  have hgd : S.srcs.getD n [] = m.1 := by show (S.sources.map (·.1)).getD n [] = m.1; rw [List.getD_eq_getElem?_getD, List.getElem?_map, hn]; rfl
  have HPL : Hid (S.srcs.length = S.sources.length) := hide (List.length_map _)
  have CM := hide (rsourcesS K0.out.sr (by omega))
  obtain ⟨g, oo, rfl, hg, -, e1, -⟩ := at_Src h.sources hn
  obtain ⟨z, hz⟩ : ∃ z, erc (sourceM S.srcs n m) = z := ⟨_, rfl⟩
  rw [hz]
  have HZ := hide hz
  unfold sourceM at HZ
  have HGD := hide hgd
  clear hz hgd
  obtain ⟨H, hH⟩ : ∃ H, H = w.heap.size := ⟨_, rfl⟩
  rw [← hH] at K0
  have HH := hide hH
  clear h hA
  unfold St9.agg at *
  simp only at *
  obtain ⟨c0, c1, c2, c3, c4, c5, c6, c7, c8, cf⟩ := K0.out.cells
  simp only at c0 c1 c2 c3 c4 c5 c6 c7 c8
  clear cf
  go_enter Tryz.func21, Tryz.ntmps21
  go_upto_region 1 with fail
  rw [← hH]
  generalize w.alloc (.cells #[.string tt, .slice a1 S.kinds.length b1, .slice a2 S.members.length b2, .slice a3 S.preds.length b3, .slice a4 S.classes.length b4, .slice (some ⟨g, oo, none⟩) S.sources.length b5, .slice a6 S.rules.length b6, .slice a7 S.excepts.length b7, .slice a8 S.totals.length b8] 31) = w0 at *
  clear hH
  go_wp2_with fail
  refine CM.out.mono ?_
  rintro _ w1 ⟨xa, xc, rfl, hat, hb⟩
  have CN := hide (rnamedS (c := xc) hat HPL.out (by omega) hlt HGD.out)
  have K1 := hide (K0.out.below hb)
  have hgH : g < H := by rw [HH.out]; exact hg
  have q1 := K1.out.cell hgH e1
  clear hat hb CM K0 c0 c1 c2 c3 c4 c5 c6 c7 c8
  obtain ⟨c0, c1, c2, c3, c4, c5, c6, c7, c8, cf⟩ := K1.out.cells
  simp only at c0 c1 c2 c3 c4 c5 c6 c7 c8
  clear cf
  cases hcd : calledM S.srcs m.1 n with
  | error c =>
    have hzc := es HZ.out hcd
    subst hzc
    have hcz := nz_called _ _ _ c hcd
    have hbq : (c == 0) = false := beq_eq_false_iff_ne.2 hcz
    rw [erc_no hcd] at CN
    go_upto_region 15 with (go_at_call 32; refine CN.out.mono ?_; rintro _ w9 ⟨rfl, hw⟩; subst w9)
    go_wp2_with fail
    go_ret
    exact ⟨rfl, by rw [← HH.out]; exact K1.out.low⟩
  | ok u =>
    have HZ1 := hide (eg HZ.out hcd)
    rw [erc_ok hcd] at CN
    by_cases h0 : 0 ≤ m.2
    · have h0' : ¬ m.2 < 0 := by omega
      by_cases h1 : m.2 ≤ 1000
      · have h1' : ¬ 1000 < m.2 := by omega
        have hzc : 0 = z := by
          have := HZ1.out
          rw [want_t (by rw [decide_eq_true h0, decide_eq_true h1]; rfl)] at this
          exact this
        subst hzc
        go_upto_region 15 with (go_at_call 32; refine CN.out.mono ?_; rintro _ w9 ⟨rfl, hw⟩; subst w9)
        go_wp2_with fail
        go_ret
        exact ⟨rfl, by rw [← HH.out]; exact K1.out.low⟩
      · have h1' : 1000 < m.2 := by omega
        have hzc : 4 = z := by
          have := HZ1.out
          rw [want_f (by rw [decide_eq_false h1, Bool.and_false])] at this
          exact this
        subst hzc
        go_upto_region 15 with (go_at_call 32; refine CN.out.mono ?_; rintro _ w9 ⟨rfl, hw⟩; subst w9)
        go_wp2_with fail
        go_ret
        exact ⟨rfl, by rw [← HH.out]; exact K1.out.low⟩
    · have h0' : m.2 < 0 := by omega
      have hzc : 4 = z := by
        have := HZ1.out
        rw [want_f (by rw [decide_eq_false h0, Bool.false_and])] at this
        exact this
      subst hzc
      go_upto_region 15 with (go_at_call 32; refine CN.out.mono ?_; rintro _ w9 ⟨rfl, hw⟩; subst w9)
      go_wp2_with fail
      go_ret
      exact ⟨rfl, by rw [← HH.out]; exact K1.out.low⟩
/-- A book with nothing in it. -/
theorem Pk.start {w X : World} {S : StatM} {st : St9} (h : SR w.heap.size w S st) (hfit : S.fitsB = true) (hb : Below w.heap.size w X) : Pk w S st (fun k => X.heap.size ≤ k) X.heap.size 0 [] (X.alloc (.cells #[.slice none 0 0, .slice none 0 0, .slice none 0 0] 95)) := by
  have hA : Below X.heap.size X (X.alloc (.cells #[.slice none 0 0, .slice none 0 0, .slice none 0 0] 95)) := (Below.refl _ X).alloc (Nat.le_refl _) _
  have hs : (X.alloc (.cells #[.slice none 0 0, .slice none 0 0, .slice none 0 0] 95)).heap.size = X.heap.size + 1 := by simp
  refine ⟨h, hfit, hb.trans (hA.mono hb.size), fun k hk => Nat.le_trans hb.size hk, ⟨.slice none 0 0, .slice none 0 0, .slice none 0 0, [], [], [], ⟨heap_alloc_new X _, ⟨rfl, .inl ⟨rfl, rfl⟩⟩, ⟨rfl, .inl ⟨rfl, rfl⟩⟩, ⟨rfl, .inl ⟨rfl, rfl⟩⟩, fun g hg => by (cases hg), Nat.le_refl _, fun g hg => by (cases hg), fun g hg => by (cases hg), fun g hg => by (cases hg)⟩, Sim.nil, by simp, by simp⟩, fun g hg => by omega⟩
set_option maxRecDepth 100000 in
set_option maxHeartbeats 12800000 in
theorem ritem5_any (h : SR w.heap.size w S st) (hfit : S.fitsB = true) {n : Nat} {t : RuleM} (hok : PredsOk S) (hn : S.rules[n]? = some t) : Calls Tryz.prog 21 #[st.agg, .int .i64 5, .int .i64 n] w fun e w' => e = .returned (.int .i64 (erc (ruleM S.ctx S.srcs S.heads n t))) ∧ Below w.heap.size w w' := by
  obtain ⟨hfk, hfm, hfp, hfc, hfs, hfr, hfe, hft⟩ := fitB hfit
  have H0 := hide h
  obtain ⟨tt, ht⟩ := h.title
  obtain ⟨a1, b1, f1, _, _⟩ := h.kinds.form
  obtain ⟨a2, b2, f2, _, _⟩ := h.members.form
  obtain ⟨a3, b3, f3, _, _⟩ := h.preds.form
  obtain ⟨a4, b4, f4, _, _⟩ := h.classes.form
  obtain ⟨a5, b5, f5, _, _⟩ := h.sources.form
  obtain ⟨a6, b6, f6, _, _⟩ := h.rules.form
  obtain ⟨a7, b7, f7, _, _⟩ := h.excepts.form
  obtain ⟨a8, b8, f8, _, _⟩ := h.totals.form
  obtain ⟨s0, s1, s2, s3, s4, s5, s6, s7, s8⟩ := st
  simp only at ht f1 f2 f3 f4 f5 f6 f7 f8
  subst ht f1 f2 f3 f4 f5 f6 f7 f8
  have hA : Below w.heap.size w (w.alloc (.cells #[.string tt, .slice a1 S.kinds.length b1, .slice a2 S.members.length b2, .slice a3 S.preds.length b3, .slice a4 S.classes.length b4, .slice a5 S.sources.length b5, .slice a6 S.rules.length b6, .slice a7 S.excepts.length b7, .slice a8 S.totals.length b8] 31)) := (Below.refl _ w).alloc (Nat.le_refl _) _
  have K0 : Hid (Lw w.heap.size S ⟨.string tt, .slice a1 S.kinds.length b1, .slice a2 S.members.length b2, .slice a3 S.preds.length b3, .slice a4 S.classes.length b4, .slice a5 S.sources.length b5, .slice a6 S.rules.length b6, .slice a7 S.excepts.length b7, .slice a8 S.totals.length b8⟩ w (w.alloc (.cells #[.string tt, .slice a1 S.kinds.length b1, .slice a2 S.members.length b2, .slice a3 S.preds.length b3, .slice a4 S.classes.length b4, .slice a5 S.sources.length b5, .slice a6 S.rules.length b6, .slice a7 S.excepts.length b7, .slice a8 S.totals.length b8] 31))) := hide ⟨hA, h.keep fun g hg => hA.block g hg, heap_alloc_new w _⟩
  have HOK := hide hok
  have HP := hide (Pk.start (X := (w.alloc (.cells #[.string tt, .slice a1 S.kinds.length b1, .slice a2 S.members.length b2, .slice a3 S.preds.length b3, .slice a4 S.classes.length b4, .slice a5 S.sources.length b5, .slice a6 S.rules.length b6, .slice a7 S.excepts.length b7, .slice a8 S.totals.length b8] 31))) h hfit hA)
  obtain ⟨H, hH⟩ : ∃ H, H = w.heap.size := ⟨_, rfl⟩
  rw [← hH] at K0
  have HH := hide hH
  clear h hA
  unfold St9.agg at *
  simp only at *
  obtain ⟨c0, c1, c2, c3, c4, c5, c6, c7, c8, cf⟩ := K0.out.cells
  simp only at c0 c1 c2 c3 c4 c5 c6 c7 c8
  clear cf
  go_enter Tryz.func21, Tryz.ntmps21
  go_upto_region 1 with fail
  rw [← hH]
  generalize w.alloc (.cells #[.string tt, .slice a1 S.kinds.length b1, .slice a2 S.members.length b2, .slice a3 S.preds.length b3, .slice a4 S.classes.length b4, .slice a5 S.sources.length b5, .slice a6 S.rules.length b6, .slice a7 S.excepts.length b7, .slice a8 S.totals.length b8] 31) = w0 at *
  clear hH
  have CX := hide (rrule_any HP.out HOK.out hn)
  have hb0 := heap_alloc_new w0 (.cells #[.slice none 0 0, .slice none 0 0, .slice none 0 0] 95)
  have HLT := hide (loc_lt K0.out.box)
  have HC := hide ((Below.heap_alloc w0 (.cells #[.slice none 0 0, .slice none 0 0, .slice none 0 0] 95) H HLT.out).trans K0.out.box)
  unfold St9.agg at CX
  simp only at CX
  have hgl : H < w0.heap.size := HLT.out
  go_upto_region 20 with fail
  have HLOW := hide K0.out.low
  clear c0 c1 c2 c3 c4 c5 c6 c7 c8 K0 hb0
  have HA0 : Hid (Below w0.heap.size w0 (w0.alloc (.cells #[.slice none 0 0, .slice none 0 0, .slice none 0 0] 95))) := hide ((Below.refl _ w0).alloc (Nat.le_refl _) _)
  have HSZ := hide HA0.out.size
  generalize w0.alloc (.cells #[.slice none 0 0, .slice none 0 0, .slice none 0 0] 95) = w2 at *
  generalize w0.heap.size = VV at *
  have c0 := cell_of_row w2 _ 0 _ _ _ HC.out
  have c1 := cell_of_row w2 _ 1 _ _ _ HC.out
  have c2 := cell_of_row w2 _ 2 _ _ _ HC.out
  have c3 := cell_of_row w2 _ 3 _ _ _ HC.out
  have c4 := cell_of_row w2 _ 4 _ _ _ HC.out
  have c5 := cell_of_row w2 _ 5 _ _ _ HC.out
  have c6 := cell_of_row w2 _ 6 _ _ _ HC.out
  have c7 := cell_of_row w2 _ 7 _ _ _ HC.out
  have c8 := cell_of_row w2 _ 8 _ _ _ HC.out
  simp only [List.getElem?_toArray, List.getElem?_cons_zero, List.getElem?_cons_succ] at c0 c1 c2 c3 c4 c5 c6 c7 c8
  go_wp2_with fail
  refine CX.out.mono ?_
  rintro _ w3 ⟨rfl, hf, -⟩
  have HW : Hid (Below H w w3) := by
    have h1 := HA0.out
    have h2 : Below H w2 w3 := hf.below fun k hk => ⟨by have := HSZ.out; have := HLT.out; omega, by have := HLT.out; omega⟩
    exact hide (HLOW.out.trans ((h1.mono (by have := HLT.out; omega)).trans h2))
  clear hf
  go_wp2_with fail
  go_ret
  exact ⟨rfl, by rw [← HH.out]; exact HW.out⟩
end
end Go.Proofs.YtbdlgglbcaoakaaGreat
