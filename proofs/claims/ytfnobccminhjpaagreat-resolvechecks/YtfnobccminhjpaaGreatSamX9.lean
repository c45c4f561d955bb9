/- A statute and another one of the same are the same. By program (tools/gen8/samz9.py). -/
import Derived.Test.YtfnobccminhjpaaGreatSamY9
import Derived.Test.YtfnobccminhjpaaGreatBkC9
namespace Go.Proofs.YtfnobccminhjpaaGreat
open Go.RowKit Go.Shelf Go.Maps Go.WideMaps
set_option maxRecDepth 100000 in
set_option maxHeartbeats 3200000 in
theorem sameSt_yes {w : World} {S : StatM} {st st' : St9} (ha : SR w.heap.size w S st) (hb : SR w.heap.size w S st') (ht : st.title = str S.title) (ht' : st'.title = str S.title) :
    Calls Tryz.prog 15 #[st.agg, st'.agg] w fun e w' => e = .returned (.bool true) ∧ Below w.heap.size w w' := by
  have HA := hide ha
  have HB := hide hb
  obtain ⟨a1, c1, e1, _⟩ := ha.kinds.form
  obtain ⟨b1, d1, f1, _⟩ := hb.kinds.form
  obtain ⟨a2, c2, e2, _⟩ := ha.members.form
  obtain ⟨b2, d2, f2, _⟩ := hb.members.form
  obtain ⟨a3, c3, e3, _⟩ := ha.preds.form
  obtain ⟨b3, d3, f3, _⟩ := hb.preds.form
  obtain ⟨a4, c4, e4, _⟩ := ha.classes.form
  obtain ⟨b4, d4, f4, _⟩ := hb.classes.form
  obtain ⟨a5, c5, e5, _⟩ := ha.sources.form
  obtain ⟨b5, d5, f5, _⟩ := hb.sources.form
  obtain ⟨a6, c6, e6, _⟩ := ha.rules.form
  obtain ⟨b6, d6, f6, _⟩ := hb.rules.form
  obtain ⟨a7, c7, e7, _⟩ := ha.excepts.form
  obtain ⟨b7, d7, f7, _⟩ := hb.excepts.form
  obtain ⟨a8, c8, e8, _⟩ := ha.totals.form
  obtain ⟨b8, d8, f8, _⟩ := hb.totals.form
  obtain ⟨t0, t1, t2, t3, t4, t5, t6, t7, t8⟩ := st
  obtain ⟨u0, u1, u2, u3, u4, u5, u6, u7, u8⟩ := st'
  simp only at ht ht' e1 e2 e3 e4 e5 e6 e7 e8 f1 f2 f3 f4 f5 f6 f7 f8
  subst ht ht' e1 e2 e3 e4 e5 e6 e7 e8 f1 f2 f3 f4 f5 f6 f7 f8
  clear ha hb
  unfold str at *
  show Calls Tryz.prog 15 #[.agg #[.string ⟨S.title.toArray⟩, .slice a1 S.kinds.length c1, .slice a2 S.members.length c2, .slice a3 S.preds.length c3, .slice a4 S.classes.length c4, .slice a5 S.sources.length c5, .slice a6 S.rules.length c6, .slice a7 S.excepts.length c7, .slice a8 S.totals.length c8], .agg #[.string ⟨S.title.toArray⟩, .slice b1 S.kinds.length d1, .slice b2 S.members.length d2, .slice b3 S.preds.length d3, .slice b4 S.classes.length d4, .slice b5 S.sources.length d5, .slice b6 S.rules.length d6, .slice b7 S.excepts.length d7, .slice b8 S.totals.length d8]] w _
  have X0 := hide (Bx.two (T := 31) (A := [.string ⟨S.title.toArray⟩, .slice a1 S.kinds.length c1, .slice a2 S.members.length c2, .slice a3 S.preds.length c3, .slice a4 S.classes.length c4, .slice a5 S.sources.length c5, .slice a6 S.rules.length c6, .slice a7 S.excepts.length c7, .slice a8 S.totals.length c8]) (Z0 := [.string ⟨S.title.toArray⟩, .slice b1 S.kinds.length d1, .slice b2 S.members.length d2, .slice b3 S.preds.length d3, .slice b4 S.classes.length d4, .slice b5 S.sources.length d5, .slice b6 S.rules.length d6, .slice b7 S.excepts.length d7, .slice b8 S.totals.length d8]) (w := w))
  go_enter Tryz.func15, Tryz.ntmps15
  go_upto_region 1 with fail
  generalize (w.alloc (.cells #[.string ⟨S.title.toArray⟩, .slice a1 S.kinds.length c1, .slice a2 S.members.length c2, .slice a3 S.preds.length c3, .slice a4 S.classes.length c4, .slice a5 S.sources.length c5, .slice a6 S.rules.length c6, .slice a7 S.excepts.length c7, .slice a8 S.totals.length c8] 31)).alloc (.cells #[.string ⟨S.title.toArray⟩, .slice b1 S.kinds.length d1, .slice b2 S.members.length d2, .slice b3 S.preds.length d3, .slice b4 S.classes.length d4, .slice b5 S.sources.length d5, .slice b6 S.rules.length d6, .slice b7 S.excepts.length d7, .slice b8 S.totals.length d8] 31) = W0 at *
  have a0 := cell_of_row _ _ 0 _ _ _ X0.out.b1
  have b0 := cell_of_row _ _ 0 _ _ _ X0.out.b2
  have a1 := cell_of_row _ _ 1 _ _ _ X0.out.b1
  have b1 := cell_of_row _ _ 1 _ _ _ X0.out.b2
  have a2 := cell_of_row _ _ 2 _ _ _ X0.out.b1
  have b2 := cell_of_row _ _ 2 _ _ _ X0.out.b2
  have a3 := cell_of_row _ _ 3 _ _ _ X0.out.b1
  have b3 := cell_of_row _ _ 3 _ _ _ X0.out.b2
  have a4 := cell_of_row _ _ 4 _ _ _ X0.out.b1
  have b4 := cell_of_row _ _ 4 _ _ _ X0.out.b2
  have a5 := cell_of_row _ _ 5 _ _ _ X0.out.b1
  have b5 := cell_of_row _ _ 5 _ _ _ X0.out.b2
  have a6 := cell_of_row _ _ 6 _ _ _ X0.out.b1
  have b6 := cell_of_row _ _ 6 _ _ _ X0.out.b2
  have a7 := cell_of_row _ _ 7 _ _ _ X0.out.b1
  have b7 := cell_of_row _ _ 7 _ _ _ X0.out.b2
  have a8 := cell_of_row _ _ 8 _ _ _ X0.out.b1
  have b8 := cell_of_row _ _ 8 _ _ _ X0.out.b2
  simp only [List.getElem?_toArray, List.getElem?_cons_zero, List.getElem?_cons_succ] at a0 b0 a1 b1 a2 b2 a3 b3 a4 b4 a5 b5 a6 b6 a7 b7 a8 b8
  have CX := hide (sameS_z (w := W0) (Strs.go X0.out.low HA.out.kinds) (Strs.go X0.out.low HB.out.kinds))
  go_wp2_with fail
  refine CX.out.mono ?_
  rintro _ W1 ⟨rfl, q0, hq0⟩
  have hbd : Below W0.heap.size W0 W1 := by rw [hq0]; exact below_drewN _ _
  clear hq0
  have X1 := hide (Bx.call X0.out hbd)
  clear a0 b0 a1 b1 a2 b2 a3 b3 a4 b4 a5 b5 a6 b6 a7 b7 a8 b8 CX hbd X0
  have a0 := cell_of_row _ _ 0 _ _ _ X1.out.b1
  have b0 := cell_of_row _ _ 0 _ _ _ X1.out.b2
  have a1 := cell_of_row _ _ 1 _ _ _ X1.out.b1
  have b1 := cell_of_row _ _ 1 _ _ _ X1.out.b2
  have a2 := cell_of_row _ _ 2 _ _ _ X1.out.b1
  have b2 := cell_of_row _ _ 2 _ _ _ X1.out.b2
  have a3 := cell_of_row _ _ 3 _ _ _ X1.out.b1
  have b3 := cell_of_row _ _ 3 _ _ _ X1.out.b2
  have a4 := cell_of_row _ _ 4 _ _ _ X1.out.b1
  have b4 := cell_of_row _ _ 4 _ _ _ X1.out.b2
  have a5 := cell_of_row _ _ 5 _ _ _ X1.out.b1
  have b5 := cell_of_row _ _ 5 _ _ _ X1.out.b2
  have a6 := cell_of_row _ _ 6 _ _ _ X1.out.b1
  have b6 := cell_of_row _ _ 6 _ _ _ X1.out.b2
  have a7 := cell_of_row _ _ 7 _ _ _ X1.out.b1
  have b7 := cell_of_row _ _ 7 _ _ _ X1.out.b2
  have a8 := cell_of_row _ _ 8 _ _ _ X1.out.b1
  have b8 := cell_of_row _ _ 8 _ _ _ X1.out.b2
  simp only [List.getElem?_toArray, List.getElem?_cons_zero, List.getElem?_cons_succ] at a0 b0 a1 b1 a2 b2 a3 b3 a4 b4 a5 b5 a6 b6 a7 b7 a8 b8
  have CX := hide (sameM_z (w := W1) (RR.go X1.out.low HA.out.members fun _ _ h => h) (RR.go X1.out.low HB.out.members fun _ _ h => h))
  go_wp2_with fail
  refine CX.out.mono ?_
  rintro _ W2 ⟨rfl, q1, hq1⟩
  have hbd : Below W1.heap.size W1 W2 := by rw [hq1]; exact below_drewN _ _
  clear hq1
  have X2 := hide (Bx.call X1.out hbd)
  clear a0 b0 a1 b1 a2 b2 a3 b3 a4 b4 a5 b5 a6 b6 a7 b7 a8 b8 CX hbd X1
  have a0 := cell_of_row _ _ 0 _ _ _ X2.out.b1
  have b0 := cell_of_row _ _ 0 _ _ _ X2.out.b2
  have a1 := cell_of_row _ _ 1 _ _ _ X2.out.b1
  have b1 := cell_of_row _ _ 1 _ _ _ X2.out.b2
  have a2 := cell_of_row _ _ 2 _ _ _ X2.out.b1
  have b2 := cell_of_row _ _ 2 _ _ _ X2.out.b2
  have a3 := cell_of_row _ _ 3 _ _ _ X2.out.b1
  have b3 := cell_of_row _ _ 3 _ _ _ X2.out.b2
  have a4 := cell_of_row _ _ 4 _ _ _ X2.out.b1
  have b4 := cell_of_row _ _ 4 _ _ _ X2.out.b2
  have a5 := cell_of_row _ _ 5 _ _ _ X2.out.b1
  have b5 := cell_of_row _ _ 5 _ _ _ X2.out.b2
  have a6 := cell_of_row _ _ 6 _ _ _ X2.out.b1
  have b6 := cell_of_row _ _ 6 _ _ _ X2.out.b2
  have a7 := cell_of_row _ _ 7 _ _ _ X2.out.b1
  have b7 := cell_of_row _ _ 7 _ _ _ X2.out.b2
  have a8 := cell_of_row _ _ 8 _ _ _ X2.out.b1
  have b8 := cell_of_row _ _ 8 _ _ _ X2.out.b2
  simp only [List.getElem?_toArray, List.getElem?_cons_zero, List.getElem?_cons_succ] at a0 b0 a1 b1 a2 b2 a3 b3 a4 b4 a5 b5 a6 b6 a7 b7 a8 b8
  have CX := hide (samelP_z (w := W2) (RR.go X2.out.low HA.out.preds fun _ _ h => cPred.go X2.out.low h) (RR.go X2.out.low HB.out.preds fun _ _ h => cPred.go X2.out.low h))
  go_wp2_with fail
  refine CX.out.mono ?_
  rintro _ W3 ⟨rfl, hbd⟩
  have X3 := hide (Bx.call X2.out hbd)
  clear a0 b0 a1 b1 a2 b2 a3 b3 a4 b4 a5 b5 a6 b6 a7 b7 a8 b8 CX hbd X2
  have a0 := cell_of_row _ _ 0 _ _ _ X3.out.b1
  have b0 := cell_of_row _ _ 0 _ _ _ X3.out.b2
  have a1 := cell_of_row _ _ 1 _ _ _ X3.out.b1
  have b1 := cell_of_row _ _ 1 _ _ _ X3.out.b2
  have a2 := cell_of_row _ _ 2 _ _ _ X3.out.b1
  have b2 := cell_of_row _ _ 2 _ _ _ X3.out.b2
  have a3 := cell_of_row _ _ 3 _ _ _ X3.out.b1
  have b3 := cell_of_row _ _ 3 _ _ _ X3.out.b2
  have a4 := cell_of_row _ _ 4 _ _ _ X3.out.b1
  have b4 := cell_of_row _ _ 4 _ _ _ X3.out.b2
  have a5 := cell_of_row _ _ 5 _ _ _ X3.out.b1
  have b5 := cell_of_row _ _ 5 _ _ _ X3.out.b2
  have a6 := cell_of_row _ _ 6 _ _ _ X3.out.b1
  have b6 := cell_of_row _ _ 6 _ _ _ X3.out.b2
  have a7 := cell_of_row _ _ 7 _ _ _ X3.out.b1
  have b7 := cell_of_row _ _ 7 _ _ _ X3.out.b2
  have a8 := cell_of_row _ _ 8 _ _ _ X3.out.b1
  have b8 := cell_of_row _ _ 8 _ _ _ X3.out.b2
  simp only [List.getElem?_toArray, List.getElem?_cons_zero, List.getElem?_cons_succ] at a0 b0 a1 b1 a2 b2 a3 b3 a4 b4 a5 b5 a6 b6 a7 b7 a8 b8
  have CX := hide (samelC_z (w := W3) (RR.go X3.out.low HA.out.classes fun _ _ h => cClass.go X3.out.low h) (RR.go X3.out.low HB.out.classes fun _ _ h => cClass.go X3.out.low h))
  go_wp2_with fail
  refine CX.out.mono ?_
  rintro _ W4 ⟨rfl, hbd⟩
  have X4 := hide (Bx.call X3.out hbd)
  clear a0 b0 a1 b1 a2 b2 a3 b3 a4 b4 a5 b5 a6 b6 a7 b7 a8 b8 CX hbd X3
  have a0 := cell_of_row _ _ 0 _ _ _ X4.out.b1
  have b0 := cell_of_row _ _ 0 _ _ _ X4.out.b2
  have a1 := cell_of_row _ _ 1 _ _ _ X4.out.b1
  have b1 := cell_of_row _ _ 1 _ _ _ X4.out.b2
  have a2 := cell_of_row _ _ 2 _ _ _ X4.out.b1
  have b2 := cell_of_row _ _ 2 _ _ _ X4.out.b2
  have a3 := cell_of_row _ _ 3 _ _ _ X4.out.b1
  have b3 := cell_of_row _ _ 3 _ _ _ X4.out.b2
  have a4 := cell_of_row _ _ 4 _ _ _ X4.out.b1
  have b4 := cell_of_row _ _ 4 _ _ _ X4.out.b2
  have a5 := cell_of_row _ _ 5 _ _ _ X4.out.b1
  have b5 := cell_of_row _ _ 5 _ _ _ X4.out.b2
  have a6 := cell_of_row _ _ 6 _ _ _ X4.out.b1
  have b6 := cell_of_row _ _ 6 _ _ _ X4.out.b2
  have a7 := cell_of_row _ _ 7 _ _ _ X4.out.b1
  have b7 := cell_of_row _ _ 7 _ _ _ X4.out.b2
  have a8 := cell_of_row _ _ 8 _ _ _ X4.out.b1
  have b8 := cell_of_row _ _ 8 _ _ _ X4.out.b2
  simp only [List.getElem?_toArray, List.getElem?_cons_zero, List.getElem?_cons_succ] at a0 b0 a1 b1 a2 b2 a3 b3 a4 b4 a5 b5 a6 b6 a7 b7 a8 b8
  have CX := hide (sameSr_z (w := W4) (RR.go X4.out.low HA.out.sources fun _ _ h => h) (RR.go X4.out.low HB.out.sources fun _ _ h => h))
  go_wp2_with fail
  refine CX.out.mono ?_
  rintro _ W5 ⟨rfl, q4, hq4⟩
  have hbd : Below W4.heap.size W4 W5 := by rw [hq4]; exact below_drewN _ _
  clear hq4
  have X5 := hide (Bx.call X4.out hbd)
  clear a0 b0 a1 b1 a2 b2 a3 b3 a4 b4 a5 b5 a6 b6 a7 b7 a8 b8 CX hbd X4
  have a0 := cell_of_row _ _ 0 _ _ _ X5.out.b1
  have b0 := cell_of_row _ _ 0 _ _ _ X5.out.b2
  have a1 := cell_of_row _ _ 1 _ _ _ X5.out.b1
  have b1 := cell_of_row _ _ 1 _ _ _ X5.out.b2
  have a2 := cell_of_row _ _ 2 _ _ _ X5.out.b1
  have b2 := cell_of_row _ _ 2 _ _ _ X5.out.b2
  have a3 := cell_of_row _ _ 3 _ _ _ X5.out.b1
  have b3 := cell_of_row _ _ 3 _ _ _ X5.out.b2
  have a4 := cell_of_row _ _ 4 _ _ _ X5.out.b1
  have b4 := cell_of_row _ _ 4 _ _ _ X5.out.b2
  have a5 := cell_of_row _ _ 5 _ _ _ X5.out.b1
  have b5 := cell_of_row _ _ 5 _ _ _ X5.out.b2
  have a6 := cell_of_row _ _ 6 _ _ _ X5.out.b1
  have b6 := cell_of_row _ _ 6 _ _ _ X5.out.b2
  have a7 := cell_of_row _ _ 7 _ _ _ X5.out.b1
  have b7 := cell_of_row _ _ 7 _ _ _ X5.out.b2
  have a8 := cell_of_row _ _ 8 _ _ _ X5.out.b1
  have b8 := cell_of_row _ _ 8 _ _ _ X5.out.b2
  simp only [List.getElem?_toArray, List.getElem?_cons_zero, List.getElem?_cons_succ] at a0 b0 a1 b1 a2 b2 a3 b3 a4 b4 a5 b5 a6 b6 a7 b7 a8 b8
  have CX := hide (samelR_z (w := W5) (RR.go X5.out.low HA.out.rules fun _ _ h => cRule.go X5.out.low h) (RR.go X5.out.low HB.out.rules fun _ _ h => cRule.go X5.out.low h))
  go_wp2_with fail
  refine CX.out.mono ?_
  rintro _ W6 ⟨rfl, hbd⟩
  have X6 := hide (Bx.call X5.out hbd)
  clear a0 b0 a1 b1 a2 b2 a3 b3 a4 b4 a5 b5 a6 b6 a7 b7 a8 b8 CX hbd X5
  have a0 := cell_of_row _ _ 0 _ _ _ X6.out.b1
  have b0 := cell_of_row _ _ 0 _ _ _ X6.out.b2
  have a1 := cell_of_row _ _ 1 _ _ _ X6.out.b1
  have b1 := cell_of_row _ _ 1 _ _ _ X6.out.b2
  have a2 := cell_of_row _ _ 2 _ _ _ X6.out.b1
  have b2 := cell_of_row _ _ 2 _ _ _ X6.out.b2
  have a3 := cell_of_row _ _ 3 _ _ _ X6.out.b1
  have b3 := cell_of_row _ _ 3 _ _ _ X6.out.b2
  have a4 := cell_of_row _ _ 4 _ _ _ X6.out.b1
  have b4 := cell_of_row _ _ 4 _ _ _ X6.out.b2
  have a5 := cell_of_row _ _ 5 _ _ _ X6.out.b1
  have b5 := cell_of_row _ _ 5 _ _ _ X6.out.b2
  have a6 := cell_of_row _ _ 6 _ _ _ X6.out.b1
  have b6 := cell_of_row _ _ 6 _ _ _ X6.out.b2
  have a7 := cell_of_row _ _ 7 _ _ _ X6.out.b1
  have b7 := cell_of_row _ _ 7 _ _ _ X6.out.b2
  have a8 := cell_of_row _ _ 8 _ _ _ X6.out.b1
  have b8 := cell_of_row _ _ 8 _ _ _ X6.out.b2
  simp only [List.getElem?_toArray, List.getElem?_cons_zero, List.getElem?_cons_succ] at a0 b0 a1 b1 a2 b2 a3 b3 a4 b4 a5 b5 a6 b6 a7 b7 a8 b8
  have CX := hide (sameE_z (w := W6) (RR.go X6.out.low HA.out.excepts fun _ _ h => h) (RR.go X6.out.low HB.out.excepts fun _ _ h => h))
  go_wp2_with fail
  refine CX.out.mono ?_
  rintro _ W7 ⟨rfl, q6, hq6⟩
  have hbd : Below W6.heap.size W6 W7 := by rw [hq6]; exact below_drewN _ _
  clear hq6
  have X7 := hide (Bx.call X6.out hbd)
  clear a0 b0 a1 b1 a2 b2 a3 b3 a4 b4 a5 b5 a6 b6 a7 b7 a8 b8 CX hbd X6
  have a0 := cell_of_row _ _ 0 _ _ _ X7.out.b1
  have b0 := cell_of_row _ _ 0 _ _ _ X7.out.b2
  have a1 := cell_of_row _ _ 1 _ _ _ X7.out.b1
  have b1 := cell_of_row _ _ 1 _ _ _ X7.out.b2
  have a2 := cell_of_row _ _ 2 _ _ _ X7.out.b1
  have b2 := cell_of_row _ _ 2 _ _ _ X7.out.b2
  have a3 := cell_of_row _ _ 3 _ _ _ X7.out.b1
  have b3 := cell_of_row _ _ 3 _ _ _ X7.out.b2
  have a4 := cell_of_row _ _ 4 _ _ _ X7.out.b1
  have b4 := cell_of_row _ _ 4 _ _ _ X7.out.b2
  have a5 := cell_of_row _ _ 5 _ _ _ X7.out.b1
  have b5 := cell_of_row _ _ 5 _ _ _ X7.out.b2
  have a6 := cell_of_row _ _ 6 _ _ _ X7.out.b1
  have b6 := cell_of_row _ _ 6 _ _ _ X7.out.b2
  have a7 := cell_of_row _ _ 7 _ _ _ X7.out.b1
  have b7 := cell_of_row _ _ 7 _ _ _ X7.out.b2
  have a8 := cell_of_row _ _ 8 _ _ _ X7.out.b1
  have b8 := cell_of_row _ _ 8 _ _ _ X7.out.b2
  simp only [List.getElem?_toArray, List.getElem?_cons_zero, List.getElem?_cons_succ] at a0 b0 a1 b1 a2 b2 a3 b3 a4 b4 a5 b5 a6 b6 a7 b7 a8 b8
  have CX := hide (samelT_z (w := W7) (RR.go X7.out.low HA.out.totals fun _ _ h => cTotal.go X7.out.low h) (RR.go X7.out.low HB.out.totals fun _ _ h => cTotal.go X7.out.low h))
  go_wp2_with fail
  refine CX.out.mono ?_
  rintro _ W8 ⟨rfl, hbd⟩
  have X8 := hide (Bx.call X7.out hbd)
  clear a0 b0 a1 b1 a2 b2 a3 b3 a4 b4 a5 b5 a6 b6 a7 b7 a8 b8 CX hbd X7
  have a0 := cell_of_row _ _ 0 _ _ _ X8.out.b1
  have b0 := cell_of_row _ _ 0 _ _ _ X8.out.b2
  have a1 := cell_of_row _ _ 1 _ _ _ X8.out.b1
  have b1 := cell_of_row _ _ 1 _ _ _ X8.out.b2
  have a2 := cell_of_row _ _ 2 _ _ _ X8.out.b1
  have b2 := cell_of_row _ _ 2 _ _ _ X8.out.b2
  have a3 := cell_of_row _ _ 3 _ _ _ X8.out.b1
  have b3 := cell_of_row _ _ 3 _ _ _ X8.out.b2
  have a4 := cell_of_row _ _ 4 _ _ _ X8.out.b1
  have b4 := cell_of_row _ _ 4 _ _ _ X8.out.b2
  have a5 := cell_of_row _ _ 5 _ _ _ X8.out.b1
  have b5 := cell_of_row _ _ 5 _ _ _ X8.out.b2
  have a6 := cell_of_row _ _ 6 _ _ _ X8.out.b1
  have b6 := cell_of_row _ _ 6 _ _ _ X8.out.b2
  have a7 := cell_of_row _ _ 7 _ _ _ X8.out.b1
  have b7 := cell_of_row _ _ 7 _ _ _ X8.out.b2
  have a8 := cell_of_row _ _ 8 _ _ _ X8.out.b1
  have b8 := cell_of_row _ _ 8 _ _ _ X8.out.b2
  simp only [List.getElem?_toArray, List.getElem?_cons_zero, List.getElem?_cons_succ] at a0 b0 a1 b1 a2 b2 a3 b3 a4 b4 a5 b5 a6 b6 a7 b7 a8 b8
  go_wp2_with fail
  go_ret
  exact ⟨rfl, X8.out.low⟩
end Go.Proofs.YtfnobccminhjpaaGreat
/- Two rows of strings held against one another; a literal's text. -/
namespace Go.Proofs.YtfnobccminhjpaaGreat
open Go.RowKit Go.Shelf Go.Maps Go.WideMaps

set_option maxRecDepth 100000 in
set_option maxHeartbeats 3200000 in
theorem sameS_any {w : World} {a b : Option Addr} {l m : List Bytes} {c d : Nat} (ha : At1 w a (strs l)) (hb : At1 w b (strs m)) (hl : l.length ≤ 140737488351232) :
    Calls Tryz.prog 13 #[.slice a l.length c, .slice b m.length d] w fun e w' => e = .returned (.bool (decide (l = m))) ∧ ∃ m, w' = w.drewN m := by
  have HA := hide ha
  have HB := hide hb
  clear ha hb
  by_cases hlm : l.length = m.length
  · have HLM := hide hlm
    have hz : (m.length : Int) = (l.length : Int) := by omega
    rw [show (Value.slice b m.length d) = .slice b l.length d by rw [hlm]]
    clear hlm hz
    go_enter Tryz.func13, Tryz.ntmps13
    go_wp2_with fail
    go_loopw [5] (fun x wr => ∃ k q : Nat, k ≤ l.length ∧ x = .int .i64 k ∧ wr = w.drewN q ∧ Hid (l.take k = m.take k)) (fun x _ => l.length - (intOf x).toNat)
    case atStart => exact ⟨0, 0, by omega, rfl, rfl, hide (by simp)⟩
    case round =>
      obtain ⟨k, q, hk, rfl, rfl, HK⟩ := hrel
      by_cases hlt : k < l.length
      · obtain ⟨g, o, rfl, kc⟩ := HA.out.str hlt
        obtain ⟨g2, o2, rfl, kd⟩ := HB.out.str (i := k) (by rw [← HLM.out]; exact hlt)
        by_cases he : l.getD k [] = m.getD k []
        · have HP := hide (take_eq_step hlt (by rw [← HLM.out]; exact hlt) HK.out he)
          rw [he] at kc
          generalize m.getD k [] = x at kc kd
          clear he HK
          go_wp2_with fail
          go_quiet (fail)
          go_wp2_with fail
          go_roundw
          case rel => exact ⟨k + 1, _, by omega, by go_num, rfl, HP⟩
          case measure => simp [intOf]; omega
        · have HP := hide (getD_ne he)
          generalize l.getD k [] = x at kc he
          generalize m.getD k [] = y at kd he
          have hbb : (x == y) = false := beq_eq_false_iff_ne.2 he
          clear he HK
          go_wp2_with fail
          go_quiet (fail)
          go_wp2_with fail
          go_ret
          exact ⟨by rw [decide_eq_false HP.out]; rfl, _, World.drewN_drewN _ _ _⟩
      · have HP : Hid (l = m) := by
          have := HK.out
          rw [List.take_of_length_le (by omega), List.take_of_length_le (by have := HLM.out; omega)] at this
          exact this
        go_wp2_with fail
        go_ret
        exact ⟨by rw [decide_eq_true HP.out]; rfl, q, rfl⟩
  · have hne : l ≠ m := fun e => hlm (by rw [e])
    rw [decide_eq_false hne]
    have hbb : ((l.length : Int) == (m.length : Int)) = false := beq_eq_false_iff_ne.2 (by omega)
    clear hne
    go_enter Tryz.func13, Tryz.ntmps13
    go_wp2_with fail
    go_ret
    exact ⟨rfl, 0, rfl⟩
end Go.Proofs.YtfnobccminhjpaaGreat
