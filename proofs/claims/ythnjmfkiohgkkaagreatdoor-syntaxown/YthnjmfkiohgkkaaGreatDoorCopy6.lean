/- Copies of things that hold lists. By program (tools/gen5/c19.py). -/
import Derived.Test.YthnjmfkiohgkkaaGreatDoorCopy5
import Derived.Test.YthnjmfkiohgkkaaGreatDoorSameAll
namespace Go.Proofs.YthnjmfkiohgkkaaGreatDoor.Sy
open Go.RowKit

theorem two_new (w : World) (o0 o1 : Obj) : ((w.alloc o0).alloc o1).heap[w.heap.size]? = some o0 ∧ ((w.alloc o0).alloc o1).heap[w.heap.size + 1]? = some o1 := by
  refine ⟨?_, ?_⟩
  · rw [Go.heap_alloc_old _ _ (by simp)]; exact heap_alloc_new w _
  · have := heap_alloc_new (w.alloc o0) o1
    simpa using this

theorem below_set {B : Nat} {w w' : World} (h : Below B w w') {q : Nat} (hq : B ≤ q) (i : Nat) (v : Value) : Below B w (w'.setCell ⟨q, i, none⟩ v) :=
  ⟨h.os, h.tape, h.output, by simpa using h.size, fun k hk => (heap_setCell_other w' ⟨q, i, none⟩ k v (by show k ≠ q; omega)).trans (h.block k hk)⟩

set_option maxRecDepth 100000 in
set_option maxHeartbeats 3200000 in
theorem copy_TermText {Z : Nat → Prop} (a : TermM) (x0 : Value) (w : World) (hx0 : Strs Z w a.args x0) (hl : a.args.length ≤ 1000000000) :
    Calls Tryz.prog 201 #[.agg #[.int .i64 a.coef, .string ⟨a.pred.toArray⟩, x0, .int .i64 a.value]] w fun e w' => ∃ v, e = .returned v ∧ vTerm (New w) w' a v ∧ Below w.heap.size w w' := by
  obtain ⟨xa0, xc0, rfl⟩ := rows_form hx0
  have HX0 := hide hx0
  clear hx0
  go_enter Tryz.func201, Tryz.ntmps201
  have B0 : Below w.heap.size w ((w.alloc (.cells #[.int .i64 a.coef, .string ⟨a.pred.toArray⟩, .slice xa0 a.args.length xc0, .int .i64 a.value] 109)).alloc (.cells #[.int .i64 0, .string ⟨#[]⟩, .slice none 0 0, .int .i64 0] 109)) := below_two w _ _
  have G0 : Hid (w.heap.size ≤ w.heap.size) := hide (Nat.le_refl _)
  have G1 : Hid (w.heap.size ≤ w.heap.size + 1) := hide (Nat.le_succ _)
  have NE_0_1 : Hid (w.heap.size ≠ w.heap.size + 1) := hide (by omega)
  have NE_1_0 : Hid (w.heap.size + 1 ≠ w.heap.size) := hide (by omega)
  have LB0 := hide (two_new w (.cells #[.int .i64 a.coef, .string ⟨a.pred.toArray⟩, .slice xa0 a.args.length xc0, .int .i64 a.value] 109) (.cells #[.int .i64 0, .string ⟨#[]⟩, .slice none 0 0, .int .i64 0] 109)).1
  have LB1 := hide (two_new w (.cells #[.int .i64 a.coef, .string ⟨a.pred.toArray⟩, .slice xa0 a.args.length xc0, .int .i64 a.value] 109) (.cells #[.int .i64 0, .string ⟨#[]⟩, .slice none 0 0, .int .i64 0] 109)).2
  have HX0_0 := hide (Strs.keep HX0.out (Kp.of_below (T := [9]) B0) (by decide))
  clear HX0
  have BW := hide B0
  clear B0
  have C1 := hide (copy_CopyStrings _ _ _ HX0_0.out hl)
  go_wp2_with fail
  refine C1.out.mono ?_
  rintro _ w1 ⟨v1, rfl, hv, hb⟩
  have LB0_1 := hide ((hb.block _ (loc_lt LB0.out)).trans LB0.out)
  clear LB0
  have LB1_1 := hide ((hb.block _ (loc_lt LB1.out)).trans LB1.out)
  clear LB1
  have HX0_0_1 := hide (Strs.keep HX0_0.out (Kp.of_below (T := [9]) hb) (by decide))
  clear HX0_0
  have hv0_1 := hv
  clear hv
  obtain ⟨p0_1, r0_1, rfl⟩ := rows_form hv0_1
  have V0_1 := hide (Strs.mono hv0_1 fun g hg => Nat.le_trans BW.out.size hg)
  clear hv0_1
  have BW1 := hide (BW.out.trans (hb.mono BW.out.size))
  clear hb C1 BW
  obtain ⟨z2_0, z2_1, z2_2, z2_3, y2⟩ := row4 LB0_1.out
  obtain ⟨z3_0, z3_1, z3_2, z3_3, y3⟩ := row4 LB1_1.out
  have x4 := NE_0_1.out
  have x5 := NE_1_0.out
  have HX0_0_1_6 := hide (Strs.keep HX0_0_1.out (Kp.setLoc (T := [9]) (i := 2) (v := .slice p0_1 a.args.length r0_1) LB0_1.out (by decide)) (by decide))
  clear HX0_0_1
  have V0_1_6 := hide (Strs.keep V0_1.out (Kp.setLoc (T := [9]) (i := 2) (v := .slice p0_1 a.args.length r0_1) LB0_1.out (by decide)) (by decide))
  clear V0_1
  have LB0_1_6 := hide (loc_set (i := 2) (v := .slice p0_1 a.args.length r0_1) LB0_1.out)
  have LB1_1_6 := hide (loc_other (p := ⟨w.heap.size, 2, none⟩) (v := .slice p0_1 a.args.length r0_1) LB1_1.out NE_1_0.out)
  clear LB0_1 LB1_1
  have BW6 := hide (below_set BW1.out G0.out 2 (.slice p0_1 a.args.length r0_1))
  clear BW1
  go_wp2_with fail
  have hz := (And.intro z2_0 (And.intro z2_1 (And.intro z2_2 (And.intro z2_3 (And.intro y2 (And.intro z3_0 (And.intro z3_1 (And.intro z3_2 (And.intro z3_3 (And.intro y3 (And.intro x4 x5)))))))))))
  simp [bodyPost, results, Tryz.results201, go_sem, hz]
  have HX0_0_1_6_7 := hide (Strs.keep HX0_0_1_6.out (Kp.setLoc (T := [9]) (i := 0) (v := .int .i64 a.coef) LB1_1_6.out (by decide)) (by decide))
  clear HX0_0_1_6
  have V0_1_6_7 := hide (Strs.keep V0_1_6.out (Kp.setLoc (T := [9]) (i := 0) (v := .int .i64 a.coef) LB1_1_6.out (by decide)) (by decide))
  clear V0_1_6
  have LB0_1_6_7 := hide (loc_other (p := ⟨w.heap.size + 1, 0, none⟩) (v := .int .i64 a.coef) LB0_1_6.out NE_0_1.out)
  have LB1_1_6_7 := hide (loc_set (i := 0) (v := .int .i64 a.coef) LB1_1_6.out)
  clear LB0_1_6 LB1_1_6
  have BW7 := hide (below_set BW6.out G1.out 0 (.int .i64 a.coef))
  clear BW6
  have HX0_0_1_6_7_8 := hide (Strs.keep HX0_0_1_6_7.out (Kp.setLoc (T := [9]) (i := 1) (v := .string ⟨a.pred.toArray⟩) LB1_1_6_7.out (by decide)) (by decide))
  clear HX0_0_1_6_7
  have V0_1_6_7_8 := hide (Strs.keep V0_1_6_7.out (Kp.setLoc (T := [9]) (i := 1) (v := .string ⟨a.pred.toArray⟩) LB1_1_6_7.out (by decide)) (by decide))
  clear V0_1_6_7
  have LB0_1_6_7_8 := hide (loc_other (p := ⟨w.heap.size + 1, 1, none⟩) (v := .string ⟨a.pred.toArray⟩) LB0_1_6_7.out NE_0_1.out)
  have LB1_1_6_7_8 := hide (loc_set (i := 1) (v := .string ⟨a.pred.toArray⟩) LB1_1_6_7.out)
  clear LB0_1_6_7 LB1_1_6_7
  have BW8 := hide (below_set BW7.out G1.out 1 (.string ⟨a.pred.toArray⟩))
  clear BW7
  have HX0_0_1_6_7_8_9 := hide (Strs.keep HX0_0_1_6_7_8.out (Kp.setLoc (T := [9]) (i := 2) (v := .slice p0_1 a.args.length r0_1) LB1_1_6_7_8.out (by decide)) (by decide))
  clear HX0_0_1_6_7_8
  have V0_1_6_7_8_9 := hide (Strs.keep V0_1_6_7_8.out (Kp.setLoc (T := [9]) (i := 2) (v := .slice p0_1 a.args.length r0_1) LB1_1_6_7_8.out (by decide)) (by decide))
  clear V0_1_6_7_8
  have LB0_1_6_7_8_9 := hide (loc_other (p := ⟨w.heap.size + 1, 2, none⟩) (v := .slice p0_1 a.args.length r0_1) LB0_1_6_7_8.out NE_0_1.out)
  have LB1_1_6_7_8_9 := hide (loc_set (i := 2) (v := .slice p0_1 a.args.length r0_1) LB1_1_6_7_8.out)
  clear LB0_1_6_7_8 LB1_1_6_7_8
  have BW9 := hide (below_set BW8.out G1.out 2 (.slice p0_1 a.args.length r0_1))
  clear BW8
  have HX0_0_1_6_7_8_9_10 := hide (Strs.keep HX0_0_1_6_7_8_9.out (Kp.setLoc (T := [9]) (i := 3) (v := .int .i64 a.value) LB1_1_6_7_8_9.out (by decide)) (by decide))
  clear HX0_0_1_6_7_8_9
  have V0_1_6_7_8_9_10 := hide (Strs.keep V0_1_6_7_8_9.out (Kp.setLoc (T := [9]) (i := 3) (v := .int .i64 a.value) LB1_1_6_7_8_9.out (by decide)) (by decide))
  clear V0_1_6_7_8_9
  have LB0_1_6_7_8_9_10 := hide (loc_other (p := ⟨w.heap.size + 1, 3, none⟩) (v := .int .i64 a.value) LB0_1_6_7_8_9.out NE_0_1.out)
  have LB1_1_6_7_8_9_10 := hide (loc_set (i := 3) (v := .int .i64 a.value) LB1_1_6_7_8_9.out)
  clear LB0_1_6_7_8_9 LB1_1_6_7_8_9
  have BW10 := hide (below_set BW9.out G1.out 3 (.int .i64 a.value))
  clear BW9
  exact ⟨⟨_, rfl, V0_1_6_7_8_9_10.out⟩, BW10.out⟩

set_option maxRecDepth 100000 in
set_option maxHeartbeats 3200000 in
theorem copy_LitText {Z : Nat → Prop} (a : LitM) (x0 : Value) (w : World) (hx0 : Strs Z w a.args x0) (hl : a.args.length ≤ 1000000000) :
    Calls Tryz.prog 109 #[.agg #[.bool a.neg, .string ⟨a.pred.toArray⟩, x0, .bool a.hasValue, .int .i64 a.value]] w fun e w' => ∃ v, e = .returned v ∧ vLit (New w) w' a v ∧ Below w.heap.size w w' := by
  obtain ⟨xa0, xc0, rfl⟩ := rows_form hx0
  have HX0 := hide hx0
  clear hx0
  go_enter Tryz.func109, Tryz.ntmps109
  have B0 : Below w.heap.size w ((w.alloc (.cells #[.bool a.neg, .string ⟨a.pred.toArray⟩, .slice xa0 a.args.length xc0, .bool a.hasValue, .int .i64 a.value] 98)).alloc (.cells #[.bool false, .string ⟨#[]⟩, .slice none 0 0, .bool false, .int .i64 0] 98)) := below_two w _ _
  have G0 : Hid (w.heap.size ≤ w.heap.size) := hide (Nat.le_refl _)
  have G1 : Hid (w.heap.size ≤ w.heap.size + 1) := hide (Nat.le_succ _)
  have NE_0_1 : Hid (w.heap.size ≠ w.heap.size + 1) := hide (by omega)
  have NE_1_0 : Hid (w.heap.size + 1 ≠ w.heap.size) := hide (by omega)
  have LB0 := hide (two_new w (.cells #[.bool a.neg, .string ⟨a.pred.toArray⟩, .slice xa0 a.args.length xc0, .bool a.hasValue, .int .i64 a.value] 98) (.cells #[.bool false, .string ⟨#[]⟩, .slice none 0 0, .bool false, .int .i64 0] 98)).1
  have LB1 := hide (two_new w (.cells #[.bool a.neg, .string ⟨a.pred.toArray⟩, .slice xa0 a.args.length xc0, .bool a.hasValue, .int .i64 a.value] 98) (.cells #[.bool false, .string ⟨#[]⟩, .slice none 0 0, .bool false, .int .i64 0] 98)).2
  have HX0_0 := hide (Strs.keep HX0.out (Kp.of_below (T := [9]) B0) (by decide))
  clear HX0
  have BW := hide B0
  clear B0
  have C11 := hide (copy_CopyStrings _ _ _ HX0_0.out hl)
  go_wp2_with fail
  refine C11.out.mono ?_
  rintro _ w11 ⟨v11, rfl, hv, hb⟩
  have LB0_11 := hide ((hb.block _ (loc_lt LB0.out)).trans LB0.out)
  clear LB0
  have LB1_11 := hide ((hb.block _ (loc_lt LB1.out)).trans LB1.out)
  clear LB1
  have HX0_0_11 := hide (Strs.keep HX0_0.out (Kp.of_below (T := [9]) hb) (by decide))
  clear HX0_0
  have hv0_11 := hv
  clear hv
  obtain ⟨p0_11, r0_11, rfl⟩ := rows_form hv0_11
  have V0_11 := hide (Strs.mono hv0_11 fun g hg => Nat.le_trans BW.out.size hg)
  clear hv0_11
  have BW11 := hide (BW.out.trans (hb.mono BW.out.size))
  clear hb C11 BW
  obtain ⟨z12_0, z12_1, z12_2, z12_3, z12_4, y12⟩ := row5 LB0_11.out
  obtain ⟨z13_0, z13_1, z13_2, z13_3, z13_4, y13⟩ := row5 LB1_11.out
  have x14 := NE_0_1.out
  have x15 := NE_1_0.out
  have HX0_0_11_16 := hide (Strs.keep HX0_0_11.out (Kp.setLoc (T := [9]) (i := 2) (v := .slice p0_11 a.args.length r0_11) LB0_11.out (by decide)) (by decide))
  clear HX0_0_11
  have V0_11_16 := hide (Strs.keep V0_11.out (Kp.setLoc (T := [9]) (i := 2) (v := .slice p0_11 a.args.length r0_11) LB0_11.out (by decide)) (by decide))
  clear V0_11
  have LB0_11_16 := hide (loc_set (i := 2) (v := .slice p0_11 a.args.length r0_11) LB0_11.out)
  have LB1_11_16 := hide (loc_other (p := ⟨w.heap.size, 2, none⟩) (v := .slice p0_11 a.args.length r0_11) LB1_11.out NE_1_0.out)
  clear LB0_11 LB1_11
  have BW16 := hide (below_set BW11.out G0.out 2 (.slice p0_11 a.args.length r0_11))
  clear BW11
  go_wp2_with fail
  have hz := (And.intro z12_0 (And.intro z12_1 (And.intro z12_2 (And.intro z12_3 (And.intro z12_4 (And.intro y12 (And.intro z13_0 (And.intro z13_1 (And.intro z13_2 (And.intro z13_3 (And.intro z13_4 (And.intro y13 (And.intro x14 x15)))))))))))))
  simp [bodyPost, results, Tryz.results109, go_sem, hz]
  have HX0_0_11_16_17 := hide (Strs.keep HX0_0_11_16.out (Kp.setLoc (T := [9]) (i := 0) (v := .bool a.neg) LB1_11_16.out (by decide)) (by decide))
  clear HX0_0_11_16
  have V0_11_16_17 := hide (Strs.keep V0_11_16.out (Kp.setLoc (T := [9]) (i := 0) (v := .bool a.neg) LB1_11_16.out (by decide)) (by decide))
  clear V0_11_16
  have LB0_11_16_17 := hide (loc_other (p := ⟨w.heap.size + 1, 0, none⟩) (v := .bool a.neg) LB0_11_16.out NE_0_1.out)
  have LB1_11_16_17 := hide (loc_set (i := 0) (v := .bool a.neg) LB1_11_16.out)
  clear LB0_11_16 LB1_11_16
  have BW17 := hide (below_set BW16.out G1.out 0 (.bool a.neg))
  clear BW16
  have HX0_0_11_16_17_18 := hide (Strs.keep HX0_0_11_16_17.out (Kp.setLoc (T := [9]) (i := 1) (v := .string ⟨a.pred.toArray⟩) LB1_11_16_17.out (by decide)) (by decide))
  clear HX0_0_11_16_17
  have V0_11_16_17_18 := hide (Strs.keep V0_11_16_17.out (Kp.setLoc (T := [9]) (i := 1) (v := .string ⟨a.pred.toArray⟩) LB1_11_16_17.out (by decide)) (by decide))
  clear V0_11_16_17
  have LB0_11_16_17_18 := hide (loc_other (p := ⟨w.heap.size + 1, 1, none⟩) (v := .string ⟨a.pred.toArray⟩) LB0_11_16_17.out NE_0_1.out)
  have LB1_11_16_17_18 := hide (loc_set (i := 1) (v := .string ⟨a.pred.toArray⟩) LB1_11_16_17.out)
  clear LB0_11_16_17 LB1_11_16_17
  have BW18 := hide (below_set BW17.out G1.out 1 (.string ⟨a.pred.toArray⟩))
  clear BW17
  have HX0_0_11_16_17_18_19 := hide (Strs.keep HX0_0_11_16_17_18.out (Kp.setLoc (T := [9]) (i := 2) (v := .slice p0_11 a.args.length r0_11) LB1_11_16_17_18.out (by decide)) (by decide))
  clear HX0_0_11_16_17_18
  have V0_11_16_17_18_19 := hide (Strs.keep V0_11_16_17_18.out (Kp.setLoc (T := [9]) (i := 2) (v := .slice p0_11 a.args.length r0_11) LB1_11_16_17_18.out (by decide)) (by decide))
  clear V0_11_16_17_18
  have LB0_11_16_17_18_19 := hide (loc_other (p := ⟨w.heap.size + 1, 2, none⟩) (v := .slice p0_11 a.args.length r0_11) LB0_11_16_17_18.out NE_0_1.out)
  have LB1_11_16_17_18_19 := hide (loc_set (i := 2) (v := .slice p0_11 a.args.length r0_11) LB1_11_16_17_18.out)
  clear LB0_11_16_17_18 LB1_11_16_17_18
  have BW19 := hide (below_set BW18.out G1.out 2 (.slice p0_11 a.args.length r0_11))
  clear BW18
  have HX0_0_11_16_17_18_19_20 := hide (Strs.keep HX0_0_11_16_17_18_19.out (Kp.setLoc (T := [9]) (i := 3) (v := .bool a.hasValue) LB1_11_16_17_18_19.out (by decide)) (by decide))
  clear HX0_0_11_16_17_18_19
  have V0_11_16_17_18_19_20 := hide (Strs.keep V0_11_16_17_18_19.out (Kp.setLoc (T := [9]) (i := 3) (v := .bool a.hasValue) LB1_11_16_17_18_19.out (by decide)) (by decide))
  clear V0_11_16_17_18_19
  have LB0_11_16_17_18_19_20 := hide (loc_other (p := ⟨w.heap.size + 1, 3, none⟩) (v := .bool a.hasValue) LB0_11_16_17_18_19.out NE_0_1.out)
  have LB1_11_16_17_18_19_20 := hide (loc_set (i := 3) (v := .bool a.hasValue) LB1_11_16_17_18_19.out)
  clear LB0_11_16_17_18_19 LB1_11_16_17_18_19
  have BW20 := hide (below_set BW19.out G1.out 3 (.bool a.hasValue))
  clear BW19
  have HX0_0_11_16_17_18_19_20_21 := hide (Strs.keep HX0_0_11_16_17_18_19_20.out (Kp.setLoc (T := [9]) (i := 4) (v := .int .i64 a.value) LB1_11_16_17_18_19_20.out (by decide)) (by decide))
  clear HX0_0_11_16_17_18_19_20
  have V0_11_16_17_18_19_20_21 := hide (Strs.keep V0_11_16_17_18_19_20.out (Kp.setLoc (T := [9]) (i := 4) (v := .int .i64 a.value) LB1_11_16_17_18_19_20.out (by decide)) (by decide))
  clear V0_11_16_17_18_19_20
  have LB0_11_16_17_18_19_20_21 := hide (loc_other (p := ⟨w.heap.size + 1, 4, none⟩) (v := .int .i64 a.value) LB0_11_16_17_18_19_20.out NE_0_1.out)
  have LB1_11_16_17_18_19_20_21 := hide (loc_set (i := 4) (v := .int .i64 a.value) LB1_11_16_17_18_19_20.out)
  clear LB0_11_16_17_18_19_20 LB1_11_16_17_18_19_20
  have BW21 := hide (below_set BW20.out G1.out 4 (.int .i64 a.value))
  clear BW20
  exact ⟨⟨_, rfl, V0_11_16_17_18_19_20_21.out⟩, BW21.out⟩

set_option maxRecDepth 100000 in
set_option maxHeartbeats 3200000 in
theorem copy_Pred {Z : Nat → Prop} (a : PredM) (x0 : Value) (x1 : Value) (w : World) (hx0 : Strs Z w a.kinds x0) (hx1 : Moneys Z w a.values x1) (hl : a.kinds.length ≤ 1000000000) (hm : a.values.length ≤ 1000000000) :
    Calls Tryz.prog 63 #[.agg #[.string ⟨a.name.toArray⟩, .int .i64 a.sort, x0, x1]] w fun e w' => ∃ v, e = .returned v ∧ vPred (New w) w' a v ∧ Below w.heap.size w w' := by
  obtain ⟨xa0, xc0, rfl⟩ := rows_form hx0
  have HX0 := hide hx0
  clear hx0
  obtain ⟨xa1, xc1, rfl⟩ := rows_form hx1
  have HX1 := hide hx1
  clear hx1
  go_enter Tryz.func63, Tryz.ntmps63
  have B0 : Below w.heap.size w ((w.alloc (.cells #[.string ⟨a.name.toArray⟩, .int .i64 a.sort, .slice xa0 a.kinds.length xc0, .slice xa1 a.values.length xc1] 92)).alloc (.cells #[.string ⟨#[]⟩, .int .i64 0, .slice none 0 0, .slice none 0 0] 92)) := below_two w _ _
  have G0 : Hid (w.heap.size ≤ w.heap.size) := hide (Nat.le_refl _)
  have G1 : Hid (w.heap.size ≤ w.heap.size + 1) := hide (Nat.le_succ _)
  have NE_0_1 : Hid (w.heap.size ≠ w.heap.size + 1) := hide (by omega)
  have NE_1_0 : Hid (w.heap.size + 1 ≠ w.heap.size) := hide (by omega)
  have LB0 := hide (two_new w (.cells #[.string ⟨a.name.toArray⟩, .int .i64 a.sort, .slice xa0 a.kinds.length xc0, .slice xa1 a.values.length xc1] 92) (.cells #[.string ⟨#[]⟩, .int .i64 0, .slice none 0 0, .slice none 0 0] 92)).1
  have LB1 := hide (two_new w (.cells #[.string ⟨a.name.toArray⟩, .int .i64 a.sort, .slice xa0 a.kinds.length xc0, .slice xa1 a.values.length xc1] 92) (.cells #[.string ⟨#[]⟩, .int .i64 0, .slice none 0 0, .slice none 0 0] 92)).2
  have HX0_0 := hide (Strs.keep HX0.out (Kp.of_below (T := [9]) B0) (by decide))
  clear HX0
  have HX1_0 := hide (Moneys.keep HX1.out (Kp.of_below (T := [93]) B0) (by decide))
  clear HX1
  have BW := hide B0
  clear B0
  have C22 := hide (copy_CopyStrings _ _ _ HX0_0.out hl)
  go_wp2_with fail
  refine C22.out.mono ?_
  rintro _ w22 ⟨v22, rfl, hv, hb⟩
  have LB0_22 := hide ((hb.block _ (loc_lt LB0.out)).trans LB0.out)
  clear LB0
  have LB1_22 := hide ((hb.block _ (loc_lt LB1.out)).trans LB1.out)
  clear LB1
  have HX0_0_22 := hide (Strs.keep HX0_0.out (Kp.of_below (T := [9]) hb) (by decide))
  clear HX0_0
  have HX1_0_22 := hide (Moneys.keep HX1_0.out (Kp.of_below (T := [93]) hb) (by decide))
  clear HX1_0
  have hv0_22 := hv
  clear hv
  obtain ⟨p0_22, r0_22, rfl⟩ := rows_form hv0_22
  have V0_22 := hide (Strs.mono hv0_22 fun g hg => Nat.le_trans BW.out.size hg)
  clear hv0_22
  have BW22 := hide (BW.out.trans (hb.mono BW.out.size))
  clear hb C22 BW
  obtain ⟨z23_0, z23_1, z23_2, z23_3, y23⟩ := row4 LB0_22.out
  obtain ⟨z24_0, z24_1, z24_2, z24_3, y24⟩ := row4 LB1_22.out
  have x25 := NE_0_1.out
  have x26 := NE_1_0.out
  have HX0_0_22_27 := hide (Strs.keep HX0_0_22.out (Kp.setLoc (T := [9]) (i := 2) (v := .slice p0_22 a.kinds.length r0_22) LB0_22.out (by decide)) (by decide))
  clear HX0_0_22
  have HX1_0_22_27 := hide (Moneys.keep HX1_0_22.out (Kp.setLoc (T := [93]) (i := 2) (v := .slice p0_22 a.kinds.length r0_22) LB0_22.out (by decide)) (by decide))
  clear HX1_0_22
  have V0_22_27 := hide (Strs.keep V0_22.out (Kp.setLoc (T := [9]) (i := 2) (v := .slice p0_22 a.kinds.length r0_22) LB0_22.out (by decide)) (by decide))
  clear V0_22
  have LB0_22_27 := hide (loc_set (i := 2) (v := .slice p0_22 a.kinds.length r0_22) LB0_22.out)
  have LB1_22_27 := hide (loc_other (p := ⟨w.heap.size, 2, none⟩) (v := .slice p0_22 a.kinds.length r0_22) LB1_22.out NE_1_0.out)
  clear LB0_22 LB1_22
  have BW27 := hide (below_set BW22.out G0.out 2 (.slice p0_22 a.kinds.length r0_22))
  clear BW22
  have C28 := hide (copy_CopyMoney _ _ _ HX1_0_22_27.out hm)
  go_wp2_with fail
  refine C28.out.mono ?_
  rintro _ w28 ⟨v28, rfl, hv, hb⟩
  clear z23_0 z23_1 z23_2 z23_3 y23 z24_0 z24_1 z24_2 z24_3 y24 x25 x26
  have LB0_22_27_28 := hide ((hb.block _ (loc_lt LB0_22_27.out)).trans LB0_22_27.out)
  clear LB0_22_27
  have LB1_22_27_28 := hide ((hb.block _ (loc_lt LB1_22_27.out)).trans LB1_22_27.out)
  clear LB1_22_27
  have HX0_0_22_27_28 := hide (Strs.keep HX0_0_22_27.out (Kp.of_below (T := [9]) hb) (by decide))
  clear HX0_0_22_27
  have HX1_0_22_27_28 := hide (Moneys.keep HX1_0_22_27.out (Kp.of_below (T := [93]) hb) (by decide))
  clear HX1_0_22_27
  have V0_22_27_28 := hide (Strs.keep V0_22_27.out (Kp.of_below (T := [9]) hb) (by decide))
  clear V0_22_27
  have hv0_28 := hv
  clear hv
  obtain ⟨p0_28, r0_28, rfl⟩ := rows_form hv0_28
  have V0_28 := hide (Moneys.mono hv0_28 fun g hg => Nat.le_trans BW27.out.size hg)
  clear hv0_28
  have BW28 := hide (BW27.out.trans (hb.mono BW27.out.size))
  clear hb C28 BW27
  obtain ⟨z29_0, z29_1, z29_2, z29_3, y29⟩ := row4 LB0_22_27_28.out
  obtain ⟨z30_0, z30_1, z30_2, z30_3, y30⟩ := row4 LB1_22_27_28.out
  have x31 := NE_0_1.out
  have x32 := NE_1_0.out
  have HX0_0_22_27_28_33 := hide (Strs.keep HX0_0_22_27_28.out (Kp.setLoc (T := [9]) (i := 3) (v := .slice p0_28 a.values.length r0_28) LB0_22_27_28.out (by decide)) (by decide))
  clear HX0_0_22_27_28
  have HX1_0_22_27_28_33 := hide (Moneys.keep HX1_0_22_27_28.out (Kp.setLoc (T := [93]) (i := 3) (v := .slice p0_28 a.values.length r0_28) LB0_22_27_28.out (by decide)) (by decide))
  clear HX1_0_22_27_28
  have V0_22_27_28_33 := hide (Strs.keep V0_22_27_28.out (Kp.setLoc (T := [9]) (i := 3) (v := .slice p0_28 a.values.length r0_28) LB0_22_27_28.out (by decide)) (by decide))
  clear V0_22_27_28
  have V0_28_33 := hide (Moneys.keep V0_28.out (Kp.setLoc (T := [93]) (i := 3) (v := .slice p0_28 a.values.length r0_28) LB0_22_27_28.out (by decide)) (by decide))
  clear V0_28
  have LB0_22_27_28_33 := hide (loc_set (i := 3) (v := .slice p0_28 a.values.length r0_28) LB0_22_27_28.out)
  have LB1_22_27_28_33 := hide (loc_other (p := ⟨w.heap.size, 3, none⟩) (v := .slice p0_28 a.values.length r0_28) LB1_22_27_28.out NE_1_0.out)
  clear LB0_22_27_28 LB1_22_27_28
  have BW33 := hide (below_set BW28.out G0.out 3 (.slice p0_28 a.values.length r0_28))
  clear BW28
  go_wp2_with fail
  have hz := (And.intro z29_0 (And.intro z29_1 (And.intro z29_2 (And.intro z29_3 (And.intro y29 (And.intro z30_0 (And.intro z30_1 (And.intro z30_2 (And.intro z30_3 (And.intro y30 (And.intro x31 x32)))))))))))
  simp [bodyPost, results, Tryz.results63, go_sem, hz]
  have HX0_0_22_27_28_33_34 := hide (Strs.keep HX0_0_22_27_28_33.out (Kp.setLoc (T := [9]) (i := 0) (v := .string ⟨a.name.toArray⟩) LB1_22_27_28_33.out (by decide)) (by decide))
  clear HX0_0_22_27_28_33
  have HX1_0_22_27_28_33_34 := hide (Moneys.keep HX1_0_22_27_28_33.out (Kp.setLoc (T := [93]) (i := 0) (v := .string ⟨a.name.toArray⟩) LB1_22_27_28_33.out (by decide)) (by decide))
  clear HX1_0_22_27_28_33
  have V0_22_27_28_33_34 := hide (Strs.keep V0_22_27_28_33.out (Kp.setLoc (T := [9]) (i := 0) (v := .string ⟨a.name.toArray⟩) LB1_22_27_28_33.out (by decide)) (by decide))
  clear V0_22_27_28_33
  have V0_28_33_34 := hide (Moneys.keep V0_28_33.out (Kp.setLoc (T := [93]) (i := 0) (v := .string ⟨a.name.toArray⟩) LB1_22_27_28_33.out (by decide)) (by decide))
  clear V0_28_33
  have LB0_22_27_28_33_34 := hide (loc_other (p := ⟨w.heap.size + 1, 0, none⟩) (v := .string ⟨a.name.toArray⟩) LB0_22_27_28_33.out NE_0_1.out)
  have LB1_22_27_28_33_34 := hide (loc_set (i := 0) (v := .string ⟨a.name.toArray⟩) LB1_22_27_28_33.out)
  clear LB0_22_27_28_33 LB1_22_27_28_33
  have BW34 := hide (below_set BW33.out G1.out 0 (.string ⟨a.name.toArray⟩))
  clear BW33
  have HX0_0_22_27_28_33_34_35 := hide (Strs.keep HX0_0_22_27_28_33_34.out (Kp.setLoc (T := [9]) (i := 1) (v := .int .i64 a.sort) LB1_22_27_28_33_34.out (by decide)) (by decide))
  clear HX0_0_22_27_28_33_34
  have HX1_0_22_27_28_33_34_35 := hide (Moneys.keep HX1_0_22_27_28_33_34.out (Kp.setLoc (T := [93]) (i := 1) (v := .int .i64 a.sort) LB1_22_27_28_33_34.out (by decide)) (by decide))
  clear HX1_0_22_27_28_33_34
  have V0_22_27_28_33_34_35 := hide (Strs.keep V0_22_27_28_33_34.out (Kp.setLoc (T := [9]) (i := 1) (v := .int .i64 a.sort) LB1_22_27_28_33_34.out (by decide)) (by decide))
  clear V0_22_27_28_33_34
  have V0_28_33_34_35 := hide (Moneys.keep V0_28_33_34.out (Kp.setLoc (T := [93]) (i := 1) (v := .int .i64 a.sort) LB1_22_27_28_33_34.out (by decide)) (by decide))
  clear V0_28_33_34
  have LB0_22_27_28_33_34_35 := hide (loc_other (p := ⟨w.heap.size + 1, 1, none⟩) (v := .int .i64 a.sort) LB0_22_27_28_33_34.out NE_0_1.out)
  have LB1_22_27_28_33_34_35 := hide (loc_set (i := 1) (v := .int .i64 a.sort) LB1_22_27_28_33_34.out)
  clear LB0_22_27_28_33_34 LB1_22_27_28_33_34
  have BW35 := hide (below_set BW34.out G1.out 1 (.int .i64 a.sort))
  clear BW34
  have HX0_0_22_27_28_33_34_35_36 := hide (Strs.keep HX0_0_22_27_28_33_34_35.out (Kp.setLoc (T := [9]) (i := 2) (v := .slice p0_22 a.kinds.length r0_22) LB1_22_27_28_33_34_35.out (by decide)) (by decide))
  clear HX0_0_22_27_28_33_34_35
  have HX1_0_22_27_28_33_34_35_36 := hide (Moneys.keep HX1_0_22_27_28_33_34_35.out (Kp.setLoc (T := [93]) (i := 2) (v := .slice p0_22 a.kinds.length r0_22) LB1_22_27_28_33_34_35.out (by decide)) (by decide))
  clear HX1_0_22_27_28_33_34_35
  have V0_22_27_28_33_34_35_36 := hide (Strs.keep V0_22_27_28_33_34_35.out (Kp.setLoc (T := [9]) (i := 2) (v := .slice p0_22 a.kinds.length r0_22) LB1_22_27_28_33_34_35.out (by decide)) (by decide))
  clear V0_22_27_28_33_34_35
  have V0_28_33_34_35_36 := hide (Moneys.keep V0_28_33_34_35.out (Kp.setLoc (T := [93]) (i := 2) (v := .slice p0_22 a.kinds.length r0_22) LB1_22_27_28_33_34_35.out (by decide)) (by decide))
  clear V0_28_33_34_35
  have LB0_22_27_28_33_34_35_36 := hide (loc_other (p := ⟨w.heap.size + 1, 2, none⟩) (v := .slice p0_22 a.kinds.length r0_22) LB0_22_27_28_33_34_35.out NE_0_1.out)
  have LB1_22_27_28_33_34_35_36 := hide (loc_set (i := 2) (v := .slice p0_22 a.kinds.length r0_22) LB1_22_27_28_33_34_35.out)
  clear LB0_22_27_28_33_34_35 LB1_22_27_28_33_34_35
  have BW36 := hide (below_set BW35.out G1.out 2 (.slice p0_22 a.kinds.length r0_22))
  clear BW35
  have HX0_0_22_27_28_33_34_35_36_37 := hide (Strs.keep HX0_0_22_27_28_33_34_35_36.out (Kp.setLoc (T := [9]) (i := 3) (v := .slice p0_28 a.values.length r0_28) LB1_22_27_28_33_34_35_36.out (by decide)) (by decide))
  clear HX0_0_22_27_28_33_34_35_36
  have HX1_0_22_27_28_33_34_35_36_37 := hide (Moneys.keep HX1_0_22_27_28_33_34_35_36.out (Kp.setLoc (T := [93]) (i := 3) (v := .slice p0_28 a.values.length r0_28) LB1_22_27_28_33_34_35_36.out (by decide)) (by decide))
  clear HX1_0_22_27_28_33_34_35_36
  have V0_22_27_28_33_34_35_36_37 := hide (Strs.keep V0_22_27_28_33_34_35_36.out (Kp.setLoc (T := [9]) (i := 3) (v := .slice p0_28 a.values.length r0_28) LB1_22_27_28_33_34_35_36.out (by decide)) (by decide))
  clear V0_22_27_28_33_34_35_36
  have V0_28_33_34_35_36_37 := hide (Moneys.keep V0_28_33_34_35_36.out (Kp.setLoc (T := [93]) (i := 3) (v := .slice p0_28 a.values.length r0_28) LB1_22_27_28_33_34_35_36.out (by decide)) (by decide))
  clear V0_28_33_34_35_36
  have LB0_22_27_28_33_34_35_36_37 := hide (loc_other (p := ⟨w.heap.size + 1, 3, none⟩) (v := .slice p0_28 a.values.length r0_28) LB0_22_27_28_33_34_35_36.out NE_0_1.out)
  have LB1_22_27_28_33_34_35_36_37 := hide (loc_set (i := 3) (v := .slice p0_28 a.values.length r0_28) LB1_22_27_28_33_34_35_36.out)
  clear LB0_22_27_28_33_34_35_36 LB1_22_27_28_33_34_35_36
  have BW37 := hide (below_set BW36.out G1.out 3 (.slice p0_28 a.values.length r0_28))
  clear BW36
  exact ⟨⟨_, _, rfl, V0_22_27_28_33_34_35_36_37.out, V0_28_33_34_35_36_37.out⟩, BW37.out⟩

set_option maxRecDepth 100000 in
set_option maxHeartbeats 3200000 in
theorem copy_Total {Z : Nat → Prop} (a : TotalM) (x0 : Value) (w : World) (hx0 : Strs Z w a.preds x0) (hl : a.preds.length ≤ 1000000000) :
    Calls Tryz.prog 65 #[.agg #[.string ⟨a.name.toArray⟩, .string ⟨a.kind.toArray⟩, x0, .bool a.hasCap, .int .i64 a.cap]] w fun e w' => ∃ v, e = .returned v ∧ vTotal (New w) w' a v ∧ Below w.heap.size w w' := by
  obtain ⟨xa0, xc0, rfl⟩ := rows_form hx0
  have HX0 := hide hx0
  clear hx0
  go_enter Tryz.func65, Tryz.ntmps65
  have B0 : Below w.heap.size w ((w.alloc (.cells #[.string ⟨a.name.toArray⟩, .string ⟨a.kind.toArray⟩, .slice xa0 a.preds.length xc0, .bool a.hasCap, .int .i64 a.cap] 111)).alloc (.cells #[.string ⟨#[]⟩, .string ⟨#[]⟩, .slice none 0 0, .bool false, .int .i64 0] 111)) := below_two w _ _
  have G0 : Hid (w.heap.size ≤ w.heap.size) := hide (Nat.le_refl _)
  have G1 : Hid (w.heap.size ≤ w.heap.size + 1) := hide (Nat.le_succ _)
  have NE_0_1 : Hid (w.heap.size ≠ w.heap.size + 1) := hide (by omega)
  have NE_1_0 : Hid (w.heap.size + 1 ≠ w.heap.size) := hide (by omega)
  have LB0 := hide (two_new w (.cells #[.string ⟨a.name.toArray⟩, .string ⟨a.kind.toArray⟩, .slice xa0 a.preds.length xc0, .bool a.hasCap, .int .i64 a.cap] 111) (.cells #[.string ⟨#[]⟩, .string ⟨#[]⟩, .slice none 0 0, .bool false, .int .i64 0] 111)).1
  have LB1 := hide (two_new w (.cells #[.string ⟨a.name.toArray⟩, .string ⟨a.kind.toArray⟩, .slice xa0 a.preds.length xc0, .bool a.hasCap, .int .i64 a.cap] 111) (.cells #[.string ⟨#[]⟩, .string ⟨#[]⟩, .slice none 0 0, .bool false, .int .i64 0] 111)).2
  have HX0_0 := hide (Strs.keep HX0.out (Kp.of_below (T := [9]) B0) (by decide))
  clear HX0
  have BW := hide B0
  clear B0
  have C38 := hide (copy_CopyStrings _ _ _ HX0_0.out hl)
  go_wp2_with fail
  refine C38.out.mono ?_
  rintro _ w38 ⟨v38, rfl, hv, hb⟩
  have LB0_38 := hide ((hb.block _ (loc_lt LB0.out)).trans LB0.out)
  clear LB0
  have LB1_38 := hide ((hb.block _ (loc_lt LB1.out)).trans LB1.out)
  clear LB1
  have HX0_0_38 := hide (Strs.keep HX0_0.out (Kp.of_below (T := [9]) hb) (by decide))
  clear HX0_0
  have hv0_38 := hv
  clear hv
  obtain ⟨p0_38, r0_38, rfl⟩ := rows_form hv0_38
  have V0_38 := hide (Strs.mono hv0_38 fun g hg => Nat.le_trans BW.out.size hg)
  clear hv0_38
  have BW38 := hide (BW.out.trans (hb.mono BW.out.size))
  clear hb C38 BW
  obtain ⟨z39_0, z39_1, z39_2, z39_3, z39_4, y39⟩ := row5 LB0_38.out
  obtain ⟨z40_0, z40_1, z40_2, z40_3, z40_4, y40⟩ := row5 LB1_38.out
  have x41 := NE_0_1.out
  have x42 := NE_1_0.out
  have HX0_0_38_43 := hide (Strs.keep HX0_0_38.out (Kp.setLoc (T := [9]) (i := 2) (v := .slice p0_38 a.preds.length r0_38) LB0_38.out (by decide)) (by decide))
  clear HX0_0_38
  have V0_38_43 := hide (Strs.keep V0_38.out (Kp.setLoc (T := [9]) (i := 2) (v := .slice p0_38 a.preds.length r0_38) LB0_38.out (by decide)) (by decide))
  clear V0_38
  have LB0_38_43 := hide (loc_set (i := 2) (v := .slice p0_38 a.preds.length r0_38) LB0_38.out)
  have LB1_38_43 := hide (loc_other (p := ⟨w.heap.size, 2, none⟩) (v := .slice p0_38 a.preds.length r0_38) LB1_38.out NE_1_0.out)
  clear LB0_38 LB1_38
  have BW43 := hide (below_set BW38.out G0.out 2 (.slice p0_38 a.preds.length r0_38))
  clear BW38
  go_wp2_with fail
  have hz := (And.intro z39_0 (And.intro z39_1 (And.intro z39_2 (And.intro z39_3 (And.intro z39_4 (And.intro y39 (And.intro z40_0 (And.intro z40_1 (And.intro z40_2 (And.intro z40_3 (And.intro z40_4 (And.intro y40 (And.intro x41 x42)))))))))))))
  simp [bodyPost, results, Tryz.results65, go_sem, hz]
  have HX0_0_38_43_44 := hide (Strs.keep HX0_0_38_43.out (Kp.setLoc (T := [9]) (i := 0) (v := .string ⟨a.name.toArray⟩) LB1_38_43.out (by decide)) (by decide))
  clear HX0_0_38_43
  have V0_38_43_44 := hide (Strs.keep V0_38_43.out (Kp.setLoc (T := [9]) (i := 0) (v := .string ⟨a.name.toArray⟩) LB1_38_43.out (by decide)) (by decide))
  clear V0_38_43
  have LB0_38_43_44 := hide (loc_other (p := ⟨w.heap.size + 1, 0, none⟩) (v := .string ⟨a.name.toArray⟩) LB0_38_43.out NE_0_1.out)
  have LB1_38_43_44 := hide (loc_set (i := 0) (v := .string ⟨a.name.toArray⟩) LB1_38_43.out)
  clear LB0_38_43 LB1_38_43
  have BW44 := hide (below_set BW43.out G1.out 0 (.string ⟨a.name.toArray⟩))
  clear BW43
  have HX0_0_38_43_44_45 := hide (Strs.keep HX0_0_38_43_44.out (Kp.setLoc (T := [9]) (i := 1) (v := .string ⟨a.kind.toArray⟩) LB1_38_43_44.out (by decide)) (by decide))
  clear HX0_0_38_43_44
  have V0_38_43_44_45 := hide (Strs.keep V0_38_43_44.out (Kp.setLoc (T := [9]) (i := 1) (v := .string ⟨a.kind.toArray⟩) LB1_38_43_44.out (by decide)) (by decide))
  clear V0_38_43_44
  have LB0_38_43_44_45 := hide (loc_other (p := ⟨w.heap.size + 1, 1, none⟩) (v := .string ⟨a.kind.toArray⟩) LB0_38_43_44.out NE_0_1.out)
  have LB1_38_43_44_45 := hide (loc_set (i := 1) (v := .string ⟨a.kind.toArray⟩) LB1_38_43_44.out)
  clear LB0_38_43_44 LB1_38_43_44
  have BW45 := hide (below_set BW44.out G1.out 1 (.string ⟨a.kind.toArray⟩))
  clear BW44
  have HX0_0_38_43_44_45_46 := hide (Strs.keep HX0_0_38_43_44_45.out (Kp.setLoc (T := [9]) (i := 2) (v := .slice p0_38 a.preds.length r0_38) LB1_38_43_44_45.out (by decide)) (by decide))
  clear HX0_0_38_43_44_45
  have V0_38_43_44_45_46 := hide (Strs.keep V0_38_43_44_45.out (Kp.setLoc (T := [9]) (i := 2) (v := .slice p0_38 a.preds.length r0_38) LB1_38_43_44_45.out (by decide)) (by decide))
  clear V0_38_43_44_45
  have LB0_38_43_44_45_46 := hide (loc_other (p := ⟨w.heap.size + 1, 2, none⟩) (v := .slice p0_38 a.preds.length r0_38) LB0_38_43_44_45.out NE_0_1.out)
  have LB1_38_43_44_45_46 := hide (loc_set (i := 2) (v := .slice p0_38 a.preds.length r0_38) LB1_38_43_44_45.out)
  clear LB0_38_43_44_45 LB1_38_43_44_45
  have BW46 := hide (below_set BW45.out G1.out 2 (.slice p0_38 a.preds.length r0_38))
  clear BW45
  have HX0_0_38_43_44_45_46_47 := hide (Strs.keep HX0_0_38_43_44_45_46.out (Kp.setLoc (T := [9]) (i := 3) (v := .bool a.hasCap) LB1_38_43_44_45_46.out (by decide)) (by decide))
  clear HX0_0_38_43_44_45_46
  have V0_38_43_44_45_46_47 := hide (Strs.keep V0_38_43_44_45_46.out (Kp.setLoc (T := [9]) (i := 3) (v := .bool a.hasCap) LB1_38_43_44_45_46.out (by decide)) (by decide))
  clear V0_38_43_44_45_46
  have LB0_38_43_44_45_46_47 := hide (loc_other (p := ⟨w.heap.size + 1, 3, none⟩) (v := .bool a.hasCap) LB0_38_43_44_45_46.out NE_0_1.out)
  have LB1_38_43_44_45_46_47 := hide (loc_set (i := 3) (v := .bool a.hasCap) LB1_38_43_44_45_46.out)
  clear LB0_38_43_44_45_46 LB1_38_43_44_45_46
  have BW47 := hide (below_set BW46.out G1.out 3 (.bool a.hasCap))
  clear BW46
  have HX0_0_38_43_44_45_46_47_48 := hide (Strs.keep HX0_0_38_43_44_45_46_47.out (Kp.setLoc (T := [9]) (i := 4) (v := .int .i64 a.cap) LB1_38_43_44_45_46_47.out (by decide)) (by decide))
  clear HX0_0_38_43_44_45_46_47
  have V0_38_43_44_45_46_47_48 := hide (Strs.keep V0_38_43_44_45_46_47.out (Kp.setLoc (T := [9]) (i := 4) (v := .int .i64 a.cap) LB1_38_43_44_45_46_47.out (by decide)) (by decide))
  clear V0_38_43_44_45_46_47
  have LB0_38_43_44_45_46_47_48 := hide (loc_other (p := ⟨w.heap.size + 1, 4, none⟩) (v := .int .i64 a.cap) LB0_38_43_44_45_46_47.out NE_0_1.out)
  have LB1_38_43_44_45_46_47_48 := hide (loc_set (i := 4) (v := .int .i64 a.cap) LB1_38_43_44_45_46_47.out)
  clear LB0_38_43_44_45_46_47 LB1_38_43_44_45_46_47
  have BW48 := hide (below_set BW47.out G1.out 4 (.int .i64 a.cap))
  clear BW47
  exact ⟨⟨_, rfl, V0_38_43_44_45_46_47_48.out⟩, BW48.out⟩

set_option maxRecDepth 100000 in
set_option maxHeartbeats 3200000 in
theorem copy_CopyTermTexts {Z : Nat → Prop} (l : List TermM) (va : Value) (w : World) (ha : Rows Z 109 4 (cTerm Z) w l va) (hl : l.length ≤ 1000000000) (hi : ∀ a, a ∈ l → a.args.length ≤ 1000000000) :
    Calls Tryz.prog 183 #[va] w fun e w' => ∃ v, e = .returned v ∧ Rows (New w) 109 4 (cTerm (New w)) w' l v ∧ Below w.heap.size w w' := by
  obtain ⟨iM, hiM, zM0, zM1, zM2⟩ := info_parts' info_term
  have HA := hide ha
  obtain ⟨aa, ca, rfl⟩ := rows_form ha
  clear ha
  go_enter Tryz.func183, Tryz.ntmps183
  go_wp2_with fail
  go_loopw [3, 4] (fun x z wr => ∃ k : Nat, k ≤ l.length ∧ z = .int .i64 k ∧ Hid (Rows (New w) 109 4 (cTerm (New w)) wr (l.take k) x) ∧ Hid (Below w.heap.size w wr)) (fun _ z _ => l.length - (intOf z).toNat)
  case atStart => exact ⟨0, by omega, rfl, hide (Rows.nil _ _ _ _ _), hide (Below.refl _ w)⟩
  case round =>
    obtain ⟨k, hk, rfl, HV, HW⟩ := hrel
    by_cases hlt : k < l.length
    · obtain ⟨t, ht⟩ : ∃ t, l[k]? = some t := ⟨l[k], by simp [hlt]⟩
      obtain ⟨ga, xa, ya, e1, _, ⟨av0, rfl, hs0⟩, h2⟩ := (HA.out.keep (T := [9, 109]) (Kp.of_below HW.out) (by decide) (fun _ _ h => h.keep (T := [9, 109]) (Kp.of_below HW.out) (by decide))).at ht
      simp only [Value.slice.injEq] at e1
      obtain ⟨rfl, _, rfl⟩ := e1
      have a0 : wr.cell? ⟨ga, k * 4, none⟩ = some (.int .i64 t.coef) := by have := h2 0 _ rfl; simpa using this
      have a1 : wr.cell? ⟨ga, k * 4 + 1, none⟩ = some (.string ⟨t.pred.toArray⟩) := by have := h2 1 _ rfl; simpa using this
      have a2 : wr.cell? ⟨ga, k * 4 + 2, none⟩ = some (av0) := by have := h2 2 _ rfl; simpa using this
      have a3 : wr.cell? ⟨ga, k * 4 + 3, none⟩ = some (.int .i64 t.value) := by have := h2 3 _ rfl; simpa using this
      have hit := hi t (List.mem_of_getElem? ht)
      have HS := hide (take_snoc ht)
      obtain ⟨xs, hrow, hold⟩ := HV.out
      have hln : (l.take k).length = k := by simp; omega
      obtain ⟨ta, tc, rfl⟩ := slice_form hrow.1
      rw [hln] at hrow
      have HROW := hide hrow
      have HOLD := hide hold
      have C := hide (copy_TermText t av0 wr hs0 hit)
      clear h2 ht hrow hold HV hit hs0
      rw [hln]
      go_wp2_with fail
      refine C.out.mono ?_
      rintro _ w2 ⟨v2, rfl, ⟨u0, rfl, hv0⟩, hb⟩
      obtain ⟨p0, r0, rfl⟩ := rows_form hv0
      have HV0 := hide (Strs.mono hv0 fun g hg => Nat.le_trans HW.out.size hg)
      have HROW2 := hide (HROW.out.keep (Kp.of_below (T := [109]) hb) (by decide))
      have HC : Hid (∀ w0 w' b ys, Kp [9] (New w) w0 w' → cTerm (New w) w0 b ys → cTerm (New w) w' b ys) := hide (fun _ _ _ _ hk h => h.keep hk (by decide))
      have HOLD2 : Hid (∀ i b, (l.take k)[i]? = some b → cTerm (New w) w2 b ((xs.drop (i * 4)).take 4)) := hide fun i b hi => HC.out _ _ _ _ (Kp.of_below hb) (HOLD.out i b hi)
      have HW2 := hide (HW.out.trans (hb.mono HW.out.size))
      have HZ : Hid (∀ g, w2.heap.size ≤ g → New w g) := hide fun g hg => Nat.le_trans HW2.out.size hg
      have HSZ := hide HW2.out.size
      clear hb hv0 HROW HOLD HW C
      go_wp2_with (at_builtin; go_must (refine wpList_append_two _ rfl _ _ 102 rfl 0 109 iM _ 4 56 Tryz.underlying102 hiM zM0 zM1 zM2 rfl (by decide) _ _ _ rfl (HROW2.out.1.alloc _) ⟨w2.heap.size, 0, none⟩ 1 [.int .i64 t.coef, .string ⟨t.pred.toArray⟩, .slice p0 t.args.length r0, .int .i64 t.value] rfl rfl (news_at rfl) (by simp [Value.oneCell']) (by unfold maxLen; omega) (by omega) (Nat.zero_le _) ?_))
      intro g cap w4 hown hg
      obtain ⟨p1, p2⟩ := put_more (T := [9]) (B := w.heap.size) (a := t) rfl (by rw [hln]; exact HROW2.out) HOLD2.out ⟨_, rfl, HV0.out⟩ rfl HZ.out HC.out (by decide) (fun g hg => hg) HSZ.out (by rw [hln]; exact hown) hg
      rw [HS.out, hln] at p1
      have P1 := hide p1
      have P2 := hide (HW2.out.trans p2)
      clear p1 p2 hown hg HROW2 HOLD2 HW2 HZ HSZ HC
      go_wp2_with fail
      go_roundw
      case rel => exact ⟨k + 1, by omega, by go_num, P1, P2⟩
      case measure => simp [intOf]; omega
    · have ek : k = l.length := by omega
      subst ek
      rw [List.take_length] at HV
      go_wp2_with fail
      go_ret
      exact ⟨_, rfl, HV.out, HW.out⟩

set_option maxRecDepth 100000 in
set_option maxHeartbeats 3200000 in
theorem copy_CopyPreds {Z : Nat → Prop} (l : List PredM) (va : Value) (w : World) (ha : Rows Z 92 4 (cPred Z) w l va) (hl : l.length ≤ 1000000000) (hi : ∀ a, a ∈ l → a.kinds.length ≤ 1000000000 ∧ a.values.length ≤ 1000000000) :
    Calls Tryz.prog 39 #[va] w fun e w' => ∃ v, e = .returned v ∧ Rows (New w) 92 4 (cPred (New w)) w' l v ∧ Below w.heap.size w w' := by
  obtain ⟨iM, hiM, zM0, zM1, zM2⟩ := info_parts' info_pred
  have HA := hide ha
  obtain ⟨aa, ca, rfl⟩ := rows_form ha
  clear ha
  go_enter Tryz.func39, Tryz.ntmps39
  go_wp2_with fail
  go_loopw [3, 4] (fun x z wr => ∃ k : Nat, k ≤ l.length ∧ z = .int .i64 k ∧ Hid (Rows (New w) 92 4 (cPred (New w)) wr (l.take k) x) ∧ Hid (Below w.heap.size w wr)) (fun _ z _ => l.length - (intOf z).toNat)
  case atStart => exact ⟨0, by omega, rfl, hide (Rows.nil _ _ _ _ _), hide (Below.refl _ w)⟩
  case round =>
    obtain ⟨k, hk, rfl, HV, HW⟩ := hrel
    by_cases hlt : k < l.length
    · obtain ⟨t, ht⟩ : ∃ t, l[k]? = some t := ⟨l[k], by simp [hlt]⟩
      obtain ⟨ga, xa, ya, e1, _, ⟨av0, av1, rfl, hs0, hs1⟩, h2⟩ := (HA.out.keep (T := [92]) (Kp.of_below HW.out) (by decide) (fun _ _ h => h.keep (Kp.of_below HW.out))).at ht
      simp only [Value.slice.injEq] at e1
      obtain ⟨rfl, _, rfl⟩ := e1
      have a0 : wr.cell? ⟨ga, k * 4, none⟩ = some (.string ⟨t.name.toArray⟩) := by have := h2 0 _ rfl; simpa using this
      have a1 : wr.cell? ⟨ga, k * 4 + 1, none⟩ = some (.int .i64 t.sort) := by have := h2 1 _ rfl; simpa using this
      have a2 : wr.cell? ⟨ga, k * 4 + 2, none⟩ = some (av0) := by have := h2 2 _ rfl; simpa using this
      have a3 : wr.cell? ⟨ga, k * 4 + 3, none⟩ = some (av1) := by have := h2 3 _ rfl; simpa using this
      have hit := hi t (List.mem_of_getElem? ht)
      have HS := hide (take_snoc ht)
      obtain ⟨xs, hrow, hold⟩ := HV.out
      have hln : (l.take k).length = k := by simp; omega
      obtain ⟨ta, tc, rfl⟩ := slice_form hrow.1
      rw [hln] at hrow
      have HROW := hide hrow
      have HOLD := hide hold
      have C := hide (copy_Pred t av0 av1 wr hs0 hs1 hit.1 hit.2)
      clear h2 ht hrow hold HV hit hs0 hs1
      rw [hln]
      go_wp2_with fail
      refine C.out.mono ?_
      rintro _ w2 ⟨v2, rfl, ⟨u0, u1, rfl, hv0, hv1⟩, hb⟩
      obtain ⟨p0, r0, rfl⟩ := rows_form hv0
      have HV0 := hide (Strs.mono hv0 fun g hg => Nat.le_trans HW.out.size hg)
      obtain ⟨p1, r1, rfl⟩ := rows_form hv1
      have HV1 := hide (Moneys.mono hv1 fun g hg => Nat.le_trans HW.out.size hg)
      have HROW2 := hide (HROW.out.keep (Kp.of_below (T := [92]) hb) (by decide))
      have HC : Hid (∀ w0 w' b ys, Kp inner (New w) w0 w' → cPred (New w) w0 b ys → cPred (New w) w' b ys) := hide (fun _ _ _ _ hk h => h.keep hk)
      have HOLD2 : Hid (∀ i b, (l.take k)[i]? = some b → cPred (New w) w2 b ((xs.drop (i * 4)).take 4)) := hide fun i b hi => HC.out _ _ _ _ (Kp.of_below hb) (HOLD.out i b hi)
      have HW2 := hide (HW.out.trans (hb.mono HW.out.size))
      have HZ : Hid (∀ g, w2.heap.size ≤ g → New w g) := hide fun g hg => Nat.le_trans HW2.out.size hg
      have HSZ := hide HW2.out.size
      clear hb hv0 hv1 HROW HOLD HW C
      go_wp2_with (at_builtin; go_must (refine wpList_append_two _ rfl _ _ 24 rfl 0 92 iM _ 4 72 Tryz.underlying24 hiM zM0 zM1 zM2 rfl (by decide) _ _ _ rfl (HROW2.out.1.alloc _) ⟨w2.heap.size, 0, none⟩ 1 [.string ⟨t.name.toArray⟩, .int .i64 t.sort, .slice p0 t.kinds.length r0, .slice p1 t.values.length r1] rfl rfl (news_at rfl) (by simp [Value.oneCell']) (by unfold maxLen; omega) (by omega) (Nat.zero_le _) ?_))
      intro g cap w4 hown hg
      obtain ⟨p1, p2⟩ := put_more (T := inner) (B := w.heap.size) (a := t) rfl (by rw [hln]; exact HROW2.out) HOLD2.out ⟨_, _, rfl, HV0.out, HV1.out⟩ rfl HZ.out HC.out (by decide) (fun g hg => hg) HSZ.out (by rw [hln]; exact hown) hg
      rw [HS.out, hln] at p1
      have P1 := hide p1
      have P2 := hide (HW2.out.trans p2)
      clear p1 p2 hown hg HROW2 HOLD2 HW2 HZ HSZ HC
      go_wp2_with fail
      go_roundw
      case rel => exact ⟨k + 1, by omega, by go_num, P1, P2⟩
      case measure => simp [intOf]; omega
    · have ek : k = l.length := by omega
      subst ek
      rw [List.take_length] at HV
      go_wp2_with fail
      go_ret
      exact ⟨_, rfl, HV.out, HW.out⟩

set_option maxRecDepth 100000 in
set_option maxHeartbeats 3200000 in
theorem copy_CopyTotals {Z : Nat → Prop} (l : List TotalM) (va : Value) (w : World) (ha : Rows Z 111 5 (cTotal Z) w l va) (hl : l.length ≤ 1000000000) (hi : ∀ a, a ∈ l → a.preds.length ≤ 1000000000) :
    Calls Tryz.prog 44 #[va] w fun e w' => ∃ v, e = .returned v ∧ Rows (New w) 111 5 (cTotal (New w)) w' l v ∧ Below w.heap.size w w' := by
  obtain ⟨iM, hiM, zM0, zM1, zM2⟩ := info_parts' info_total
  have HA := hide ha
  obtain ⟨aa, ca, rfl⟩ := rows_form ha
  clear ha
  go_enter Tryz.func44, Tryz.ntmps44
  go_wp2_with fail
  go_loopw [3, 4] (fun x z wr => ∃ k : Nat, k ≤ l.length ∧ z = .int .i64 k ∧ Hid (Rows (New w) 111 5 (cTotal (New w)) wr (l.take k) x) ∧ Hid (Below w.heap.size w wr)) (fun _ z _ => l.length - (intOf z).toNat)
  case atStart => exact ⟨0, by omega, rfl, hide (Rows.nil _ _ _ _ _), hide (Below.refl _ w)⟩
  case round =>
    obtain ⟨k, hk, rfl, HV, HW⟩ := hrel
    by_cases hlt : k < l.length
    · obtain ⟨t, ht⟩ : ∃ t, l[k]? = some t := ⟨l[k], by simp [hlt]⟩
      obtain ⟨ga, xa, ya, e1, _, ⟨av0, rfl, hs0⟩, h2⟩ := (HA.out.keep (T := [111]) (Kp.of_below HW.out) (by decide) (fun _ _ h => h.keep (Kp.of_below HW.out))).at ht
      simp only [Value.slice.injEq] at e1
      obtain ⟨rfl, _, rfl⟩ := e1
      have a0 : wr.cell? ⟨ga, k * 5, none⟩ = some (.string ⟨t.name.toArray⟩) := by have := h2 0 _ rfl; simpa using this
      have a1 : wr.cell? ⟨ga, k * 5 + 1, none⟩ = some (.string ⟨t.kind.toArray⟩) := by have := h2 1 _ rfl; simpa using this
      have a2 : wr.cell? ⟨ga, k * 5 + 2, none⟩ = some (av0) := by have := h2 2 _ rfl; simpa using this
      have a3 : wr.cell? ⟨ga, k * 5 + 3, none⟩ = some (.bool t.hasCap) := by have := h2 3 _ rfl; simpa using this
      have a4 : wr.cell? ⟨ga, k * 5 + 4, none⟩ = some (.int .i64 t.cap) := by have := h2 4 _ rfl; simpa using this
      have hit := hi t (List.mem_of_getElem? ht)
      have HS := hide (take_snoc ht)
      obtain ⟨xs, hrow, hold⟩ := HV.out
      have hln : (l.take k).length = k := by simp; omega
      obtain ⟨ta, tc, rfl⟩ := slice_form hrow.1
      rw [hln] at hrow
      have HROW := hide hrow
      have HOLD := hide hold
      have C := hide (copy_Total t av0 wr hs0 hit)
      clear h2 ht hrow hold HV hit hs0
      rw [hln]
      go_wp2_with fail
      refine C.out.mono ?_
      rintro _ w2 ⟨v2, rfl, ⟨u0, rfl, hv0⟩, hb⟩
      obtain ⟨p0, r0, rfl⟩ := rows_form hv0
      have HV0 := hide (Strs.mono hv0 fun g hg => Nat.le_trans HW.out.size hg)
      have HROW2 := hide (HROW.out.keep (Kp.of_below (T := [111]) hb) (by decide))
      have HC : Hid (∀ w0 w' b ys, Kp inner (New w) w0 w' → cTotal (New w) w0 b ys → cTotal (New w) w' b ys) := hide (fun _ _ _ _ hk h => h.keep hk)
      have HOLD2 : Hid (∀ i b, (l.take k)[i]? = some b → cTotal (New w) w2 b ((xs.drop (i * 5)).take 5)) := hide fun i b hi => HC.out _ _ _ _ (Kp.of_below hb) (HOLD.out i b hi)
      have HW2 := hide (HW.out.trans (hb.mono HW.out.size))
      have HZ : Hid (∀ g, w2.heap.size ≤ g → New w g) := hide fun g hg => Nat.le_trans HW2.out.size hg
      have HSZ := hide HW2.out.size
      clear hb hv0 HROW HOLD HW C
      go_wp2_with (at_builtin; go_must (refine wpList_append_two _ rfl _ _ 29 rfl 0 111 iM _ 5 72 Tryz.underlying29 hiM zM0 zM1 zM2 rfl (by decide) _ _ _ rfl (HROW2.out.1.alloc _) ⟨w2.heap.size, 0, none⟩ 1 [.string ⟨t.name.toArray⟩, .string ⟨t.kind.toArray⟩, .slice p0 t.preds.length r0, .bool t.hasCap, .int .i64 t.cap] rfl rfl (news_at rfl) (by simp [Value.oneCell']) (by unfold maxLen; omega) (by omega) (Nat.zero_le _) ?_))
      intro g cap w4 hown hg
      obtain ⟨p1, p2⟩ := put_more (T := inner) (B := w.heap.size) (a := t) rfl (by rw [hln]; exact HROW2.out) HOLD2.out ⟨_, rfl, HV0.out⟩ rfl HZ.out HC.out (by decide) (fun g hg => hg) HSZ.out (by rw [hln]; exact hown) hg
      rw [HS.out, hln] at p1
      have P1 := hide p1
      have P2 := hide (HW2.out.trans p2)
      clear p1 p2 hown hg HROW2 HOLD2 HW2 HZ HSZ HC
      go_wp2_with fail
      go_roundw
      case rel => exact ⟨k + 1, by omega, by go_num, P1, P2⟩
      case measure => simp [intOf]; omega
    · have ek : k = l.length := by omega
      subst ek
      rw [List.take_length] at HV
      go_wp2_with fail
      go_ret
      exact ⟨_, rfl, HV.out, HW.out⟩

set_option maxRecDepth 100000 in
set_option maxHeartbeats 3200000 in
theorem copy_CopyStringLists {Z : Nat → Prop} (l : List (List Bytes)) (va : Value) (w : World) (ha : Rows Z 22 1 (cClass Z) w l va) (hl : l.length ≤ 1000000000) (hi : ∀ a, a ∈ l → a.length ≤ 1000000000) :
    Calls Tryz.prog 40 #[va] w fun e w' => ∃ v, e = .returned v ∧ Rows (New w) 22 1 (cClass (New w)) w' l v ∧ Below w.heap.size w w' := by
  obtain ⟨iM, hiM, zM0, zM1, zM2⟩ := info_parts' info_class
  have HA := hide ha
  obtain ⟨aa, ca, rfl⟩ := rows_form ha
  clear ha
  go_enter Tryz.func40, Tryz.ntmps40
  go_wp2_with fail
  go_loopw [3, 4] (fun x z wr => ∃ k : Nat, k ≤ l.length ∧ z = .int .i64 k ∧ Hid (Rows (New w) 22 1 (cClass (New w)) wr (l.take k) x) ∧ Hid (Below w.heap.size w wr)) (fun _ z _ => l.length - (intOf z).toNat)
  case atStart => exact ⟨0, by omega, rfl, hide (Rows.nil _ _ _ _ _), hide (Below.refl _ w)⟩
  case round =>
    obtain ⟨k, hk, rfl, HV, HW⟩ := hrel
    by_cases hlt : k < l.length
    · obtain ⟨t, ht⟩ : ∃ t, l[k]? = some t := ⟨l[k], by simp [hlt]⟩
      obtain ⟨ga, xa, ya, e1, _, ⟨av0, rfl, hs0⟩, h2⟩ := (HA.out.keep (T := [22]) (Kp.of_below HW.out) (by decide) (fun _ _ h => h.keep (Kp.of_below HW.out))).at ht
      simp only [Value.slice.injEq] at e1
      obtain ⟨rfl, _, rfl⟩ := e1
      have a0 : wr.cell? ⟨ga, k, none⟩ = some (av0) := by have := h2 0 _ rfl; simpa using this
      have hit := hi t (List.mem_of_getElem? ht)
      have HS := hide (take_snoc ht)
      obtain ⟨xs, hrow, hold⟩ := HV.out
      have hln : (l.take k).length = k := by simp; omega
      obtain ⟨ta, tc, rfl⟩ := slice_form hrow.1
      rw [hln] at hrow
      have HROW := hide hrow
      have HOLD := hide hold
      have C := hide (copy_CopyStrings t av0 wr hs0 hit)
      clear h2 ht hrow hold HV hit hs0
      rw [hln]
      go_wp2_with fail
      refine C.out.mono ?_
      rintro _ w2 ⟨u0, rfl, hv0, hb⟩
      obtain ⟨p0, r0, rfl⟩ := rows_form hv0
      have HV0 := hide (Strs.mono hv0 fun g hg => Nat.le_trans HW.out.size hg)
      have HROW2 := hide (HROW.out.keep (Kp.of_below (T := [22]) hb) (by decide))
      have HC : Hid (∀ w0 w' b ys, Kp inner (New w) w0 w' → cClass (New w) w0 b ys → cClass (New w) w' b ys) := hide (fun _ _ _ _ hk h => h.keep hk)
      have HOLD2 : Hid (∀ i b, (l.take k)[i]? = some b → cClass (New w) w2 b ((xs.drop (i * 1)).take 1)) := hide fun i b hi => HC.out _ _ _ _ (Kp.of_below hb) (HOLD.out i b hi)
      have HW2 := hide (HW.out.trans (hb.mono HW.out.size))
      have HZ : Hid (∀ g, w2.heap.size ≤ g → New w g) := hide fun g hg => Nat.le_trans HW2.out.size hg
      have HSZ := hide HW2.out.size
      clear hb hv0 HROW HOLD HW C
      go_wp2_with (at_builtin; go_must (refine wpList_append_two _ rfl _ _ 25 rfl 0 22 iM _ 1 24 Tryz.underlying25 hiM zM0 zM1 zM2 rfl (by decide) _ _ _ rfl (HROW2.out.1.alloc _) ⟨w2.heap.size, 0, none⟩ 1 [.slice p0 t.length r0] rfl rfl (news_at rfl) (by simp [Value.oneCell']) (by unfold maxLen; omega) (by omega) (Nat.zero_le _) ?_))
      intro g cap w4 hown hg
      obtain ⟨p1, p2⟩ := put_more (T := inner) (B := w.heap.size) (a := t) rfl (by rw [hln]; exact HROW2.out) HOLD2.out ⟨_, rfl, HV0.out⟩ rfl HZ.out HC.out (by decide) (fun g hg => hg) HSZ.out (by rw [hln]; exact hown) hg
      rw [HS.out, hln] at p1
      have P1 := hide p1
      have P2 := hide (HW2.out.trans p2)
      clear p1 p2 hown hg HROW2 HOLD2 HW2 HZ HSZ HC
      go_wp2_with fail
      go_roundw
      case rel => exact ⟨k + 1, by omega, by go_num, P1, P2⟩
      case measure => simp [intOf]; omega
    · have ek : k = l.length := by omega
      subst ek
      rw [List.take_length] at HV
      go_wp2_with fail
      go_ret
      exact ⟨_, rfl, HV.out, HW.out⟩

end Go.Proofs.YthnjmfkiohgkkaaGreatDoor.Sy
