/- Copies of guards, premises, rules. By program (tools/gen5/c19.py). -/
import Derived.Test.YthnjmfkiohgkkaaGreatDoorCopy6
namespace Go.Proofs.YthnjmfkiohgkkaaGreatDoor.Sy
open Go.RowKit

set_option maxRecDepth 100000 in
set_option maxHeartbeats 3200000 in
theorem copy_GuardText {Z : Nat → Prop} (a : GuardM) (x0 : Value) (x1 : Value) (w : World) (hx0 : Terms Z w a.left x0) (hx1 : Terms Z w a.right x1) (hl : a.left.length ≤ 1000000000 ∧ (∀ b, b ∈ a.left → b.args.length ≤ 1000000000) ∧ a.right.length ≤ 1000000000 ∧ ∀ b, b ∈ a.right → b.args.length ≤ 1000000000) :
    Calls Tryz.prog 165 #[.agg #[x0, .int .i64 a.op, x1]] w fun e w' => ∃ v, e = .returned v ∧ vGuard (New w) w' a v ∧ Below w.heap.size w w' := by
  obtain ⟨xa0, xc0, rfl⟩ := rows_form hx0
  have HX0 := hide hx0
  clear hx0
  obtain ⟨xa1, xc1, rfl⟩ := rows_form hx1
  have HX1 := hide hx1
  clear hx1
  go_enter Tryz.func165, Tryz.ntmps165
  have B0 : Below w.heap.size w ((w.alloc (.cells #[.slice xa0 a.left.length xc0, .int .i64 a.op, .slice xa1 a.right.length xc1] 105)).alloc (.cells #[.slice none 0 0, .int .i64 0, .slice none 0 0] 105)) := below_two w _ _
  have G0 : Hid (w.heap.size ≤ w.heap.size) := hide (Nat.le_refl _)
  have G1 : Hid (w.heap.size ≤ w.heap.size + 1) := hide (Nat.le_succ _)
  have NE_0_1 : Hid (w.heap.size ≠ w.heap.size + 1) := hide (by omega)
  have NE_1_0 : Hid (w.heap.size + 1 ≠ w.heap.size) := hide (by omega)
  have LB0 := hide (two_new w (.cells #[.slice xa0 a.left.length xc0, .int .i64 a.op, .slice xa1 a.right.length xc1] 105) (.cells #[.slice none 0 0, .int .i64 0, .slice none 0 0] 105)).1
  have LB1 := hide (two_new w (.cells #[.slice xa0 a.left.length xc0, .int .i64 a.op, .slice xa1 a.right.length xc1] 105) (.cells #[.slice none 0 0, .int .i64 0, .slice none 0 0] 105)).2
  have HX0_0 := hide (Terms.keep HX0.out (Kp.of_below (T := [9, 109]) B0) (by decide) (by decide))
  clear HX0
  have HX1_0 := hide (Terms.keep HX1.out (Kp.of_below (T := [9, 109]) B0) (by decide) (by decide))
  clear HX1
  have BW := hide B0
  clear B0
  have C49 := hide (copy_CopyTermTexts _ _ _ HX0_0.out hl.1 hl.2.1)
  go_wp2_with fail
  refine C49.out.mono ?_
  rintro _ w49 ⟨v49, rfl, hv, hb⟩
  have LB0_49 := hide ((hb.block _ (loc_lt LB0.out)).trans LB0.out)
  clear LB0
  have LB1_49 := hide ((hb.block _ (loc_lt LB1.out)).trans LB1.out)
  clear LB1
  have HX0_0_49 := hide (Terms.keep HX0_0.out (Kp.of_below (T := [9, 109]) hb) (by decide) (by decide))
  clear HX0_0
  have HX1_0_49 := hide (Terms.keep HX1_0.out (Kp.of_below (T := [9, 109]) hb) (by decide) (by decide))
  clear HX1_0
  have hv0_49 := hv
  clear hv
  obtain ⟨p0_49, r0_49, rfl⟩ := rows_form hv0_49
  have V0_49 := hide (Terms.mono hv0_49 fun g hg => Nat.le_trans BW.out.size hg)
  clear hv0_49
  have BW49 := hide (BW.out.trans (hb.mono BW.out.size))
  clear hb C49 BW
  obtain ⟨z50_0, z50_1, z50_2, y50⟩ := row3 LB0_49.out
  obtain ⟨z51_0, z51_1, z51_2, y51⟩ := row3 LB1_49.out
  have x52 := NE_0_1.out
  have x53 := NE_1_0.out
  have HX0_0_49_54 := hide (Terms.keep HX0_0_49.out (Kp.setLoc (T := [9, 109]) (i := 0) (v := .slice p0_49 a.left.length r0_49) LB0_49.out (by decide)) (by decide) (by decide))
  clear HX0_0_49
  have HX1_0_49_54 := hide (Terms.keep HX1_0_49.out (Kp.setLoc (T := [9, 109]) (i := 0) (v := .slice p0_49 a.left.length r0_49) LB0_49.out (by decide)) (by decide) (by decide))
  clear HX1_0_49
  have V0_49_54 := hide (Terms.keep V0_49.out (Kp.setLoc (T := [9, 109]) (i := 0) (v := .slice p0_49 a.left.length r0_49) LB0_49.out (by decide)) (by decide) (by decide))
  clear V0_49
  have LB0_49_54 := hide (loc_set (i := 0) (v := .slice p0_49 a.left.length r0_49) LB0_49.out)
  have LB1_49_54 := hide (loc_other (p := ⟨w.heap.size, 0, none⟩) (v := .slice p0_49 a.left.length r0_49) LB1_49.out NE_1_0.out)
  clear LB0_49 LB1_49
  have BW54 := hide (below_set BW49.out G0.out 0 (.slice p0_49 a.left.length r0_49))
  clear BW49
  have C55 := hide (copy_CopyTermTexts _ _ _ HX1_0_49_54.out hl.2.2.1 hl.2.2.2)
  go_wp2_with fail
  refine C55.out.mono ?_
  rintro _ w55 ⟨v55, rfl, hv, hb⟩
  clear z50_0 z50_1 z50_2 y50 z51_0 z51_1 z51_2 y51 x52 x53
  have LB0_49_54_55 := hide ((hb.block _ (loc_lt LB0_49_54.out)).trans LB0_49_54.out)
  clear LB0_49_54
  have LB1_49_54_55 := hide ((hb.block _ (loc_lt LB1_49_54.out)).trans LB1_49_54.out)
  clear LB1_49_54
  have HX0_0_49_54_55 := hide (Terms.keep HX0_0_49_54.out (Kp.of_below (T := [9, 109]) hb) (by decide) (by decide))
  clear HX0_0_49_54
  have HX1_0_49_54_55 := hide (Terms.keep HX1_0_49_54.out (Kp.of_below (T := [9, 109]) hb) (by decide) (by decide))
  clear HX1_0_49_54
  have V0_49_54_55 := hide (Terms.keep V0_49_54.out (Kp.of_below (T := [9, 109]) hb) (by decide) (by decide))
  clear V0_49_54
  have hv0_55 := hv
  clear hv
  obtain ⟨p0_55, r0_55, rfl⟩ := rows_form hv0_55
  have V0_55 := hide (Terms.mono hv0_55 fun g hg => Nat.le_trans BW54.out.size hg)
  clear hv0_55
  have BW55 := hide (BW54.out.trans (hb.mono BW54.out.size))
  clear hb C55 BW54
  obtain ⟨z56_0, z56_1, z56_2, y56⟩ := row3 LB0_49_54_55.out
  obtain ⟨z57_0, z57_1, z57_2, y57⟩ := row3 LB1_49_54_55.out
  have x58 := NE_0_1.out
  have x59 := NE_1_0.out
  have HX0_0_49_54_55_60 := hide (Terms.keep HX0_0_49_54_55.out (Kp.setLoc (T := [9, 109]) (i := 2) (v := .slice p0_55 a.right.length r0_55) LB0_49_54_55.out (by decide)) (by decide) (by decide))
  clear HX0_0_49_54_55
  have HX1_0_49_54_55_60 := hide (Terms.keep HX1_0_49_54_55.out (Kp.setLoc (T := [9, 109]) (i := 2) (v := .slice p0_55 a.right.length r0_55) LB0_49_54_55.out (by decide)) (by decide) (by decide))
  clear HX1_0_49_54_55
  have V0_49_54_55_60 := hide (Terms.keep V0_49_54_55.out (Kp.setLoc (T := [9, 109]) (i := 2) (v := .slice p0_55 a.right.length r0_55) LB0_49_54_55.out (by decide)) (by decide) (by decide))
  clear V0_49_54_55
  have V0_55_60 := hide (Terms.keep V0_55.out (Kp.setLoc (T := [9, 109]) (i := 2) (v := .slice p0_55 a.right.length r0_55) LB0_49_54_55.out (by decide)) (by decide) (by decide))
  clear V0_55
  have LB0_49_54_55_60 := hide (loc_set (i := 2) (v := .slice p0_55 a.right.length r0_55) LB0_49_54_55.out)
  have LB1_49_54_55_60 := hide (loc_other (p := ⟨w.heap.size, 2, none⟩) (v := .slice p0_55 a.right.length r0_55) LB1_49_54_55.out NE_1_0.out)
  clear LB0_49_54_55 LB1_49_54_55
  have BW60 := hide (below_set BW55.out G0.out 2 (.slice p0_55 a.right.length r0_55))
  clear BW55
  go_wp2_with fail
  have hz := (And.intro z56_0 (And.intro z56_1 (And.intro z56_2 (And.intro y56 (And.intro z57_0 (And.intro z57_1 (And.intro z57_2 (And.intro y57 (And.intro x58 x59)))))))))
  simp [bodyPost, results, Tryz.results165, go_sem, hz]
  have HX0_0_49_54_55_60_61 := hide (Terms.keep HX0_0_49_54_55_60.out (Kp.setLoc (T := [9, 109]) (i := 0) (v := .slice p0_49 a.left.length r0_49) LB1_49_54_55_60.out (by decide)) (by decide) (by decide))
  clear HX0_0_49_54_55_60
  have HX1_0_49_54_55_60_61 := hide (Terms.keep HX1_0_49_54_55_60.out (Kp.setLoc (T := [9, 109]) (i := 0) (v := .slice p0_49 a.left.length r0_49) LB1_49_54_55_60.out (by decide)) (by decide) (by decide))
  clear HX1_0_49_54_55_60
  have V0_49_54_55_60_61 := hide (Terms.keep V0_49_54_55_60.out (Kp.setLoc (T := [9, 109]) (i := 0) (v := .slice p0_49 a.left.length r0_49) LB1_49_54_55_60.out (by decide)) (by decide) (by decide))
  clear V0_49_54_55_60
  have V0_55_60_61 := hide (Terms.keep V0_55_60.out (Kp.setLoc (T := [9, 109]) (i := 0) (v := .slice p0_49 a.left.length r0_49) LB1_49_54_55_60.out (by decide)) (by decide) (by decide))
  clear V0_55_60
  have LB0_49_54_55_60_61 := hide (loc_other (p := ⟨w.heap.size + 1, 0, none⟩) (v := .slice p0_49 a.left.length r0_49) LB0_49_54_55_60.out NE_0_1.out)
  have LB1_49_54_55_60_61 := hide (loc_set (i := 0) (v := .slice p0_49 a.left.length r0_49) LB1_49_54_55_60.out)
  clear LB0_49_54_55_60 LB1_49_54_55_60
  have BW61 := hide (below_set BW60.out G1.out 0 (.slice p0_49 a.left.length r0_49))
  clear BW60
  have HX0_0_49_54_55_60_61_62 := hide (Terms.keep HX0_0_49_54_55_60_61.out (Kp.setLoc (T := [9, 109]) (i := 1) (v := .int .i64 a.op) LB1_49_54_55_60_61.out (by decide)) (by decide) (by decide))
  clear HX0_0_49_54_55_60_61
  have HX1_0_49_54_55_60_61_62 := hide (Terms.keep HX1_0_49_54_55_60_61.out (Kp.setLoc (T := [9, 109]) (i := 1) (v := .int .i64 a.op) LB1_49_54_55_60_61.out (by decide)) (by decide) (by decide))
  clear HX1_0_49_54_55_60_61
  have V0_49_54_55_60_61_62 := hide (Terms.keep V0_49_54_55_60_61.out (Kp.setLoc (T := [9, 109]) (i := 1) (v := .int .i64 a.op) LB1_49_54_55_60_61.out (by decide)) (by decide) (by decide))
  clear V0_49_54_55_60_61
  have V0_55_60_61_62 := hide (Terms.keep V0_55_60_61.out (Kp.setLoc (T := [9, 109]) (i := 1) (v := .int .i64 a.op) LB1_49_54_55_60_61.out (by decide)) (by decide) (by decide))
  clear V0_55_60_61
  have LB0_49_54_55_60_61_62 := hide (loc_other (p := ⟨w.heap.size + 1, 1, none⟩) (v := .int .i64 a.op) LB0_49_54_55_60_61.out NE_0_1.out)
  have LB1_49_54_55_60_61_62 := hide (loc_set (i := 1) (v := .int .i64 a.op) LB1_49_54_55_60_61.out)
  clear LB0_49_54_55_60_61 LB1_49_54_55_60_61
  have BW62 := hide (below_set BW61.out G1.out 1 (.int .i64 a.op))
  clear BW61
  have HX0_0_49_54_55_60_61_62_63 := hide (Terms.keep HX0_0_49_54_55_60_61_62.out (Kp.setLoc (T := [9, 109]) (i := 2) (v := .slice p0_55 a.right.length r0_55) LB1_49_54_55_60_61_62.out (by decide)) (by decide) (by decide))
  clear HX0_0_49_54_55_60_61_62
  have HX1_0_49_54_55_60_61_62_63 := hide (Terms.keep HX1_0_49_54_55_60_61_62.out (Kp.setLoc (T := [9, 109]) (i := 2) (v := .slice p0_55 a.right.length r0_55) LB1_49_54_55_60_61_62.out (by decide)) (by decide) (by decide))
  clear HX1_0_49_54_55_60_61_62
  have V0_49_54_55_60_61_62_63 := hide (Terms.keep V0_49_54_55_60_61_62.out (Kp.setLoc (T := [9, 109]) (i := 2) (v := .slice p0_55 a.right.length r0_55) LB1_49_54_55_60_61_62.out (by decide)) (by decide) (by decide))
  clear V0_49_54_55_60_61_62
  have V0_55_60_61_62_63 := hide (Terms.keep V0_55_60_61_62.out (Kp.setLoc (T := [9, 109]) (i := 2) (v := .slice p0_55 a.right.length r0_55) LB1_49_54_55_60_61_62.out (by decide)) (by decide) (by decide))
  clear V0_55_60_61_62
  have LB0_49_54_55_60_61_62_63 := hide (loc_other (p := ⟨w.heap.size + 1, 2, none⟩) (v := .slice p0_55 a.right.length r0_55) LB0_49_54_55_60_61_62.out NE_0_1.out)
  have LB1_49_54_55_60_61_62_63 := hide (loc_set (i := 2) (v := .slice p0_55 a.right.length r0_55) LB1_49_54_55_60_61_62.out)
  clear LB0_49_54_55_60_61_62 LB1_49_54_55_60_61_62
  have BW63 := hide (below_set BW62.out G1.out 2 (.slice p0_55 a.right.length r0_55))
  clear BW62
  exact ⟨⟨_, _, rfl, V0_49_54_55_60_61_62_63.out, V0_55_60_61_62_63.out⟩, BW63.out⟩

set_option maxRecDepth 100000 in
set_option maxHeartbeats 3200000 in
theorem copy_Premise {Z : Nat → Prop} (a : PremM) (x0 : Value) (x1 : Value) (x2 : Value) (w : World) (hx0 : Strs Z w a.lit.args x0) (hx1 : Terms Z w a.guard.left x1) (hx2 : Terms Z w a.guard.right x2) (hl : SmallPrem a) :
    Calls Tryz.prog 144 #[.agg #[.int .i64 a.kind, .bool a.lit.neg, .string ⟨a.lit.pred.toArray⟩, x0, .bool a.lit.hasValue, .int .i64 a.lit.value, x1, .int .i64 a.guard.op, x2, .string ⟨a.a.toArray⟩, .string ⟨a.b.toArray⟩]] w fun e w' => ∃ v, e = .returned v ∧ vPrem (New w) w' a v ∧ Below w.heap.size w w' := by
  obtain ⟨xa0, xc0, rfl⟩ := rows_form hx0
  have HX0 := hide hx0
  clear hx0
  obtain ⟨xa1, xc1, rfl⟩ := rows_form hx1
  have HX1 := hide hx1
  clear hx1
  obtain ⟨xa2, xc2, rfl⟩ := rows_form hx2
  have HX2 := hide hx2
  clear hx2
  go_enter Tryz.func144, Tryz.ntmps144
  have B0 : Below w.heap.size w ((w.alloc (.cells #[.int .i64 a.kind, .bool a.lit.neg, .string ⟨a.lit.pred.toArray⟩, .slice xa0 a.lit.args.length xc0, .bool a.lit.hasValue, .int .i64 a.lit.value, .slice xa1 a.guard.left.length xc1, .int .i64 a.guard.op, .slice xa2 a.guard.right.length xc2, .string ⟨a.a.toArray⟩, .string ⟨a.b.toArray⟩] 107)).alloc (.cells #[.int .i64 0, .bool false, .string ⟨#[]⟩, .slice none 0 0, .bool false, .int .i64 0, .slice none 0 0, .int .i64 0, .slice none 0 0, .string ⟨#[]⟩, .string ⟨#[]⟩] 107)) := below_two w _ _
  have G0 : Hid (w.heap.size ≤ w.heap.size) := hide (Nat.le_refl _)
  have G1 : Hid (w.heap.size ≤ w.heap.size + 1) := hide (Nat.le_succ _)
  have NE_0_1 : Hid (w.heap.size ≠ w.heap.size + 1) := hide (by omega)
  have NE_1_0 : Hid (w.heap.size + 1 ≠ w.heap.size) := hide (by omega)
  have LB0 := hide (two_new w (.cells #[.int .i64 a.kind, .bool a.lit.neg, .string ⟨a.lit.pred.toArray⟩, .slice xa0 a.lit.args.length xc0, .bool a.lit.hasValue, .int .i64 a.lit.value, .slice xa1 a.guard.left.length xc1, .int .i64 a.guard.op, .slice xa2 a.guard.right.length xc2, .string ⟨a.a.toArray⟩, .string ⟨a.b.toArray⟩] 107) (.cells #[.int .i64 0, .bool false, .string ⟨#[]⟩, .slice none 0 0, .bool false, .int .i64 0, .slice none 0 0, .int .i64 0, .slice none 0 0, .string ⟨#[]⟩, .string ⟨#[]⟩] 107)).1
  have LB1 := hide (two_new w (.cells #[.int .i64 a.kind, .bool a.lit.neg, .string ⟨a.lit.pred.toArray⟩, .slice xa0 a.lit.args.length xc0, .bool a.lit.hasValue, .int .i64 a.lit.value, .slice xa1 a.guard.left.length xc1, .int .i64 a.guard.op, .slice xa2 a.guard.right.length xc2, .string ⟨a.a.toArray⟩, .string ⟨a.b.toArray⟩] 107) (.cells #[.int .i64 0, .bool false, .string ⟨#[]⟩, .slice none 0 0, .bool false, .int .i64 0, .slice none 0 0, .int .i64 0, .slice none 0 0, .string ⟨#[]⟩, .string ⟨#[]⟩] 107)).2
  have HX0_0 := hide (Strs.keep HX0.out (Kp.of_below (T := [9]) B0) (by decide))
  clear HX0
  have HX1_0 := hide (Terms.keep HX1.out (Kp.of_below (T := [9, 109]) B0) (by decide) (by decide))
  clear HX1
  have HX2_0 := hide (Terms.keep HX2.out (Kp.of_below (T := [9, 109]) B0) (by decide) (by decide))
  clear HX2
  have BW := hide B0
  clear B0
  have C64 := hide (copy_LitText _ _ _ HX0_0.out hl.1)
  go_wp2_with fail
  refine C64.out.mono ?_
  rintro _ w64 ⟨v64, rfl, hv, hb⟩
  have LB0_64 := hide ((hb.block _ (loc_lt LB0.out)).trans LB0.out)
  clear LB0
  have LB1_64 := hide ((hb.block _ (loc_lt LB1.out)).trans LB1.out)
  clear LB1
  have HX0_0_64 := hide (Strs.keep HX0_0.out (Kp.of_below (T := [9]) hb) (by decide))
  clear HX0_0
  have HX1_0_64 := hide (Terms.keep HX1_0.out (Kp.of_below (T := [9, 109]) hb) (by decide) (by decide))
  clear HX1_0
  have HX2_0_64 := hide (Terms.keep HX2_0.out (Kp.of_below (T := [9, 109]) hb) (by decide) (by decide))
  clear HX2_0
  obtain ⟨u0_64, rfl, hv0_64⟩ := hv
  obtain ⟨p0_64, r0_64, rfl⟩ := rows_form hv0_64
  have V0_64 := hide (Strs.mono hv0_64 fun g hg => Nat.le_trans BW.out.size hg)
  clear hv0_64
  have BW64 := hide (BW.out.trans (hb.mono BW.out.size))
  clear hb C64 BW
  obtain ⟨z65_0, z65_1, z65_2, z65_3, z65_4, z65_5, z65_6, z65_7, z65_8, z65_9, z65_10, y65⟩ := row11 LB0_64.out
  obtain ⟨z66_0, z66_1, z66_2, z66_3, z66_4, z66_5, z66_6, z66_7, z66_8, z66_9, z66_10, y66⟩ := row11 LB1_64.out
  have x67 := NE_0_1.out
  have x68 := NE_1_0.out
  have HX0_0_64_69 := hide (Strs.keep HX0_0_64.out (Kp.setLoc (T := [9]) (i := 1) (v := .bool a.lit.neg) LB0_64.out (by decide)) (by decide))
  clear HX0_0_64
  have HX1_0_64_69 := hide (Terms.keep HX1_0_64.out (Kp.setLoc (T := [9, 109]) (i := 1) (v := .bool a.lit.neg) LB0_64.out (by decide)) (by decide) (by decide))
  clear HX1_0_64
  have HX2_0_64_69 := hide (Terms.keep HX2_0_64.out (Kp.setLoc (T := [9, 109]) (i := 1) (v := .bool a.lit.neg) LB0_64.out (by decide)) (by decide) (by decide))
  clear HX2_0_64
  have V0_64_69 := hide (Strs.keep V0_64.out (Kp.setLoc (T := [9]) (i := 1) (v := .bool a.lit.neg) LB0_64.out (by decide)) (by decide))
  clear V0_64
  have LB0_64_69 := hide (loc_set (i := 1) (v := .bool a.lit.neg) LB0_64.out)
  have LB1_64_69 := hide (loc_other (p := ⟨w.heap.size, 1, none⟩) (v := .bool a.lit.neg) LB1_64.out NE_1_0.out)
  clear LB0_64 LB1_64
  have BW69 := hide (below_set BW64.out G0.out 1 (.bool a.lit.neg))
  clear BW64
  have HX0_0_64_69_70 := hide (Strs.keep HX0_0_64_69.out (Kp.setLoc (T := [9]) (i := 2) (v := .string ⟨a.lit.pred.toArray⟩) LB0_64_69.out (by decide)) (by decide))
  clear HX0_0_64_69
  have HX1_0_64_69_70 := hide (Terms.keep HX1_0_64_69.out (Kp.setLoc (T := [9, 109]) (i := 2) (v := .string ⟨a.lit.pred.toArray⟩) LB0_64_69.out (by decide)) (by decide) (by decide))
  clear HX1_0_64_69
  have HX2_0_64_69_70 := hide (Terms.keep HX2_0_64_69.out (Kp.setLoc (T := [9, 109]) (i := 2) (v := .string ⟨a.lit.pred.toArray⟩) LB0_64_69.out (by decide)) (by decide) (by decide))
  clear HX2_0_64_69
  have V0_64_69_70 := hide (Strs.keep V0_64_69.out (Kp.setLoc (T := [9]) (i := 2) (v := .string ⟨a.lit.pred.toArray⟩) LB0_64_69.out (by decide)) (by decide))
  clear V0_64_69
  have LB0_64_69_70 := hide (loc_set (i := 2) (v := .string ⟨a.lit.pred.toArray⟩) LB0_64_69.out)
  have LB1_64_69_70 := hide (loc_other (p := ⟨w.heap.size, 2, none⟩) (v := .string ⟨a.lit.pred.toArray⟩) LB1_64_69.out NE_1_0.out)
  clear LB0_64_69 LB1_64_69
  have BW70 := hide (below_set BW69.out G0.out 2 (.string ⟨a.lit.pred.toArray⟩))
  clear BW69
  have HX0_0_64_69_70_71 := hide (Strs.keep HX0_0_64_69_70.out (Kp.setLoc (T := [9]) (i := 3) (v := .slice p0_64 a.lit.args.length r0_64) LB0_64_69_70.out (by decide)) (by decide))
  clear HX0_0_64_69_70
  have HX1_0_64_69_70_71 := hide (Terms.keep HX1_0_64_69_70.out (Kp.setLoc (T := [9, 109]) (i := 3) (v := .slice p0_64 a.lit.args.length r0_64) LB0_64_69_70.out (by decide)) (by decide) (by decide))
  clear HX1_0_64_69_70
  have HX2_0_64_69_70_71 := hide (Terms.keep HX2_0_64_69_70.out (Kp.setLoc (T := [9, 109]) (i := 3) (v := .slice p0_64 a.lit.args.length r0_64) LB0_64_69_70.out (by decide)) (by decide) (by decide))
  clear HX2_0_64_69_70
  have V0_64_69_70_71 := hide (Strs.keep V0_64_69_70.out (Kp.setLoc (T := [9]) (i := 3) (v := .slice p0_64 a.lit.args.length r0_64) LB0_64_69_70.out (by decide)) (by decide))
  clear V0_64_69_70
  have LB0_64_69_70_71 := hide (loc_set (i := 3) (v := .slice p0_64 a.lit.args.length r0_64) LB0_64_69_70.out)
  have LB1_64_69_70_71 := hide (loc_other (p := ⟨w.heap.size, 3, none⟩) (v := .slice p0_64 a.lit.args.length r0_64) LB1_64_69_70.out NE_1_0.out)
  clear LB0_64_69_70 LB1_64_69_70
  have BW71 := hide (below_set BW70.out G0.out 3 (.slice p0_64 a.lit.args.length r0_64))
  clear BW70
  have HX0_0_64_69_70_71_72 := hide (Strs.keep HX0_0_64_69_70_71.out (Kp.setLoc (T := [9]) (i := 4) (v := .bool a.lit.hasValue) LB0_64_69_70_71.out (by decide)) (by decide))
  clear HX0_0_64_69_70_71
  have HX1_0_64_69_70_71_72 := hide (Terms.keep HX1_0_64_69_70_71.out (Kp.setLoc (T := [9, 109]) (i := 4) (v := .bool a.lit.hasValue) LB0_64_69_70_71.out (by decide)) (by decide) (by decide))
  clear HX1_0_64_69_70_71
  have HX2_0_64_69_70_71_72 := hide (Terms.keep HX2_0_64_69_70_71.out (Kp.setLoc (T := [9, 109]) (i := 4) (v := .bool a.lit.hasValue) LB0_64_69_70_71.out (by decide)) (by decide) (by decide))
  clear HX2_0_64_69_70_71
  have V0_64_69_70_71_72 := hide (Strs.keep V0_64_69_70_71.out (Kp.setLoc (T := [9]) (i := 4) (v := .bool a.lit.hasValue) LB0_64_69_70_71.out (by decide)) (by decide))
  clear V0_64_69_70_71
  have LB0_64_69_70_71_72 := hide (loc_set (i := 4) (v := .bool a.lit.hasValue) LB0_64_69_70_71.out)
  have LB1_64_69_70_71_72 := hide (loc_other (p := ⟨w.heap.size, 4, none⟩) (v := .bool a.lit.hasValue) LB1_64_69_70_71.out NE_1_0.out)
  clear LB0_64_69_70_71 LB1_64_69_70_71
  have BW72 := hide (below_set BW71.out G0.out 4 (.bool a.lit.hasValue))
  clear BW71
  have HX0_0_64_69_70_71_72_73 := hide (Strs.keep HX0_0_64_69_70_71_72.out (Kp.setLoc (T := [9]) (i := 5) (v := .int .i64 a.lit.value) LB0_64_69_70_71_72.out (by decide)) (by decide))
  clear HX0_0_64_69_70_71_72
  have HX1_0_64_69_70_71_72_73 := hide (Terms.keep HX1_0_64_69_70_71_72.out (Kp.setLoc (T := [9, 109]) (i := 5) (v := .int .i64 a.lit.value) LB0_64_69_70_71_72.out (by decide)) (by decide) (by decide))
  clear HX1_0_64_69_70_71_72
  have HX2_0_64_69_70_71_72_73 := hide (Terms.keep HX2_0_64_69_70_71_72.out (Kp.setLoc (T := [9, 109]) (i := 5) (v := .int .i64 a.lit.value) LB0_64_69_70_71_72.out (by decide)) (by decide) (by decide))
  clear HX2_0_64_69_70_71_72
  have V0_64_69_70_71_72_73 := hide (Strs.keep V0_64_69_70_71_72.out (Kp.setLoc (T := [9]) (i := 5) (v := .int .i64 a.lit.value) LB0_64_69_70_71_72.out (by decide)) (by decide))
  clear V0_64_69_70_71_72
  have LB0_64_69_70_71_72_73 := hide (loc_set (i := 5) (v := .int .i64 a.lit.value) LB0_64_69_70_71_72.out)
  have LB1_64_69_70_71_72_73 := hide (loc_other (p := ⟨w.heap.size, 5, none⟩) (v := .int .i64 a.lit.value) LB1_64_69_70_71_72.out NE_1_0.out)
  clear LB0_64_69_70_71_72 LB1_64_69_70_71_72
  have BW73 := hide (below_set BW72.out G0.out 5 (.int .i64 a.lit.value))
  clear BW72
  have C74 := hide (copy_GuardText _ _ _ _ HX1_0_64_69_70_71_72_73.out HX2_0_64_69_70_71_72_73.out hl.2)
  go_wp2_with fail
  refine C74.out.mono ?_
  rintro _ w74 ⟨v74, rfl, hv, hb⟩
  clear z65_0 z65_1 z65_2 z65_3 z65_4 z65_5 z65_6 z65_7 z65_8 z65_9 z65_10 y65 z66_0 z66_1 z66_2 z66_3 z66_4 z66_5 z66_6 z66_7 z66_8 z66_9 z66_10 y66 x67 x68
  have LB0_64_69_70_71_72_73_74 := hide ((hb.block _ (loc_lt LB0_64_69_70_71_72_73.out)).trans LB0_64_69_70_71_72_73.out)
  clear LB0_64_69_70_71_72_73
  have LB1_64_69_70_71_72_73_74 := hide ((hb.block _ (loc_lt LB1_64_69_70_71_72_73.out)).trans LB1_64_69_70_71_72_73.out)
  clear LB1_64_69_70_71_72_73
  have HX0_0_64_69_70_71_72_73_74 := hide (Strs.keep HX0_0_64_69_70_71_72_73.out (Kp.of_below (T := [9]) hb) (by decide))
  clear HX0_0_64_69_70_71_72_73
  have HX1_0_64_69_70_71_72_73_74 := hide (Terms.keep HX1_0_64_69_70_71_72_73.out (Kp.of_below (T := [9, 109]) hb) (by decide) (by decide))
  clear HX1_0_64_69_70_71_72_73
  have HX2_0_64_69_70_71_72_73_74 := hide (Terms.keep HX2_0_64_69_70_71_72_73.out (Kp.of_below (T := [9, 109]) hb) (by decide) (by decide))
  clear HX2_0_64_69_70_71_72_73
  have V0_64_69_70_71_72_73_74 := hide (Strs.keep V0_64_69_70_71_72_73.out (Kp.of_below (T := [9]) hb) (by decide))
  clear V0_64_69_70_71_72_73
  obtain ⟨u0_74, u1_74, rfl, hv0_74, hv1_74⟩ := hv
  obtain ⟨p0_74, r0_74, rfl⟩ := rows_form hv0_74
  have V0_74 := hide (Terms.mono hv0_74 fun g hg => Nat.le_trans BW73.out.size hg)
  clear hv0_74
  obtain ⟨p1_74, r1_74, rfl⟩ := rows_form hv1_74
  have V1_74 := hide (Terms.mono hv1_74 fun g hg => Nat.le_trans BW73.out.size hg)
  clear hv1_74
  have BW74 := hide (BW73.out.trans (hb.mono BW73.out.size))
  clear hb C74 BW73
  obtain ⟨z75_0, z75_1, z75_2, z75_3, z75_4, z75_5, z75_6, z75_7, z75_8, z75_9, z75_10, y75⟩ := row11 LB0_64_69_70_71_72_73_74.out
  obtain ⟨z76_0, z76_1, z76_2, z76_3, z76_4, z76_5, z76_6, z76_7, z76_8, z76_9, z76_10, y76⟩ := row11 LB1_64_69_70_71_72_73_74.out
  have x77 := NE_0_1.out
  have x78 := NE_1_0.out
  have HX0_0_64_69_70_71_72_73_74_79 := hide (Strs.keep HX0_0_64_69_70_71_72_73_74.out (Kp.setLoc (T := [9]) (i := 6) (v := .slice p0_74 a.guard.left.length r0_74) LB0_64_69_70_71_72_73_74.out (by decide)) (by decide))
  clear HX0_0_64_69_70_71_72_73_74
  have HX1_0_64_69_70_71_72_73_74_79 := hide (Terms.keep HX1_0_64_69_70_71_72_73_74.out (Kp.setLoc (T := [9, 109]) (i := 6) (v := .slice p0_74 a.guard.left.length r0_74) LB0_64_69_70_71_72_73_74.out (by decide)) (by decide) (by decide))
  clear HX1_0_64_69_70_71_72_73_74
  have HX2_0_64_69_70_71_72_73_74_79 := hide (Terms.keep HX2_0_64_69_70_71_72_73_74.out (Kp.setLoc (T := [9, 109]) (i := 6) (v := .slice p0_74 a.guard.left.length r0_74) LB0_64_69_70_71_72_73_74.out (by decide)) (by decide) (by decide))
  clear HX2_0_64_69_70_71_72_73_74
  have V0_64_69_70_71_72_73_74_79 := hide (Strs.keep V0_64_69_70_71_72_73_74.out (Kp.setLoc (T := [9]) (i := 6) (v := .slice p0_74 a.guard.left.length r0_74) LB0_64_69_70_71_72_73_74.out (by decide)) (by decide))
  clear V0_64_69_70_71_72_73_74
  have V0_74_79 := hide (Terms.keep V0_74.out (Kp.setLoc (T := [9, 109]) (i := 6) (v := .slice p0_74 a.guard.left.length r0_74) LB0_64_69_70_71_72_73_74.out (by decide)) (by decide) (by decide))
  clear V0_74
  have V1_74_79 := hide (Terms.keep V1_74.out (Kp.setLoc (T := [9, 109]) (i := 6) (v := .slice p0_74 a.guard.left.length r0_74) LB0_64_69_70_71_72_73_74.out (by decide)) (by decide) (by decide))
  clear V1_74
  have LB0_64_69_70_71_72_73_74_79 := hide (loc_set (i := 6) (v := .slice p0_74 a.guard.left.length r0_74) LB0_64_69_70_71_72_73_74.out)
  have LB1_64_69_70_71_72_73_74_79 := hide (loc_other (p := ⟨w.heap.size, 6, none⟩) (v := .slice p0_74 a.guard.left.length r0_74) LB1_64_69_70_71_72_73_74.out NE_1_0.out)
  clear LB0_64_69_70_71_72_73_74 LB1_64_69_70_71_72_73_74
  have BW79 := hide (below_set BW74.out G0.out 6 (.slice p0_74 a.guard.left.length r0_74))
  clear BW74
  have HX0_0_64_69_70_71_72_73_74_79_80 := hide (Strs.keep HX0_0_64_69_70_71_72_73_74_79.out (Kp.setLoc (T := [9]) (i := 7) (v := .int .i64 a.guard.op) LB0_64_69_70_71_72_73_74_79.out (by decide)) (by decide))
  clear HX0_0_64_69_70_71_72_73_74_79
  have HX1_0_64_69_70_71_72_73_74_79_80 := hide (Terms.keep HX1_0_64_69_70_71_72_73_74_79.out (Kp.setLoc (T := [9, 109]) (i := 7) (v := .int .i64 a.guard.op) LB0_64_69_70_71_72_73_74_79.out (by decide)) (by decide) (by decide))
  clear HX1_0_64_69_70_71_72_73_74_79
  have HX2_0_64_69_70_71_72_73_74_79_80 := hide (Terms.keep HX2_0_64_69_70_71_72_73_74_79.out (Kp.setLoc (T := [9, 109]) (i := 7) (v := .int .i64 a.guard.op) LB0_64_69_70_71_72_73_74_79.out (by decide)) (by decide) (by decide))
  clear HX2_0_64_69_70_71_72_73_74_79
  have V0_64_69_70_71_72_73_74_79_80 := hide (Strs.keep V0_64_69_70_71_72_73_74_79.out (Kp.setLoc (T := [9]) (i := 7) (v := .int .i64 a.guard.op) LB0_64_69_70_71_72_73_74_79.out (by decide)) (by decide))
  clear V0_64_69_70_71_72_73_74_79
  have V0_74_79_80 := hide (Terms.keep V0_74_79.out (Kp.setLoc (T := [9, 109]) (i := 7) (v := .int .i64 a.guard.op) LB0_64_69_70_71_72_73_74_79.out (by decide)) (by decide) (by decide))
  clear V0_74_79
  have V1_74_79_80 := hide (Terms.keep V1_74_79.out (Kp.setLoc (T := [9, 109]) (i := 7) (v := .int .i64 a.guard.op) LB0_64_69_70_71_72_73_74_79.out (by decide)) (by decide) (by decide))
  clear V1_74_79
  have LB0_64_69_70_71_72_73_74_79_80 := hide (loc_set (i := 7) (v := .int .i64 a.guard.op) LB0_64_69_70_71_72_73_74_79.out)
  have LB1_64_69_70_71_72_73_74_79_80 := hide (loc_other (p := ⟨w.heap.size, 7, none⟩) (v := .int .i64 a.guard.op) LB1_64_69_70_71_72_73_74_79.out NE_1_0.out)
  clear LB0_64_69_70_71_72_73_74_79 LB1_64_69_70_71_72_73_74_79
  have BW80 := hide (below_set BW79.out G0.out 7 (.int .i64 a.guard.op))
  clear BW79
  have HX0_0_64_69_70_71_72_73_74_79_80_81 := hide (Strs.keep HX0_0_64_69_70_71_72_73_74_79_80.out (Kp.setLoc (T := [9]) (i := 8) (v := .slice p1_74 a.guard.right.length r1_74) LB0_64_69_70_71_72_73_74_79_80.out (by decide)) (by decide))
  clear HX0_0_64_69_70_71_72_73_74_79_80
  have HX1_0_64_69_70_71_72_73_74_79_80_81 := hide (Terms.keep HX1_0_64_69_70_71_72_73_74_79_80.out (Kp.setLoc (T := [9, 109]) (i := 8) (v := .slice p1_74 a.guard.right.length r1_74) LB0_64_69_70_71_72_73_74_79_80.out (by decide)) (by decide) (by decide))
  clear HX1_0_64_69_70_71_72_73_74_79_80
  have HX2_0_64_69_70_71_72_73_74_79_80_81 := hide (Terms.keep HX2_0_64_69_70_71_72_73_74_79_80.out (Kp.setLoc (T := [9, 109]) (i := 8) (v := .slice p1_74 a.guard.right.length r1_74) LB0_64_69_70_71_72_73_74_79_80.out (by decide)) (by decide) (by decide))
  clear HX2_0_64_69_70_71_72_73_74_79_80
  have V0_64_69_70_71_72_73_74_79_80_81 := hide (Strs.keep V0_64_69_70_71_72_73_74_79_80.out (Kp.setLoc (T := [9]) (i := 8) (v := .slice p1_74 a.guard.right.length r1_74) LB0_64_69_70_71_72_73_74_79_80.out (by decide)) (by decide))
  clear V0_64_69_70_71_72_73_74_79_80
  have V0_74_79_80_81 := hide (Terms.keep V0_74_79_80.out (Kp.setLoc (T := [9, 109]) (i := 8) (v := .slice p1_74 a.guard.right.length r1_74) LB0_64_69_70_71_72_73_74_79_80.out (by decide)) (by decide) (by decide))
  clear V0_74_79_80
  have V1_74_79_80_81 := hide (Terms.keep V1_74_79_80.out (Kp.setLoc (T := [9, 109]) (i := 8) (v := .slice p1_74 a.guard.right.length r1_74) LB0_64_69_70_71_72_73_74_79_80.out (by decide)) (by decide) (by decide))
  clear V1_74_79_80
  have LB0_64_69_70_71_72_73_74_79_80_81 := hide (loc_set (i := 8) (v := .slice p1_74 a.guard.right.length r1_74) LB0_64_69_70_71_72_73_74_79_80.out)
  have LB1_64_69_70_71_72_73_74_79_80_81 := hide (loc_other (p := ⟨w.heap.size, 8, none⟩) (v := .slice p1_74 a.guard.right.length r1_74) LB1_64_69_70_71_72_73_74_79_80.out NE_1_0.out)
  clear LB0_64_69_70_71_72_73_74_79_80 LB1_64_69_70_71_72_73_74_79_80
  have BW81 := hide (below_set BW80.out G0.out 8 (.slice p1_74 a.guard.right.length r1_74))
  clear BW80
  go_wp2_with fail
  have hz := (And.intro z75_0 (And.intro z75_1 (And.intro z75_2 (And.intro z75_3 (And.intro z75_4 (And.intro z75_5 (And.intro z75_6 (And.intro z75_7 (And.intro z75_8 (And.intro z75_9 (And.intro z75_10 (And.intro y75 (And.intro z76_0 (And.intro z76_1 (And.intro z76_2 (And.intro z76_3 (And.intro z76_4 (And.intro z76_5 (And.intro z76_6 (And.intro z76_7 (And.intro z76_8 (And.intro z76_9 (And.intro z76_10 (And.intro y76 (And.intro x77 x78)))))))))))))))))))))))))
  simp [bodyPost, results, Tryz.results144, go_sem, hz]
  have HX0_0_64_69_70_71_72_73_74_79_80_81_82 := hide (Strs.keep HX0_0_64_69_70_71_72_73_74_79_80_81.out (Kp.setLoc (T := [9]) (i := 0) (v := .int .i64 a.kind) LB1_64_69_70_71_72_73_74_79_80_81.out (by decide)) (by decide))
  clear HX0_0_64_69_70_71_72_73_74_79_80_81
  have HX1_0_64_69_70_71_72_73_74_79_80_81_82 := hide (Terms.keep HX1_0_64_69_70_71_72_73_74_79_80_81.out (Kp.setLoc (T := [9, 109]) (i := 0) (v := .int .i64 a.kind) LB1_64_69_70_71_72_73_74_79_80_81.out (by decide)) (by decide) (by decide))
  clear HX1_0_64_69_70_71_72_73_74_79_80_81
  have HX2_0_64_69_70_71_72_73_74_79_80_81_82 := hide (Terms.keep HX2_0_64_69_70_71_72_73_74_79_80_81.out (Kp.setLoc (T := [9, 109]) (i := 0) (v := .int .i64 a.kind) LB1_64_69_70_71_72_73_74_79_80_81.out (by decide)) (by decide) (by decide))
  clear HX2_0_64_69_70_71_72_73_74_79_80_81
  have V0_64_69_70_71_72_73_74_79_80_81_82 := hide (Strs.keep V0_64_69_70_71_72_73_74_79_80_81.out (Kp.setLoc (T := [9]) (i := 0) (v := .int .i64 a.kind) LB1_64_69_70_71_72_73_74_79_80_81.out (by decide)) (by decide))
  clear V0_64_69_70_71_72_73_74_79_80_81
  have V0_74_79_80_81_82 := hide (Terms.keep V0_74_79_80_81.out (Kp.setLoc (T := [9, 109]) (i := 0) (v := .int .i64 a.kind) LB1_64_69_70_71_72_73_74_79_80_81.out (by decide)) (by decide) (by decide))
  clear V0_74_79_80_81
  have V1_74_79_80_81_82 := hide (Terms.keep V1_74_79_80_81.out (Kp.setLoc (T := [9, 109]) (i := 0) (v := .int .i64 a.kind) LB1_64_69_70_71_72_73_74_79_80_81.out (by decide)) (by decide) (by decide))
  clear V1_74_79_80_81
  have LB0_64_69_70_71_72_73_74_79_80_81_82 := hide (loc_other (p := ⟨w.heap.size + 1, 0, none⟩) (v := .int .i64 a.kind) LB0_64_69_70_71_72_73_74_79_80_81.out NE_0_1.out)
  have LB1_64_69_70_71_72_73_74_79_80_81_82 := hide (loc_set (i := 0) (v := .int .i64 a.kind) LB1_64_69_70_71_72_73_74_79_80_81.out)
  clear LB0_64_69_70_71_72_73_74_79_80_81 LB1_64_69_70_71_72_73_74_79_80_81
  have BW82 := hide (below_set BW81.out G1.out 0 (.int .i64 a.kind))
  clear BW81
  have HX0_0_64_69_70_71_72_73_74_79_80_81_82_83 := hide (Strs.keep HX0_0_64_69_70_71_72_73_74_79_80_81_82.out (Kp.setLoc (T := [9]) (i := 1) (v := .bool a.lit.neg) LB1_64_69_70_71_72_73_74_79_80_81_82.out (by decide)) (by decide))
  clear HX0_0_64_69_70_71_72_73_74_79_80_81_82
  have HX1_0_64_69_70_71_72_73_74_79_80_81_82_83 := hide (Terms.keep HX1_0_64_69_70_71_72_73_74_79_80_81_82.out (Kp.setLoc (T := [9, 109]) (i := 1) (v := .bool a.lit.neg) LB1_64_69_70_71_72_73_74_79_80_81_82.out (by decide)) (by decide) (by decide))
  clear HX1_0_64_69_70_71_72_73_74_79_80_81_82
  have HX2_0_64_69_70_71_72_73_74_79_80_81_82_83 := hide (Terms.keep HX2_0_64_69_70_71_72_73_74_79_80_81_82.out (Kp.setLoc (T := [9, 109]) (i := 1) (v := .bool a.lit.neg) LB1_64_69_70_71_72_73_74_79_80_81_82.out (by decide)) (by decide) (by decide))
  clear HX2_0_64_69_70_71_72_73_74_79_80_81_82
  have V0_64_69_70_71_72_73_74_79_80_81_82_83 := hide (Strs.keep V0_64_69_70_71_72_73_74_79_80_81_82.out (Kp.setLoc (T := [9]) (i := 1) (v := .bool a.lit.neg) LB1_64_69_70_71_72_73_74_79_80_81_82.out (by decide)) (by decide))
  clear V0_64_69_70_71_72_73_74_79_80_81_82
  have V0_74_79_80_81_82_83 := hide (Terms.keep V0_74_79_80_81_82.out (Kp.setLoc (T := [9, 109]) (i := 1) (v := .bool a.lit.neg) LB1_64_69_70_71_72_73_74_79_80_81_82.out (by decide)) (by decide) (by decide))
  clear V0_74_79_80_81_82
  have V1_74_79_80_81_82_83 := hide (Terms.keep V1_74_79_80_81_82.out (Kp.setLoc (T := [9, 109]) (i := 1) (v := .bool a.lit.neg) LB1_64_69_70_71_72_73_74_79_80_81_82.out (by decide)) (by decide) (by decide))
  clear V1_74_79_80_81_82
  have LB0_64_69_70_71_72_73_74_79_80_81_82_83 := hide (loc_other (p := ⟨w.heap.size + 1, 1, none⟩) (v := .bool a.lit.neg) LB0_64_69_70_71_72_73_74_79_80_81_82.out NE_0_1.out)
  have LB1_64_69_70_71_72_73_74_79_80_81_82_83 := hide (loc_set (i := 1) (v := .bool a.lit.neg) LB1_64_69_70_71_72_73_74_79_80_81_82.out)
  clear LB0_64_69_70_71_72_73_74_79_80_81_82 LB1_64_69_70_71_72_73_74_79_80_81_82
  have BW83 := hide (below_set BW82.out G1.out 1 (.bool a.lit.neg))
  clear BW82
  have HX0_0_64_69_70_71_72_73_74_79_80_81_82_83_84 := hide (Strs.keep HX0_0_64_69_70_71_72_73_74_79_80_81_82_83.out (Kp.setLoc (T := [9]) (i := 2) (v := .string ⟨a.lit.pred.toArray⟩) LB1_64_69_70_71_72_73_74_79_80_81_82_83.out (by decide)) (by decide))
  clear HX0_0_64_69_70_71_72_73_74_79_80_81_82_83
  have HX1_0_64_69_70_71_72_73_74_79_80_81_82_83_84 := hide (Terms.keep HX1_0_64_69_70_71_72_73_74_79_80_81_82_83.out (Kp.setLoc (T := [9, 109]) (i := 2) (v := .string ⟨a.lit.pred.toArray⟩) LB1_64_69_70_71_72_73_74_79_80_81_82_83.out (by decide)) (by decide) (by decide))
  clear HX1_0_64_69_70_71_72_73_74_79_80_81_82_83
  have HX2_0_64_69_70_71_72_73_74_79_80_81_82_83_84 := hide (Terms.keep HX2_0_64_69_70_71_72_73_74_79_80_81_82_83.out (Kp.setLoc (T := [9, 109]) (i := 2) (v := .string ⟨a.lit.pred.toArray⟩) LB1_64_69_70_71_72_73_74_79_80_81_82_83.out (by decide)) (by decide) (by decide))
  clear HX2_0_64_69_70_71_72_73_74_79_80_81_82_83
  have V0_64_69_70_71_72_73_74_79_80_81_82_83_84 := hide (Strs.keep V0_64_69_70_71_72_73_74_79_80_81_82_83.out (Kp.setLoc (T := [9]) (i := 2) (v := .string ⟨a.lit.pred.toArray⟩) LB1_64_69_70_71_72_73_74_79_80_81_82_83.out (by decide)) (by decide))
  clear V0_64_69_70_71_72_73_74_79_80_81_82_83
  have V0_74_79_80_81_82_83_84 := hide (Terms.keep V0_74_79_80_81_82_83.out (Kp.setLoc (T := [9, 109]) (i := 2) (v := .string ⟨a.lit.pred.toArray⟩) LB1_64_69_70_71_72_73_74_79_80_81_82_83.out (by decide)) (by decide) (by decide))
  clear V0_74_79_80_81_82_83
  have V1_74_79_80_81_82_83_84 := hide (Terms.keep V1_74_79_80_81_82_83.out (Kp.setLoc (T := [9, 109]) (i := 2) (v := .string ⟨a.lit.pred.toArray⟩) LB1_64_69_70_71_72_73_74_79_80_81_82_83.out (by decide)) (by decide) (by decide))
  clear V1_74_79_80_81_82_83
  have LB0_64_69_70_71_72_73_74_79_80_81_82_83_84 := hide (loc_other (p := ⟨w.heap.size + 1, 2, none⟩) (v := .string ⟨a.lit.pred.toArray⟩) LB0_64_69_70_71_72_73_74_79_80_81_82_83.out NE_0_1.out)
  have LB1_64_69_70_71_72_73_74_79_80_81_82_83_84 := hide (loc_set (i := 2) (v := .string ⟨a.lit.pred.toArray⟩) LB1_64_69_70_71_72_73_74_79_80_81_82_83.out)
  clear LB0_64_69_70_71_72_73_74_79_80_81_82_83 LB1_64_69_70_71_72_73_74_79_80_81_82_83
  have BW84 := hide (below_set BW83.out G1.out 2 (.string ⟨a.lit.pred.toArray⟩))
  clear BW83
  have HX0_0_64_69_70_71_72_73_74_79_80_81_82_83_84_85 := hide (Strs.keep HX0_0_64_69_70_71_72_73_74_79_80_81_82_83_84.out (Kp.setLoc (T := [9]) (i := 3) (v := .slice p0_64 a.lit.args.length r0_64) LB1_64_69_70_71_72_73_74_79_80_81_82_83_84.out (by decide)) (by decide))
  clear HX0_0_64_69_70_71_72_73_74_79_80_81_82_83_84
  have HX1_0_64_69_70_71_72_73_74_79_80_81_82_83_84_85 := hide (Terms.keep HX1_0_64_69_70_71_72_73_74_79_80_81_82_83_84.out (Kp.setLoc (T := [9, 109]) (i := 3) (v := .slice p0_64 a.lit.args.length r0_64) LB1_64_69_70_71_72_73_74_79_80_81_82_83_84.out (by decide)) (by decide) (by decide))
  clear HX1_0_64_69_70_71_72_73_74_79_80_81_82_83_84
  have HX2_0_64_69_70_71_72_73_74_79_80_81_82_83_84_85 := hide (Terms.keep HX2_0_64_69_70_71_72_73_74_79_80_81_82_83_84.out (Kp.setLoc (T := [9, 109]) (i := 3) (v := .slice p0_64 a.lit.args.length r0_64) LB1_64_69_70_71_72_73_74_79_80_81_82_83_84.out (by decide)) (by decide) (by decide))
  clear HX2_0_64_69_70_71_72_73_74_79_80_81_82_83_84
  have V0_64_69_70_71_72_73_74_79_80_81_82_83_84_85 := hide (Strs.keep V0_64_69_70_71_72_73_74_79_80_81_82_83_84.out (Kp.setLoc (T := [9]) (i := 3) (v := .slice p0_64 a.lit.args.length r0_64) LB1_64_69_70_71_72_73_74_79_80_81_82_83_84.out (by decide)) (by decide))
  clear V0_64_69_70_71_72_73_74_79_80_81_82_83_84
  have V0_74_79_80_81_82_83_84_85 := hide (Terms.keep V0_74_79_80_81_82_83_84.out (Kp.setLoc (T := [9, 109]) (i := 3) (v := .slice p0_64 a.lit.args.length r0_64) LB1_64_69_70_71_72_73_74_79_80_81_82_83_84.out (by decide)) (by decide) (by decide))
  clear V0_74_79_80_81_82_83_84
  have V1_74_79_80_81_82_83_84_85 := hide (Terms.keep V1_74_79_80_81_82_83_84.out (Kp.setLoc (T := [9, 109]) (i := 3) (v := .slice p0_64 a.lit.args.length r0_64) LB1_64_69_70_71_72_73_74_79_80_81_82_83_84.out (by decide)) (by decide) (by decide))
  clear V1_74_79_80_81_82_83_84
  have LB0_64_69_70_71_72_73_74_79_80_81_82_83_84_85 := hide (loc_other (p := ⟨w.heap.size + 1, 3, none⟩) (v := .slice p0_64 a.lit.args.length r0_64) LB0_64_69_70_71_72_73_74_79_80_81_82_83_84.out NE_0_1.out)
  have LB1_64_69_70_71_72_73_74_79_80_81_82_83_84_85 := hide (loc_set (i := 3) (v := .slice p0_64 a.lit.args.length r0_64) LB1_64_69_70_71_72_73_74_79_80_81_82_83_84.out)
  clear LB0_64_69_70_71_72_73_74_79_80_81_82_83_84 LB1_64_69_70_71_72_73_74_79_80_81_82_83_84
  have BW85 := hide (below_set BW84.out G1.out 3 (.slice p0_64 a.lit.args.length r0_64))
  clear BW84
  have HX0_0_64_69_70_71_72_73_74_79_80_81_82_83_84_85_86 := hide (Strs.keep HX0_0_64_69_70_71_72_73_74_79_80_81_82_83_84_85.out (Kp.setLoc (T := [9]) (i := 4) (v := .bool a.lit.hasValue) LB1_64_69_70_71_72_73_74_79_80_81_82_83_84_85.out (by decide)) (by decide))
  clear HX0_0_64_69_70_71_72_73_74_79_80_81_82_83_84_85
  have HX1_0_64_69_70_71_72_73_74_79_80_81_82_83_84_85_86 := hide (Terms.keep HX1_0_64_69_70_71_72_73_74_79_80_81_82_83_84_85.out (Kp.setLoc (T := [9, 109]) (i := 4) (v := .bool a.lit.hasValue) LB1_64_69_70_71_72_73_74_79_80_81_82_83_84_85.out (by decide)) (by decide) (by decide))
  clear HX1_0_64_69_70_71_72_73_74_79_80_81_82_83_84_85
  have HX2_0_64_69_70_71_72_73_74_79_80_81_82_83_84_85_86 := hide (Terms.keep HX2_0_64_69_70_71_72_73_74_79_80_81_82_83_84_85.out (Kp.setLoc (T := [9, 109]) (i := 4) (v := .bool a.lit.hasValue) LB1_64_69_70_71_72_73_74_79_80_81_82_83_84_85.out (by decide)) (by decide) (by decide))
  clear HX2_0_64_69_70_71_72_73_74_79_80_81_82_83_84_85
  have V0_64_69_70_71_72_73_74_79_80_81_82_83_84_85_86 := hide (Strs.keep V0_64_69_70_71_72_73_74_79_80_81_82_83_84_85.out (Kp.setLoc (T := [9]) (i := 4) (v := .bool a.lit.hasValue) LB1_64_69_70_71_72_73_74_79_80_81_82_83_84_85.out (by decide)) (by decide))
  clear V0_64_69_70_71_72_73_74_79_80_81_82_83_84_85
  have V0_74_79_80_81_82_83_84_85_86 := hide (Terms.keep V0_74_79_80_81_82_83_84_85.out (Kp.setLoc (T := [9, 109]) (i := 4) (v := .bool a.lit.hasValue) LB1_64_69_70_71_72_73_74_79_80_81_82_83_84_85.out (by decide)) (by decide) (by decide))
  clear V0_74_79_80_81_82_83_84_85
  have V1_74_79_80_81_82_83_84_85_86 := hide (Terms.keep V1_74_79_80_81_82_83_84_85.out (Kp.setLoc (T := [9, 109]) (i := 4) (v := .bool a.lit.hasValue) LB1_64_69_70_71_72_73_74_79_80_81_82_83_84_85.out (by decide)) (by decide) (by decide))
  clear V1_74_79_80_81_82_83_84_85
  have LB0_64_69_70_71_72_73_74_79_80_81_82_83_84_85_86 := hide (loc_other (p := ⟨w.heap.size + 1, 4, none⟩) (v := .bool a.lit.hasValue) LB0_64_69_70_71_72_73_74_79_80_81_82_83_84_85.out NE_0_1.out)
  have LB1_64_69_70_71_72_73_74_79_80_81_82_83_84_85_86 := hide (loc_set (i := 4) (v := .bool a.lit.hasValue) LB1_64_69_70_71_72_73_74_79_80_81_82_83_84_85.out)
  clear LB0_64_69_70_71_72_73_74_79_80_81_82_83_84_85 LB1_64_69_70_71_72_73_74_79_80_81_82_83_84_85
  have BW86 := hide (below_set BW85.out G1.out 4 (.bool a.lit.hasValue))
  clear BW85
  have HX0_0_64_69_70_71_72_73_74_79_80_81_82_83_84_85_86_87 := hide (Strs.keep HX0_0_64_69_70_71_72_73_74_79_80_81_82_83_84_85_86.out (Kp.setLoc (T := [9]) (i := 5) (v := .int .i64 a.lit.value) LB1_64_69_70_71_72_73_74_79_80_81_82_83_84_85_86.out (by decide)) (by decide))
  clear HX0_0_64_69_70_71_72_73_74_79_80_81_82_83_84_85_86
  have HX1_0_64_69_70_71_72_73_74_79_80_81_82_83_84_85_86_87 := hide (Terms.keep HX1_0_64_69_70_71_72_73_74_79_80_81_82_83_84_85_86.out (Kp.setLoc (T := [9, 109]) (i := 5) (v := .int .i64 a.lit.value) LB1_64_69_70_71_72_73_74_79_80_81_82_83_84_85_86.out (by decide)) (by decide) (by decide))
  clear HX1_0_64_69_70_71_72_73_74_79_80_81_82_83_84_85_86
  have HX2_0_64_69_70_71_72_73_74_79_80_81_82_83_84_85_86_87 := hide (Terms.keep HX2_0_64_69_70_71_72_73_74_79_80_81_82_83_84_85_86.out (Kp.setLoc (T := [9, 109]) (i := 5) (v := .int .i64 a.lit.value) LB1_64_69_70_71_72_73_74_79_80_81_82_83_84_85_86.out (by decide)) (by decide) (by decide))
  clear HX2_0_64_69_70_71_72_73_74_79_80_81_82_83_84_85_86
  have V0_64_69_70_71_72_73_74_79_80_81_82_83_84_85_86_87 := hide (Strs.keep V0_64_69_70_71_72_73_74_79_80_81_82_83_84_85_86.out (Kp.setLoc (T := [9]) (i := 5) (v := .int .i64 a.lit.value) LB1_64_69_70_71_72_73_74_79_80_81_82_83_84_85_86.out (by decide)) (by decide))
  clear V0_64_69_70_71_72_73_74_79_80_81_82_83_84_85_86
  have V0_74_79_80_81_82_83_84_85_86_87 := hide (Terms.keep V0_74_79_80_81_82_83_84_85_86.out (Kp.setLoc (T := [9, 109]) (i := 5) (v := .int .i64 a.lit.value) LB1_64_69_70_71_72_73_74_79_80_81_82_83_84_85_86.out (by decide)) (by decide) (by decide))
  clear V0_74_79_80_81_82_83_84_85_86
  have V1_74_79_80_81_82_83_84_85_86_87 := hide (Terms.keep V1_74_79_80_81_82_83_84_85_86.out (Kp.setLoc (T := [9, 109]) (i := 5) (v := .int .i64 a.lit.value) LB1_64_69_70_71_72_73_74_79_80_81_82_83_84_85_86.out (by decide)) (by decide) (by decide))
  clear V1_74_79_80_81_82_83_84_85_86
  have LB0_64_69_70_71_72_73_74_79_80_81_82_83_84_85_86_87 := hide (loc_other (p := ⟨w.heap.size + 1, 5, none⟩) (v := .int .i64 a.lit.value) LB0_64_69_70_71_72_73_74_79_80_81_82_83_84_85_86.out NE_0_1.out)
  have LB1_64_69_70_71_72_73_74_79_80_81_82_83_84_85_86_87 := hide (loc_set (i := 5) (v := .int .i64 a.lit.value) LB1_64_69_70_71_72_73_74_79_80_81_82_83_84_85_86.out)
  clear LB0_64_69_70_71_72_73_74_79_80_81_82_83_84_85_86 LB1_64_69_70_71_72_73_74_79_80_81_82_83_84_85_86
  have BW87 := hide (below_set BW86.out G1.out 5 (.int .i64 a.lit.value))
  clear BW86
  have HX0_0_64_69_70_71_72_73_74_79_80_81_82_83_84_85_86_87_88 := hide (Strs.keep HX0_0_64_69_70_71_72_73_74_79_80_81_82_83_84_85_86_87.out (Kp.setLoc (T := [9]) (i := 6) (v := .slice p0_74 a.guard.left.length r0_74) LB1_64_69_70_71_72_73_74_79_80_81_82_83_84_85_86_87.out (by decide)) (by decide))
  clear HX0_0_64_69_70_71_72_73_74_79_80_81_82_83_84_85_86_87
  have HX1_0_64_69_70_71_72_73_74_79_80_81_82_83_84_85_86_87_88 := hide (Terms.keep HX1_0_64_69_70_71_72_73_74_79_80_81_82_83_84_85_86_87.out (Kp.setLoc (T := [9, 109]) (i := 6) (v := .slice p0_74 a.guard.left.length r0_74) LB1_64_69_70_71_72_73_74_79_80_81_82_83_84_85_86_87.out (by decide)) (by decide) (by decide))
  clear HX1_0_64_69_70_71_72_73_74_79_80_81_82_83_84_85_86_87
  have HX2_0_64_69_70_71_72_73_74_79_80_81_82_83_84_85_86_87_88 := hide (Terms.keep HX2_0_64_69_70_71_72_73_74_79_80_81_82_83_84_85_86_87.out (Kp.setLoc (T := [9, 109]) (i := 6) (v := .slice p0_74 a.guard.left.length r0_74) LB1_64_69_70_71_72_73_74_79_80_81_82_83_84_85_86_87.out (by decide)) (by decide) (by decide))
  clear HX2_0_64_69_70_71_72_73_74_79_80_81_82_83_84_85_86_87
  have V0_64_69_70_71_72_73_74_79_80_81_82_83_84_85_86_87_88 := hide (Strs.keep V0_64_69_70_71_72_73_74_79_80_81_82_83_84_85_86_87.out (Kp.setLoc (T := [9]) (i := 6) (v := .slice p0_74 a.guard.left.length r0_74) LB1_64_69_70_71_72_73_74_79_80_81_82_83_84_85_86_87.out (by decide)) (by decide))
  clear V0_64_69_70_71_72_73_74_79_80_81_82_83_84_85_86_87
  have V0_74_79_80_81_82_83_84_85_86_87_88 := hide (Terms.keep V0_74_79_80_81_82_83_84_85_86_87.out (Kp.setLoc (T := [9, 109]) (i := 6) (v := .slice p0_74 a.guard.left.length r0_74) LB1_64_69_70_71_72_73_74_79_80_81_82_83_84_85_86_87.out (by decide)) (by decide) (by decide))
  clear V0_74_79_80_81_82_83_84_85_86_87
  have V1_74_79_80_81_82_83_84_85_86_87_88 := hide (Terms.keep V1_74_79_80_81_82_83_84_85_86_87.out (Kp.setLoc (T := [9, 109]) (i := 6) (v := .slice p0_74 a.guard.left.length r0_74) LB1_64_69_70_71_72_73_74_79_80_81_82_83_84_85_86_87.out (by decide)) (by decide) (by decide))
  clear V1_74_79_80_81_82_83_84_85_86_87
  have LB0_64_69_70_71_72_73_74_79_80_81_82_83_84_85_86_87_88 := hide (loc_other (p := ⟨w.heap.size + 1, 6, none⟩) (v := .slice p0_74 a.guard.left.length r0_74) LB0_64_69_70_71_72_73_74_79_80_81_82_83_84_85_86_87.out NE_0_1.out)
  have LB1_64_69_70_71_72_73_74_79_80_81_82_83_84_85_86_87_88 := hide (loc_set (i := 6) (v := .slice p0_74 a.guard.left.length r0_74) LB1_64_69_70_71_72_73_74_79_80_81_82_83_84_85_86_87.out)
  clear LB0_64_69_70_71_72_73_74_79_80_81_82_83_84_85_86_87 LB1_64_69_70_71_72_73_74_79_80_81_82_83_84_85_86_87
  have BW88 := hide (below_set BW87.out G1.out 6 (.slice p0_74 a.guard.left.length r0_74))
  clear BW87
  have HX0_0_64_69_70_71_72_73_74_79_80_81_82_83_84_85_86_87_88_89 := hide (Strs.keep HX0_0_64_69_70_71_72_73_74_79_80_81_82_83_84_85_86_87_88.out (Kp.setLoc (T := [9]) (i := 7) (v := .int .i64 a.guard.op) LB1_64_69_70_71_72_73_74_79_80_81_82_83_84_85_86_87_88.out (by decide)) (by decide))
  clear HX0_0_64_69_70_71_72_73_74_79_80_81_82_83_84_85_86_87_88
  have HX1_0_64_69_70_71_72_73_74_79_80_81_82_83_84_85_86_87_88_89 := hide (Terms.keep HX1_0_64_69_70_71_72_73_74_79_80_81_82_83_84_85_86_87_88.out (Kp.setLoc (T := [9, 109]) (i := 7) (v := .int .i64 a.guard.op) LB1_64_69_70_71_72_73_74_79_80_81_82_83_84_85_86_87_88.out (by decide)) (by decide) (by decide))
  clear HX1_0_64_69_70_71_72_73_74_79_80_81_82_83_84_85_86_87_88
  have HX2_0_64_69_70_71_72_73_74_79_80_81_82_83_84_85_86_87_88_89 := hide (Terms.keep HX2_0_64_69_70_71_72_73_74_79_80_81_82_83_84_85_86_87_88.out (Kp.setLoc (T := [9, 109]) (i := 7) (v := .int .i64 a.guard.op) LB1_64_69_70_71_72_73_74_79_80_81_82_83_84_85_86_87_88.out (by decide)) (by decide) (by decide))
  clear HX2_0_64_69_70_71_72_73_74_79_80_81_82_83_84_85_86_87_88
  have V0_64_69_70_71_72_73_74_79_80_81_82_83_84_85_86_87_88_89 := hide (Strs.keep V0_64_69_70_71_72_73_74_79_80_81_82_83_84_85_86_87_88.out (Kp.setLoc (T := [9]) (i := 7) (v := .int .i64 a.guard.op) LB1_64_69_70_71_72_73_74_79_80_81_82_83_84_85_86_87_88.out (by decide)) (by decide))
  clear V0_64_69_70_71_72_73_74_79_80_81_82_83_84_85_86_87_88
  have V0_74_79_80_81_82_83_84_85_86_87_88_89 := hide (Terms.keep V0_74_79_80_81_82_83_84_85_86_87_88.out (Kp.setLoc (T := [9, 109]) (i := 7) (v := .int .i64 a.guard.op) LB1_64_69_70_71_72_73_74_79_80_81_82_83_84_85_86_87_88.out (by decide)) (by decide) (by decide))
  clear V0_74_79_80_81_82_83_84_85_86_87_88
  have V1_74_79_80_81_82_83_84_85_86_87_88_89 := hide (Terms.keep V1_74_79_80_81_82_83_84_85_86_87_88.out (Kp.setLoc (T := [9, 109]) (i := 7) (v := .int .i64 a.guard.op) LB1_64_69_70_71_72_73_74_79_80_81_82_83_84_85_86_87_88.out (by decide)) (by decide) (by decide))
  clear V1_74_79_80_81_82_83_84_85_86_87_88
  have LB0_64_69_70_71_72_73_74_79_80_81_82_83_84_85_86_87_88_89 := hide (loc_other (p := ⟨w.heap.size + 1, 7, none⟩) (v := .int .i64 a.guard.op) LB0_64_69_70_71_72_73_74_79_80_81_82_83_84_85_86_87_88.out NE_0_1.out)
  have LB1_64_69_70_71_72_73_74_79_80_81_82_83_84_85_86_87_88_89 := hide (loc_set (i := 7) (v := .int .i64 a.guard.op) LB1_64_69_70_71_72_73_74_79_80_81_82_83_84_85_86_87_88.out)
  clear LB0_64_69_70_71_72_73_74_79_80_81_82_83_84_85_86_87_88 LB1_64_69_70_71_72_73_74_79_80_81_82_83_84_85_86_87_88
  have BW89 := hide (below_set BW88.out G1.out 7 (.int .i64 a.guard.op))
  clear BW88
  have HX0_0_64_69_70_71_72_73_74_79_80_81_82_83_84_85_86_87_88_89_90 := hide (Strs.keep HX0_0_64_69_70_71_72_73_74_79_80_81_82_83_84_85_86_87_88_89.out (Kp.setLoc (T := [9]) (i := 8) (v := .slice p1_74 a.guard.right.length r1_74) LB1_64_69_70_71_72_73_74_79_80_81_82_83_84_85_86_87_88_89.out (by decide)) (by decide))
  clear HX0_0_64_69_70_71_72_73_74_79_80_81_82_83_84_85_86_87_88_89
  have HX1_0_64_69_70_71_72_73_74_79_80_81_82_83_84_85_86_87_88_89_90 := hide (Terms.keep HX1_0_64_69_70_71_72_73_74_79_80_81_82_83_84_85_86_87_88_89.out (Kp.setLoc (T := [9, 109]) (i := 8) (v := .slice p1_74 a.guard.right.length r1_74) LB1_64_69_70_71_72_73_74_79_80_81_82_83_84_85_86_87_88_89.out (by decide)) (by decide) (by decide))
  clear HX1_0_64_69_70_71_72_73_74_79_80_81_82_83_84_85_86_87_88_89
  have HX2_0_64_69_70_71_72_73_74_79_80_81_82_83_84_85_86_87_88_89_90 := hide (Terms.keep HX2_0_64_69_70_71_72_73_74_79_80_81_82_83_84_85_86_87_88_89.out (Kp.setLoc (T := [9, 109]) (i := 8) (v := .slice p1_74 a.guard.right.length r1_74) LB1_64_69_70_71_72_73_74_79_80_81_82_83_84_85_86_87_88_89.out (by decide)) (by decide) (by decide))
  clear HX2_0_64_69_70_71_72_73_74_79_80_81_82_83_84_85_86_87_88_89
  have V0_64_69_70_71_72_73_74_79_80_81_82_83_84_85_86_87_88_89_90 := hide (Strs.keep V0_64_69_70_71_72_73_74_79_80_81_82_83_84_85_86_87_88_89.out (Kp.setLoc (T := [9]) (i := 8) (v := .slice p1_74 a.guard.right.length r1_74) LB1_64_69_70_71_72_73_74_79_80_81_82_83_84_85_86_87_88_89.out (by decide)) (by decide))
  clear V0_64_69_70_71_72_73_74_79_80_81_82_83_84_85_86_87_88_89
  have V0_74_79_80_81_82_83_84_85_86_87_88_89_90 := hide (Terms.keep V0_74_79_80_81_82_83_84_85_86_87_88_89.out (Kp.setLoc (T := [9, 109]) (i := 8) (v := .slice p1_74 a.guard.right.length r1_74) LB1_64_69_70_71_72_73_74_79_80_81_82_83_84_85_86_87_88_89.out (by decide)) (by decide) (by decide))
  clear V0_74_79_80_81_82_83_84_85_86_87_88_89
  have V1_74_79_80_81_82_83_84_85_86_87_88_89_90 := hide (Terms.keep V1_74_79_80_81_82_83_84_85_86_87_88_89.out (Kp.setLoc (T := [9, 109]) (i := 8) (v := .slice p1_74 a.guard.right.length r1_74) LB1_64_69_70_71_72_73_74_79_80_81_82_83_84_85_86_87_88_89.out (by decide)) (by decide) (by decide))
  clear V1_74_79_80_81_82_83_84_85_86_87_88_89
  have LB0_64_69_70_71_72_73_74_79_80_81_82_83_84_85_86_87_88_89_90 := hide (loc_other (p := ⟨w.heap.size + 1, 8, none⟩) (v := .slice p1_74 a.guard.right.length r1_74) LB0_64_69_70_71_72_73_74_79_80_81_82_83_84_85_86_87_88_89.out NE_0_1.out)
  have LB1_64_69_70_71_72_73_74_79_80_81_82_83_84_85_86_87_88_89_90 := hide (loc_set (i := 8) (v := .slice p1_74 a.guard.right.length r1_74) LB1_64_69_70_71_72_73_74_79_80_81_82_83_84_85_86_87_88_89.out)
  clear LB0_64_69_70_71_72_73_74_79_80_81_82_83_84_85_86_87_88_89 LB1_64_69_70_71_72_73_74_79_80_81_82_83_84_85_86_87_88_89
  have BW90 := hide (below_set BW89.out G1.out 8 (.slice p1_74 a.guard.right.length r1_74))
  clear BW89
  have HX0_0_64_69_70_71_72_73_74_79_80_81_82_83_84_85_86_87_88_89_90_91 := hide (Strs.keep HX0_0_64_69_70_71_72_73_74_79_80_81_82_83_84_85_86_87_88_89_90.out (Kp.setLoc (T := [9]) (i := 9) (v := .string ⟨a.a.toArray⟩) LB1_64_69_70_71_72_73_74_79_80_81_82_83_84_85_86_87_88_89_90.out (by decide)) (by decide))
  clear HX0_0_64_69_70_71_72_73_74_79_80_81_82_83_84_85_86_87_88_89_90
  have HX1_0_64_69_70_71_72_73_74_79_80_81_82_83_84_85_86_87_88_89_90_91 := hide (Terms.keep HX1_0_64_69_70_71_72_73_74_79_80_81_82_83_84_85_86_87_88_89_90.out (Kp.setLoc (T := [9, 109]) (i := 9) (v := .string ⟨a.a.toArray⟩) LB1_64_69_70_71_72_73_74_79_80_81_82_83_84_85_86_87_88_89_90.out (by decide)) (by decide) (by decide))
  clear HX1_0_64_69_70_71_72_73_74_79_80_81_82_83_84_85_86_87_88_89_90
  have HX2_0_64_69_70_71_72_73_74_79_80_81_82_83_84_85_86_87_88_89_90_91 := hide (Terms.keep HX2_0_64_69_70_71_72_73_74_79_80_81_82_83_84_85_86_87_88_89_90.out (Kp.setLoc (T := [9, 109]) (i := 9) (v := .string ⟨a.a.toArray⟩) LB1_64_69_70_71_72_73_74_79_80_81_82_83_84_85_86_87_88_89_90.out (by decide)) (by decide) (by decide))
  clear HX2_0_64_69_70_71_72_73_74_79_80_81_82_83_84_85_86_87_88_89_90
  have V0_64_69_70_71_72_73_74_79_80_81_82_83_84_85_86_87_88_89_90_91 := hide (Strs.keep V0_64_69_70_71_72_73_74_79_80_81_82_83_84_85_86_87_88_89_90.out (Kp.setLoc (T := [9]) (i := 9) (v := .string ⟨a.a.toArray⟩) LB1_64_69_70_71_72_73_74_79_80_81_82_83_84_85_86_87_88_89_90.out (by decide)) (by decide))
  clear V0_64_69_70_71_72_73_74_79_80_81_82_83_84_85_86_87_88_89_90
  have V0_74_79_80_81_82_83_84_85_86_87_88_89_90_91 := hide (Terms.keep V0_74_79_80_81_82_83_84_85_86_87_88_89_90.out (Kp.setLoc (T := [9, 109]) (i := 9) (v := .string ⟨a.a.toArray⟩) LB1_64_69_70_71_72_73_74_79_80_81_82_83_84_85_86_87_88_89_90.out (by decide)) (by decide) (by decide))
  clear V0_74_79_80_81_82_83_84_85_86_87_88_89_90
  have V1_74_79_80_81_82_83_84_85_86_87_88_89_90_91 := hide (Terms.keep V1_74_79_80_81_82_83_84_85_86_87_88_89_90.out (Kp.setLoc (T := [9, 109]) (i := 9) (v := .string ⟨a.a.toArray⟩) LB1_64_69_70_71_72_73_74_79_80_81_82_83_84_85_86_87_88_89_90.out (by decide)) (by decide) (by decide))
  clear V1_74_79_80_81_82_83_84_85_86_87_88_89_90
  have LB0_64_69_70_71_72_73_74_79_80_81_82_83_84_85_86_87_88_89_90_91 := hide (loc_other (p := ⟨w.heap.size + 1, 9, none⟩) (v := .string ⟨a.a.toArray⟩) LB0_64_69_70_71_72_73_74_79_80_81_82_83_84_85_86_87_88_89_90.out NE_0_1.out)
  have LB1_64_69_70_71_72_73_74_79_80_81_82_83_84_85_86_87_88_89_90_91 := hide (loc_set (i := 9) (v := .string ⟨a.a.toArray⟩) LB1_64_69_70_71_72_73_74_79_80_81_82_83_84_85_86_87_88_89_90.out)
  clear LB0_64_69_70_71_72_73_74_79_80_81_82_83_84_85_86_87_88_89_90 LB1_64_69_70_71_72_73_74_79_80_81_82_83_84_85_86_87_88_89_90
  have BW91 := hide (below_set BW90.out G1.out 9 (.string ⟨a.a.toArray⟩))
  clear BW90
  have HX0_0_64_69_70_71_72_73_74_79_80_81_82_83_84_85_86_87_88_89_90_91_92 := hide (Strs.keep HX0_0_64_69_70_71_72_73_74_79_80_81_82_83_84_85_86_87_88_89_90_91.out (Kp.setLoc (T := [9]) (i := 10) (v := .string ⟨a.b.toArray⟩) LB1_64_69_70_71_72_73_74_79_80_81_82_83_84_85_86_87_88_89_90_91.out (by decide)) (by decide))
  clear HX0_0_64_69_70_71_72_73_74_79_80_81_82_83_84_85_86_87_88_89_90_91
  have HX1_0_64_69_70_71_72_73_74_79_80_81_82_83_84_85_86_87_88_89_90_91_92 := hide (Terms.keep HX1_0_64_69_70_71_72_73_74_79_80_81_82_83_84_85_86_87_88_89_90_91.out (Kp.setLoc (T := [9, 109]) (i := 10) (v := .string ⟨a.b.toArray⟩) LB1_64_69_70_71_72_73_74_79_80_81_82_83_84_85_86_87_88_89_90_91.out (by decide)) (by decide) (by decide))
  clear HX1_0_64_69_70_71_72_73_74_79_80_81_82_83_84_85_86_87_88_89_90_91
  have HX2_0_64_69_70_71_72_73_74_79_80_81_82_83_84_85_86_87_88_89_90_91_92 := hide (Terms.keep HX2_0_64_69_70_71_72_73_74_79_80_81_82_83_84_85_86_87_88_89_90_91.out (Kp.setLoc (T := [9, 109]) (i := 10) (v := .string ⟨a.b.toArray⟩) LB1_64_69_70_71_72_73_74_79_80_81_82_83_84_85_86_87_88_89_90_91.out (by decide)) (by decide) (by decide))
  clear HX2_0_64_69_70_71_72_73_74_79_80_81_82_83_84_85_86_87_88_89_90_91
  have V0_64_69_70_71_72_73_74_79_80_81_82_83_84_85_86_87_88_89_90_91_92 := hide (Strs.keep V0_64_69_70_71_72_73_74_79_80_81_82_83_84_85_86_87_88_89_90_91.out (Kp.setLoc (T := [9]) (i := 10) (v := .string ⟨a.b.toArray⟩) LB1_64_69_70_71_72_73_74_79_80_81_82_83_84_85_86_87_88_89_90_91.out (by decide)) (by decide))
  clear V0_64_69_70_71_72_73_74_79_80_81_82_83_84_85_86_87_88_89_90_91
  have V0_74_79_80_81_82_83_84_85_86_87_88_89_90_91_92 := hide (Terms.keep V0_74_79_80_81_82_83_84_85_86_87_88_89_90_91.out (Kp.setLoc (T := [9, 109]) (i := 10) (v := .string ⟨a.b.toArray⟩) LB1_64_69_70_71_72_73_74_79_80_81_82_83_84_85_86_87_88_89_90_91.out (by decide)) (by decide) (by decide))
  clear V0_74_79_80_81_82_83_84_85_86_87_88_89_90_91
  have V1_74_79_80_81_82_83_84_85_86_87_88_89_90_91_92 := hide (Terms.keep V1_74_79_80_81_82_83_84_85_86_87_88_89_90_91.out (Kp.setLoc (T := [9, 109]) (i := 10) (v := .string ⟨a.b.toArray⟩) LB1_64_69_70_71_72_73_74_79_80_81_82_83_84_85_86_87_88_89_90_91.out (by decide)) (by decide) (by decide))
  clear V1_74_79_80_81_82_83_84_85_86_87_88_89_90_91
  have LB0_64_69_70_71_72_73_74_79_80_81_82_83_84_85_86_87_88_89_90_91_92 := hide (loc_other (p := ⟨w.heap.size + 1, 10, none⟩) (v := .string ⟨a.b.toArray⟩) LB0_64_69_70_71_72_73_74_79_80_81_82_83_84_85_86_87_88_89_90_91.out NE_0_1.out)
  have LB1_64_69_70_71_72_73_74_79_80_81_82_83_84_85_86_87_88_89_90_91_92 := hide (loc_set (i := 10) (v := .string ⟨a.b.toArray⟩) LB1_64_69_70_71_72_73_74_79_80_81_82_83_84_85_86_87_88_89_90_91.out)
  clear LB0_64_69_70_71_72_73_74_79_80_81_82_83_84_85_86_87_88_89_90_91 LB1_64_69_70_71_72_73_74_79_80_81_82_83_84_85_86_87_88_89_90_91
  have BW92 := hide (below_set BW91.out G1.out 10 (.string ⟨a.b.toArray⟩))
  clear BW91
  exact ⟨⟨_, _, _, rfl, V0_64_69_70_71_72_73_74_79_80_81_82_83_84_85_86_87_88_89_90_91_92.out, V0_74_79_80_81_82_83_84_85_86_87_88_89_90_91_92.out, V1_74_79_80_81_82_83_84_85_86_87_88_89_90_91_92.out⟩, BW92.out⟩

set_option maxRecDepth 100000 in
set_option maxHeartbeats 3200000 in
theorem copy_CopyPremises {Z : Nat → Prop} (l : List PremM) (va : Value) (w : World) (ha : Rows Z 107 11 (cPrem Z) w l va) (hl : l.length ≤ 1000000000) (hi : ∀ a, a ∈ l → SmallPrem a) :
    Calls Tryz.prog 108 #[va] w fun e w' => ∃ v, e = .returned v ∧ Rows (New w) 107 11 (cPrem (New w)) w' l v ∧ Below w.heap.size w w' := by
  obtain ⟨iM, hiM, zM0, zM1, zM2⟩ := info_parts' info_prem
  have HA := hide ha
  obtain ⟨aa, ca, rfl⟩ := rows_form ha
  clear ha
  go_enter Tryz.func108, Tryz.ntmps108
  go_wp2_with fail
  go_loopw [3, 4] (fun x z wr => ∃ k : Nat, k ≤ l.length ∧ z = .int .i64 k ∧ Hid (Rows (New w) 107 11 (cPrem (New w)) wr (l.take k) x) ∧ Hid (Below w.heap.size w wr)) (fun _ z _ => l.length - (intOf z).toNat)
  case atStart => exact ⟨0, by omega, rfl, hide (Rows.nil _ _ _ _ _), hide (Below.refl _ w)⟩
  case round =>
    obtain ⟨k, hk, rfl, HV, HW⟩ := hrel
    by_cases hlt : k < l.length
    · obtain ⟨t, ht⟩ : ∃ t, l[k]? = some t := ⟨l[k], by simp [hlt]⟩
      obtain ⟨ga, xa, ya, e1, _, ⟨av0, av1, av2, rfl, hs0, hs1, hs2⟩, h2⟩ := (HA.out.keep (T := [9, 109, 107]) (Kp.of_below HW.out) (by decide) (fun _ _ h => h.keep (T := [9, 109, 107]) (Kp.of_below HW.out) (by decide) (by decide))).at ht
      simp only [Value.slice.injEq] at e1
      obtain ⟨rfl, _, rfl⟩ := e1
      have a0 : wr.cell? ⟨ga, k * 11, none⟩ = some (.int .i64 t.kind) := by have := h2 0 _ rfl; simpa using this
      have a1 : wr.cell? ⟨ga, k * 11 + 1, none⟩ = some (.bool t.lit.neg) := by have := h2 1 _ rfl; simpa using this
      have a2 : wr.cell? ⟨ga, k * 11 + 2, none⟩ = some (.string ⟨t.lit.pred.toArray⟩) := by have := h2 2 _ rfl; simpa using this
      have a3 : wr.cell? ⟨ga, k * 11 + 3, none⟩ = some (av0) := by have := h2 3 _ rfl; simpa using this
      have a4 : wr.cell? ⟨ga, k * 11 + 4, none⟩ = some (.bool t.lit.hasValue) := by have := h2 4 _ rfl; simpa using this
      have a5 : wr.cell? ⟨ga, k * 11 + 5, none⟩ = some (.int .i64 t.lit.value) := by have := h2 5 _ rfl; simpa using this
      have a6 : wr.cell? ⟨ga, k * 11 + 6, none⟩ = some (av1) := by have := h2 6 _ rfl; simpa using this
      have a7 : wr.cell? ⟨ga, k * 11 + 7, none⟩ = some (.int .i64 t.guard.op) := by have := h2 7 _ rfl; simpa using this
      have a8 : wr.cell? ⟨ga, k * 11 + 8, none⟩ = some (av2) := by have := h2 8 _ rfl; simpa using this
      have a9 : wr.cell? ⟨ga, k * 11 + 9, none⟩ = some (.string ⟨t.a.toArray⟩) := by have := h2 9 _ rfl; simpa using this
      have a10 : wr.cell? ⟨ga, k * 11 + 10, none⟩ = some (.string ⟨t.b.toArray⟩) := by have := h2 10 _ rfl; simpa using this
      have hit := hi t (List.mem_of_getElem? ht)
      have HS := hide (take_snoc ht)
      obtain ⟨xs, hrow, hold⟩ := HV.out
      have hln : (l.take k).length = k := by simp; omega
      obtain ⟨ta, tc, rfl⟩ := slice_form hrow.1
      rw [hln] at hrow
      have HROW := hide hrow
      have HOLD := hide hold
      have C := hide (copy_Premise t av0 av1 av2 wr hs0 hs1 hs2 hit)
      clear h2 ht hrow hold HV hit hs0 hs1 hs2
      rw [hln]
      go_wp2_with fail
      refine C.out.mono ?_
      rintro _ w2 ⟨v2, rfl, ⟨u0, u1, u2, rfl, hv0, hv1, hv2⟩, hb⟩
      obtain ⟨p0, r0, rfl⟩ := rows_form hv0
      have HV0 := hide (Strs.mono hv0 fun g hg => Nat.le_trans HW.out.size hg)
      obtain ⟨p1, r1, rfl⟩ := rows_form hv1
      have HV1 := hide (Terms.mono hv1 fun g hg => Nat.le_trans HW.out.size hg)
      obtain ⟨p2, r2, rfl⟩ := rows_form hv2
      have HV2 := hide (Terms.mono hv2 fun g hg => Nat.le_trans HW.out.size hg)
      have HROW2 := hide (HROW.out.keep (Kp.of_below (T := [107]) hb) (by decide))
      have HC : Hid (∀ w0 w' b ys, Kp [9, 109] (New w) w0 w' → cPrem (New w) w0 b ys → cPrem (New w) w' b ys) := hide (fun _ _ _ _ hk h => h.keep hk (by decide) (by decide))
      have HOLD2 : Hid (∀ i b, (l.take k)[i]? = some b → cPrem (New w) w2 b ((xs.drop (i * 11)).take 11)) := hide fun i b hi => HC.out _ _ _ _ (Kp.of_below hb) (HOLD.out i b hi)
      have HW2 := hide (HW.out.trans (hb.mono HW.out.size))
      have HZ : Hid (∀ g, w2.heap.size ≤ g → New w g) := hide fun g hg => Nat.le_trans HW2.out.size hg
      have HSZ := hide HW2.out.size
      clear hb hv0 hv1 hv2 HROW HOLD HW C
      go_wp2_with (at_builtin; go_must (refine wpList_append_two _ rfl _ _ 95 rfl 0 107 iM _ 11 160 Tryz.underlying95 hiM zM0 zM1 zM2 rfl (by decide) _ _ _ rfl (HROW2.out.1.alloc _) ⟨w2.heap.size, 0, none⟩ 1 [.int .i64 t.kind, .bool t.lit.neg, .string ⟨t.lit.pred.toArray⟩, .slice p0 t.lit.args.length r0, .bool t.lit.hasValue, .int .i64 t.lit.value, .slice p1 t.guard.left.length r1, .int .i64 t.guard.op, .slice p2 t.guard.right.length r2, .string ⟨t.a.toArray⟩, .string ⟨t.b.toArray⟩] rfl rfl (news_at rfl) (by simp [Value.oneCell']) (by unfold maxLen; omega) (by omega) (Nat.zero_le _) ?_))
      intro g cap w4 hown hg
      obtain ⟨p1, p2⟩ := put_more (T := [9, 109]) (B := w.heap.size) (a := t) rfl (by rw [hln]; exact HROW2.out) HOLD2.out ⟨_, _, _, rfl, HV0.out, HV1.out, HV2.out⟩ rfl HZ.out HC.out (by decide) (fun g hg => hg) HSZ.out (by rw [hln]; exact hown) hg
      rw [HS.out, hln] at p1
      have P1 := hide p1
      have P2 := hide (HW2.out.trans p2)
      clear p1 p2 hown hg HROW2 HOLD2 HW2 HZ HSZ HC
      go_wp2_with fail
      go_roundw
      case rel => exact ⟨k + 1, by omega, by go_num, P1, P2⟩
      case measure => simp [intOf]; omega
    · have ek : k = l.length := by omega
      subst ek
      rw [List.take_length] at HV
      go_wp2_with fail
      go_ret
      exact ⟨_, rfl, HV.out, HW.out⟩

set_option maxRecDepth 100000 in
set_option maxHeartbeats 3200000 in
theorem copy_RuleText {Z : Nat → Prop} (a : RuleM) (x0 : Value) (x1 : Value) (w : World) (hx0 : Prems Z w a.body x0) (hx1 : Strs Z w a.head.args x1) (hl : SmallRule a) :
    Calls Tryz.prog 64 #[.agg #[.string ⟨a.name.toArray⟩, .string ⟨a.source.toArray⟩, .int .i64 a.day, .int .i64 a.till, x0, .int .i64 a.arrow, .bool a.head.neg, .string ⟨a.head.pred.toArray⟩, x1, .bool a.head.hasValue, .int .i64 a.head.value]] w fun e w' => ∃ v, e = .returned v ∧ vRule (New w) w' a v ∧ Below w.heap.size w w' := by
  obtain ⟨xa0, xc0, rfl⟩ := rows_form hx0
  have HX0 := hide hx0
  clear hx0
  obtain ⟨xa1, xc1, rfl⟩ := rows_form hx1
  have HX1 := hide hx1
  clear hx1
  go_enter Tryz.func64, Tryz.ntmps64
  have B0 : Below w.heap.size w ((w.alloc (.cells #[.string ⟨a.name.toArray⟩, .string ⟨a.source.toArray⟩, .int .i64 a.day, .int .i64 a.till, .slice xa0 a.body.length xc0, .int .i64 a.arrow, .bool a.head.neg, .string ⟨a.head.pred.toArray⟩, .slice xa1 a.head.args.length xc1, .bool a.head.hasValue, .int .i64 a.head.value] 100)).alloc (.cells #[.string ⟨#[]⟩, .string ⟨#[]⟩, .int .i64 0, .int .i64 0, .slice none 0 0, .int .i64 0, .bool false, .string ⟨#[]⟩, .slice none 0 0, .bool false, .int .i64 0] 100)) := below_two w _ _
  have G0 : Hid (w.heap.size ≤ w.heap.size) := hide (Nat.le_refl _)
  have G1 : Hid (w.heap.size ≤ w.heap.size + 1) := hide (Nat.le_succ _)
  have NE_0_1 : Hid (w.heap.size ≠ w.heap.size + 1) := hide (by omega)
  have NE_1_0 : Hid (w.heap.size + 1 ≠ w.heap.size) := hide (by omega)
  have LB0 := hide (two_new w (.cells #[.string ⟨a.name.toArray⟩, .string ⟨a.source.toArray⟩, .int .i64 a.day, .int .i64 a.till, .slice xa0 a.body.length xc0, .int .i64 a.arrow, .bool a.head.neg, .string ⟨a.head.pred.toArray⟩, .slice xa1 a.head.args.length xc1, .bool a.head.hasValue, .int .i64 a.head.value] 100) (.cells #[.string ⟨#[]⟩, .string ⟨#[]⟩, .int .i64 0, .int .i64 0, .slice none 0 0, .int .i64 0, .bool false, .string ⟨#[]⟩, .slice none 0 0, .bool false, .int .i64 0] 100)).1
  have LB1 := hide (two_new w (.cells #[.string ⟨a.name.toArray⟩, .string ⟨a.source.toArray⟩, .int .i64 a.day, .int .i64 a.till, .slice xa0 a.body.length xc0, .int .i64 a.arrow, .bool a.head.neg, .string ⟨a.head.pred.toArray⟩, .slice xa1 a.head.args.length xc1, .bool a.head.hasValue, .int .i64 a.head.value] 100) (.cells #[.string ⟨#[]⟩, .string ⟨#[]⟩, .int .i64 0, .int .i64 0, .slice none 0 0, .int .i64 0, .bool false, .string ⟨#[]⟩, .slice none 0 0, .bool false, .int .i64 0] 100)).2
  have HX0_0 := hide (Prems.keep HX0.out (Kp.of_below (T := inner) B0))
  clear HX0
  have HX1_0 := hide (Strs.keep HX1.out (Kp.of_below (T := [9]) B0) (by decide))
  clear HX1
  have BW := hide B0
  clear B0
  have C93 := hide (copy_CopyPremises _ _ _ HX0_0.out hl.1 hl.2.1)
  go_wp2_with fail
  refine C93.out.mono ?_
  rintro _ w93 ⟨v93, rfl, hv, hb⟩
  have LB0_93 := hide ((hb.block _ (loc_lt LB0.out)).trans LB0.out)
  clear LB0
  have LB1_93 := hide ((hb.block _ (loc_lt LB1.out)).trans LB1.out)
  clear LB1
  have HX0_0_93 := hide (Prems.keep HX0_0.out (Kp.of_below (T := inner) hb))
  clear HX0_0
  have HX1_0_93 := hide (Strs.keep HX1_0.out (Kp.of_below (T := [9]) hb) (by decide))
  clear HX1_0
  have hv0_93 := hv
  clear hv
  obtain ⟨p0_93, r0_93, rfl⟩ := rows_form hv0_93
  have V0_93 := hide (Prems.mono hv0_93 fun g hg => Nat.le_trans BW.out.size hg)
  clear hv0_93
  have BW93 := hide (BW.out.trans (hb.mono BW.out.size))
  clear hb C93 BW
  obtain ⟨z94_0, z94_1, z94_2, z94_3, z94_4, z94_5, z94_6, z94_7, z94_8, z94_9, z94_10, y94⟩ := row11 LB0_93.out
  obtain ⟨z95_0, z95_1, z95_2, z95_3, z95_4, z95_5, z95_6, z95_7, z95_8, z95_9, z95_10, y95⟩ := row11 LB1_93.out
  have x96 := NE_0_1.out
  have x97 := NE_1_0.out
  have HX0_0_93_98 := hide (Prems.keep HX0_0_93.out (Kp.setLoc (T := inner) (i := 4) (v := .slice p0_93 a.body.length r0_93) LB0_93.out (by decide)))
  clear HX0_0_93
  have HX1_0_93_98 := hide (Strs.keep HX1_0_93.out (Kp.setLoc (T := [9]) (i := 4) (v := .slice p0_93 a.body.length r0_93) LB0_93.out (by decide)) (by decide))
  clear HX1_0_93
  have V0_93_98 := hide (Prems.keep V0_93.out (Kp.setLoc (T := inner) (i := 4) (v := .slice p0_93 a.body.length r0_93) LB0_93.out (by decide)))
  clear V0_93
  have LB0_93_98 := hide (loc_set (i := 4) (v := .slice p0_93 a.body.length r0_93) LB0_93.out)
  have LB1_93_98 := hide (loc_other (p := ⟨w.heap.size, 4, none⟩) (v := .slice p0_93 a.body.length r0_93) LB1_93.out NE_1_0.out)
  clear LB0_93 LB1_93
  have BW98 := hide (below_set BW93.out G0.out 4 (.slice p0_93 a.body.length r0_93))
  clear BW93
  have C99 := hide (copy_LitText _ _ _ HX1_0_93_98.out hl.2.2)
  go_wp2_with fail
  refine C99.out.mono ?_
  rintro _ w99 ⟨v99, rfl, hv, hb⟩
  clear z94_0 z94_1 z94_2 z94_3 z94_4 z94_5 z94_6 z94_7 z94_8 z94_9 z94_10 y94 z95_0 z95_1 z95_2 z95_3 z95_4 z95_5 z95_6 z95_7 z95_8 z95_9 z95_10 y95 x96 x97
  have LB0_93_98_99 := hide ((hb.block _ (loc_lt LB0_93_98.out)).trans LB0_93_98.out)
  clear LB0_93_98
  have LB1_93_98_99 := hide ((hb.block _ (loc_lt LB1_93_98.out)).trans LB1_93_98.out)
  clear LB1_93_98
  have HX0_0_93_98_99 := hide (Prems.keep HX0_0_93_98.out (Kp.of_below (T := inner) hb))
  clear HX0_0_93_98
  have HX1_0_93_98_99 := hide (Strs.keep HX1_0_93_98.out (Kp.of_below (T := [9]) hb) (by decide))
  clear HX1_0_93_98
  have V0_93_98_99 := hide (Prems.keep V0_93_98.out (Kp.of_below (T := inner) hb))
  clear V0_93_98
  obtain ⟨u0_99, rfl, hv0_99⟩ := hv
  obtain ⟨p0_99, r0_99, rfl⟩ := rows_form hv0_99
  have V0_99 := hide (Strs.mono hv0_99 fun g hg => Nat.le_trans BW98.out.size hg)
  clear hv0_99
  have BW99 := hide (BW98.out.trans (hb.mono BW98.out.size))
  clear hb C99 BW98
  obtain ⟨z100_0, z100_1, z100_2, z100_3, z100_4, z100_5, z100_6, z100_7, z100_8, z100_9, z100_10, y100⟩ := row11 LB0_93_98_99.out
  obtain ⟨z101_0, z101_1, z101_2, z101_3, z101_4, z101_5, z101_6, z101_7, z101_8, z101_9, z101_10, y101⟩ := row11 LB1_93_98_99.out
  have x102 := NE_0_1.out
  have x103 := NE_1_0.out
  have HX0_0_93_98_99_104 := hide (Prems.keep HX0_0_93_98_99.out (Kp.setLoc (T := inner) (i := 6) (v := .bool a.head.neg) LB0_93_98_99.out (by decide)))
  clear HX0_0_93_98_99
  have HX1_0_93_98_99_104 := hide (Strs.keep HX1_0_93_98_99.out (Kp.setLoc (T := [9]) (i := 6) (v := .bool a.head.neg) LB0_93_98_99.out (by decide)) (by decide))
  clear HX1_0_93_98_99
  have V0_93_98_99_104 := hide (Prems.keep V0_93_98_99.out (Kp.setLoc (T := inner) (i := 6) (v := .bool a.head.neg) LB0_93_98_99.out (by decide)))
  clear V0_93_98_99
  have V0_99_104 := hide (Strs.keep V0_99.out (Kp.setLoc (T := [9]) (i := 6) (v := .bool a.head.neg) LB0_93_98_99.out (by decide)) (by decide))
  clear V0_99
  have LB0_93_98_99_104 := hide (loc_set (i := 6) (v := .bool a.head.neg) LB0_93_98_99.out)
  have LB1_93_98_99_104 := hide (loc_other (p := ⟨w.heap.size, 6, none⟩) (v := .bool a.head.neg) LB1_93_98_99.out NE_1_0.out)
  clear LB0_93_98_99 LB1_93_98_99
  have BW104 := hide (below_set BW99.out G0.out 6 (.bool a.head.neg))
  clear BW99
  have HX0_0_93_98_99_104_105 := hide (Prems.keep HX0_0_93_98_99_104.out (Kp.setLoc (T := inner) (i := 7) (v := .string ⟨a.head.pred.toArray⟩) LB0_93_98_99_104.out (by decide)))
  clear HX0_0_93_98_99_104
  have HX1_0_93_98_99_104_105 := hide (Strs.keep HX1_0_93_98_99_104.out (Kp.setLoc (T := [9]) (i := 7) (v := .string ⟨a.head.pred.toArray⟩) LB0_93_98_99_104.out (by decide)) (by decide))
  clear HX1_0_93_98_99_104
  have V0_93_98_99_104_105 := hide (Prems.keep V0_93_98_99_104.out (Kp.setLoc (T := inner) (i := 7) (v := .string ⟨a.head.pred.toArray⟩) LB0_93_98_99_104.out (by decide)))
  clear V0_93_98_99_104
  have V0_99_104_105 := hide (Strs.keep V0_99_104.out (Kp.setLoc (T := [9]) (i := 7) (v := .string ⟨a.head.pred.toArray⟩) LB0_93_98_99_104.out (by decide)) (by decide))
  clear V0_99_104
  have LB0_93_98_99_104_105 := hide (loc_set (i := 7) (v := .string ⟨a.head.pred.toArray⟩) LB0_93_98_99_104.out)
  have LB1_93_98_99_104_105 := hide (loc_other (p := ⟨w.heap.size, 7, none⟩) (v := .string ⟨a.head.pred.toArray⟩) LB1_93_98_99_104.out NE_1_0.out)
  clear LB0_93_98_99_104 LB1_93_98_99_104
  have BW105 := hide (below_set BW104.out G0.out 7 (.string ⟨a.head.pred.toArray⟩))
  clear BW104
  have HX0_0_93_98_99_104_105_106 := hide (Prems.keep HX0_0_93_98_99_104_105.out (Kp.setLoc (T := inner) (i := 8) (v := .slice p0_99 a.head.args.length r0_99) LB0_93_98_99_104_105.out (by decide)))
  clear HX0_0_93_98_99_104_105
  have HX1_0_93_98_99_104_105_106 := hide (Strs.keep HX1_0_93_98_99_104_105.out (Kp.setLoc (T := [9]) (i := 8) (v := .slice p0_99 a.head.args.length r0_99) LB0_93_98_99_104_105.out (by decide)) (by decide))
  clear HX1_0_93_98_99_104_105
  have V0_93_98_99_104_105_106 := hide (Prems.keep V0_93_98_99_104_105.out (Kp.setLoc (T := inner) (i := 8) (v := .slice p0_99 a.head.args.length r0_99) LB0_93_98_99_104_105.out (by decide)))
  clear V0_93_98_99_104_105
  have V0_99_104_105_106 := hide (Strs.keep V0_99_104_105.out (Kp.setLoc (T := [9]) (i := 8) (v := .slice p0_99 a.head.args.length r0_99) LB0_93_98_99_104_105.out (by decide)) (by decide))
  clear V0_99_104_105
  have LB0_93_98_99_104_105_106 := hide (loc_set (i := 8) (v := .slice p0_99 a.head.args.length r0_99) LB0_93_98_99_104_105.out)
  have LB1_93_98_99_104_105_106 := hide (loc_other (p := ⟨w.heap.size, 8, none⟩) (v := .slice p0_99 a.head.args.length r0_99) LB1_93_98_99_104_105.out NE_1_0.out)
  clear LB0_93_98_99_104_105 LB1_93_98_99_104_105
  have BW106 := hide (below_set BW105.out G0.out 8 (.slice p0_99 a.head.args.length r0_99))
  clear BW105
  have HX0_0_93_98_99_104_105_106_107 := hide (Prems.keep HX0_0_93_98_99_104_105_106.out (Kp.setLoc (T := inner) (i := 9) (v := .bool a.head.hasValue) LB0_93_98_99_104_105_106.out (by decide)))
  clear HX0_0_93_98_99_104_105_106
  have HX1_0_93_98_99_104_105_106_107 := hide (Strs.keep HX1_0_93_98_99_104_105_106.out (Kp.setLoc (T := [9]) (i := 9) (v := .bool a.head.hasValue) LB0_93_98_99_104_105_106.out (by decide)) (by decide))
  clear HX1_0_93_98_99_104_105_106
  have V0_93_98_99_104_105_106_107 := hide (Prems.keep V0_93_98_99_104_105_106.out (Kp.setLoc (T := inner) (i := 9) (v := .bool a.head.hasValue) LB0_93_98_99_104_105_106.out (by decide)))
  clear V0_93_98_99_104_105_106
  have V0_99_104_105_106_107 := hide (Strs.keep V0_99_104_105_106.out (Kp.setLoc (T := [9]) (i := 9) (v := .bool a.head.hasValue) LB0_93_98_99_104_105_106.out (by decide)) (by decide))
  clear V0_99_104_105_106
  have LB0_93_98_99_104_105_106_107 := hide (loc_set (i := 9) (v := .bool a.head.hasValue) LB0_93_98_99_104_105_106.out)
  have LB1_93_98_99_104_105_106_107 := hide (loc_other (p := ⟨w.heap.size, 9, none⟩) (v := .bool a.head.hasValue) LB1_93_98_99_104_105_106.out NE_1_0.out)
  clear LB0_93_98_99_104_105_106 LB1_93_98_99_104_105_106
  have BW107 := hide (below_set BW106.out G0.out 9 (.bool a.head.hasValue))
  clear BW106
  have HX0_0_93_98_99_104_105_106_107_108 := hide (Prems.keep HX0_0_93_98_99_104_105_106_107.out (Kp.setLoc (T := inner) (i := 10) (v := .int .i64 a.head.value) LB0_93_98_99_104_105_106_107.out (by decide)))
  clear HX0_0_93_98_99_104_105_106_107
  have HX1_0_93_98_99_104_105_106_107_108 := hide (Strs.keep HX1_0_93_98_99_104_105_106_107.out (Kp.setLoc (T := [9]) (i := 10) (v := .int .i64 a.head.value) LB0_93_98_99_104_105_106_107.out (by decide)) (by decide))
  clear HX1_0_93_98_99_104_105_106_107
  have V0_93_98_99_104_105_106_107_108 := hide (Prems.keep V0_93_98_99_104_105_106_107.out (Kp.setLoc (T := inner) (i := 10) (v := .int .i64 a.head.value) LB0_93_98_99_104_105_106_107.out (by decide)))
  clear V0_93_98_99_104_105_106_107
  have V0_99_104_105_106_107_108 := hide (Strs.keep V0_99_104_105_106_107.out (Kp.setLoc (T := [9]) (i := 10) (v := .int .i64 a.head.value) LB0_93_98_99_104_105_106_107.out (by decide)) (by decide))
  clear V0_99_104_105_106_107
  have LB0_93_98_99_104_105_106_107_108 := hide (loc_set (i := 10) (v := .int .i64 a.head.value) LB0_93_98_99_104_105_106_107.out)
  have LB1_93_98_99_104_105_106_107_108 := hide (loc_other (p := ⟨w.heap.size, 10, none⟩) (v := .int .i64 a.head.value) LB1_93_98_99_104_105_106_107.out NE_1_0.out)
  clear LB0_93_98_99_104_105_106_107 LB1_93_98_99_104_105_106_107
  have BW108 := hide (below_set BW107.out G0.out 10 (.int .i64 a.head.value))
  clear BW107
  go_wp2_with fail
  have hz := (And.intro z100_0 (And.intro z100_1 (And.intro z100_2 (And.intro z100_3 (And.intro z100_4 (And.intro z100_5 (And.intro z100_6 (And.intro z100_7 (And.intro z100_8 (And.intro z100_9 (And.intro z100_10 (And.intro y100 (And.intro z101_0 (And.intro z101_1 (And.intro z101_2 (And.intro z101_3 (And.intro z101_4 (And.intro z101_5 (And.intro z101_6 (And.intro z101_7 (And.intro z101_8 (And.intro z101_9 (And.intro z101_10 (And.intro y101 (And.intro x102 x103)))))))))))))))))))))))))
  simp [bodyPost, results, Tryz.results64, go_sem, hz]
  have HX0_0_93_98_99_104_105_106_107_108_109 := hide (Prems.keep HX0_0_93_98_99_104_105_106_107_108.out (Kp.setLoc (T := inner) (i := 0) (v := .string ⟨a.name.toArray⟩) LB1_93_98_99_104_105_106_107_108.out (by decide)))
  clear HX0_0_93_98_99_104_105_106_107_108
  have HX1_0_93_98_99_104_105_106_107_108_109 := hide (Strs.keep HX1_0_93_98_99_104_105_106_107_108.out (Kp.setLoc (T := [9]) (i := 0) (v := .string ⟨a.name.toArray⟩) LB1_93_98_99_104_105_106_107_108.out (by decide)) (by decide))
  clear HX1_0_93_98_99_104_105_106_107_108
  have V0_93_98_99_104_105_106_107_108_109 := hide (Prems.keep V0_93_98_99_104_105_106_107_108.out (Kp.setLoc (T := inner) (i := 0) (v := .string ⟨a.name.toArray⟩) LB1_93_98_99_104_105_106_107_108.out (by decide)))
  clear V0_93_98_99_104_105_106_107_108
  have V0_99_104_105_106_107_108_109 := hide (Strs.keep V0_99_104_105_106_107_108.out (Kp.setLoc (T := [9]) (i := 0) (v := .string ⟨a.name.toArray⟩) LB1_93_98_99_104_105_106_107_108.out (by decide)) (by decide))
  clear V0_99_104_105_106_107_108
  have LB0_93_98_99_104_105_106_107_108_109 := hide (loc_other (p := ⟨w.heap.size + 1, 0, none⟩) (v := .string ⟨a.name.toArray⟩) LB0_93_98_99_104_105_106_107_108.out NE_0_1.out)
  have LB1_93_98_99_104_105_106_107_108_109 := hide (loc_set (i := 0) (v := .string ⟨a.name.toArray⟩) LB1_93_98_99_104_105_106_107_108.out)
  clear LB0_93_98_99_104_105_106_107_108 LB1_93_98_99_104_105_106_107_108
  have BW109 := hide (below_set BW108.out G1.out 0 (.string ⟨a.name.toArray⟩))
  clear BW108
  have HX0_0_93_98_99_104_105_106_107_108_109_110 := hide (Prems.keep HX0_0_93_98_99_104_105_106_107_108_109.out (Kp.setLoc (T := inner) (i := 1) (v := .string ⟨a.source.toArray⟩) LB1_93_98_99_104_105_106_107_108_109.out (by decide)))
  clear HX0_0_93_98_99_104_105_106_107_108_109
  have HX1_0_93_98_99_104_105_106_107_108_109_110 := hide (Strs.keep HX1_0_93_98_99_104_105_106_107_108_109.out (Kp.setLoc (T := [9]) (i := 1) (v := .string ⟨a.source.toArray⟩) LB1_93_98_99_104_105_106_107_108_109.out (by decide)) (by decide))
  clear HX1_0_93_98_99_104_105_106_107_108_109
  have V0_93_98_99_104_105_106_107_108_109_110 := hide (Prems.keep V0_93_98_99_104_105_106_107_108_109.out (Kp.setLoc (T := inner) (i := 1) (v := .string ⟨a.source.toArray⟩) LB1_93_98_99_104_105_106_107_108_109.out (by decide)))
  clear V0_93_98_99_104_105_106_107_108_109
  have V0_99_104_105_106_107_108_109_110 := hide (Strs.keep V0_99_104_105_106_107_108_109.out (Kp.setLoc (T := [9]) (i := 1) (v := .string ⟨a.source.toArray⟩) LB1_93_98_99_104_105_106_107_108_109.out (by decide)) (by decide))
  clear V0_99_104_105_106_107_108_109
  have LB0_93_98_99_104_105_106_107_108_109_110 := hide (loc_other (p := ⟨w.heap.size + 1, 1, none⟩) (v := .string ⟨a.source.toArray⟩) LB0_93_98_99_104_105_106_107_108_109.out NE_0_1.out)
  have LB1_93_98_99_104_105_106_107_108_109_110 := hide (loc_set (i := 1) (v := .string ⟨a.source.toArray⟩) LB1_93_98_99_104_105_106_107_108_109.out)
  clear LB0_93_98_99_104_105_106_107_108_109 LB1_93_98_99_104_105_106_107_108_109
  have BW110 := hide (below_set BW109.out G1.out 1 (.string ⟨a.source.toArray⟩))
  clear BW109
  have HX0_0_93_98_99_104_105_106_107_108_109_110_111 := hide (Prems.keep HX0_0_93_98_99_104_105_106_107_108_109_110.out (Kp.setLoc (T := inner) (i := 2) (v := .int .i64 a.day) LB1_93_98_99_104_105_106_107_108_109_110.out (by decide)))
  clear HX0_0_93_98_99_104_105_106_107_108_109_110
  have HX1_0_93_98_99_104_105_106_107_108_109_110_111 := hide (Strs.keep HX1_0_93_98_99_104_105_106_107_108_109_110.out (Kp.setLoc (T := [9]) (i := 2) (v := .int .i64 a.day) LB1_93_98_99_104_105_106_107_108_109_110.out (by decide)) (by decide))
  clear HX1_0_93_98_99_104_105_106_107_108_109_110
  have V0_93_98_99_104_105_106_107_108_109_110_111 := hide (Prems.keep V0_93_98_99_104_105_106_107_108_109_110.out (Kp.setLoc (T := inner) (i := 2) (v := .int .i64 a.day) LB1_93_98_99_104_105_106_107_108_109_110.out (by decide)))
  clear V0_93_98_99_104_105_106_107_108_109_110
  have V0_99_104_105_106_107_108_109_110_111 := hide (Strs.keep V0_99_104_105_106_107_108_109_110.out (Kp.setLoc (T := [9]) (i := 2) (v := .int .i64 a.day) LB1_93_98_99_104_105_106_107_108_109_110.out (by decide)) (by decide))
  clear V0_99_104_105_106_107_108_109_110
  have LB0_93_98_99_104_105_106_107_108_109_110_111 := hide (loc_other (p := ⟨w.heap.size + 1, 2, none⟩) (v := .int .i64 a.day) LB0_93_98_99_104_105_106_107_108_109_110.out NE_0_1.out)
  have LB1_93_98_99_104_105_106_107_108_109_110_111 := hide (loc_set (i := 2) (v := .int .i64 a.day) LB1_93_98_99_104_105_106_107_108_109_110.out)
  clear LB0_93_98_99_104_105_106_107_108_109_110 LB1_93_98_99_104_105_106_107_108_109_110
  have BW111 := hide (below_set BW110.out G1.out 2 (.int .i64 a.day))
  clear BW110
  have HX0_0_93_98_99_104_105_106_107_108_109_110_111_112 := hide (Prems.keep HX0_0_93_98_99_104_105_106_107_108_109_110_111.out (Kp.setLoc (T := inner) (i := 3) (v := .int .i64 a.till) LB1_93_98_99_104_105_106_107_108_109_110_111.out (by decide)))
  clear HX0_0_93_98_99_104_105_106_107_108_109_110_111
  have HX1_0_93_98_99_104_105_106_107_108_109_110_111_112 := hide (Strs.keep HX1_0_93_98_99_104_105_106_107_108_109_110_111.out (Kp.setLoc (T := [9]) (i := 3) (v := .int .i64 a.till) LB1_93_98_99_104_105_106_107_108_109_110_111.out (by decide)) (by decide))
  clear HX1_0_93_98_99_104_105_106_107_108_109_110_111
  have V0_93_98_99_104_105_106_107_108_109_110_111_112 := hide (Prems.keep V0_93_98_99_104_105_106_107_108_109_110_111.out (Kp.setLoc (T := inner) (i := 3) (v := .int .i64 a.till) LB1_93_98_99_104_105_106_107_108_109_110_111.out (by decide)))
  clear V0_93_98_99_104_105_106_107_108_109_110_111
  have V0_99_104_105_106_107_108_109_110_111_112 := hide (Strs.keep V0_99_104_105_106_107_108_109_110_111.out (Kp.setLoc (T := [9]) (i := 3) (v := .int .i64 a.till) LB1_93_98_99_104_105_106_107_108_109_110_111.out (by decide)) (by decide))
  clear V0_99_104_105_106_107_108_109_110_111
  have LB0_93_98_99_104_105_106_107_108_109_110_111_112 := hide (loc_other (p := ⟨w.heap.size + 1, 3, none⟩) (v := .int .i64 a.till) LB0_93_98_99_104_105_106_107_108_109_110_111.out NE_0_1.out)
  have LB1_93_98_99_104_105_106_107_108_109_110_111_112 := hide (loc_set (i := 3) (v := .int .i64 a.till) LB1_93_98_99_104_105_106_107_108_109_110_111.out)
  clear LB0_93_98_99_104_105_106_107_108_109_110_111 LB1_93_98_99_104_105_106_107_108_109_110_111
  have BW112 := hide (below_set BW111.out G1.out 3 (.int .i64 a.till))
  clear BW111
  have HX0_0_93_98_99_104_105_106_107_108_109_110_111_112_113 := hide (Prems.keep HX0_0_93_98_99_104_105_106_107_108_109_110_111_112.out (Kp.setLoc (T := inner) (i := 4) (v := .slice p0_93 a.body.length r0_93) LB1_93_98_99_104_105_106_107_108_109_110_111_112.out (by decide)))
  clear HX0_0_93_98_99_104_105_106_107_108_109_110_111_112
  have HX1_0_93_98_99_104_105_106_107_108_109_110_111_112_113 := hide (Strs.keep HX1_0_93_98_99_104_105_106_107_108_109_110_111_112.out (Kp.setLoc (T := [9]) (i := 4) (v := .slice p0_93 a.body.length r0_93) LB1_93_98_99_104_105_106_107_108_109_110_111_112.out (by decide)) (by decide))
  clear HX1_0_93_98_99_104_105_106_107_108_109_110_111_112
  have V0_93_98_99_104_105_106_107_108_109_110_111_112_113 := hide (Prems.keep V0_93_98_99_104_105_106_107_108_109_110_111_112.out (Kp.setLoc (T := inner) (i := 4) (v := .slice p0_93 a.body.length r0_93) LB1_93_98_99_104_105_106_107_108_109_110_111_112.out (by decide)))
  clear V0_93_98_99_104_105_106_107_108_109_110_111_112
  have V0_99_104_105_106_107_108_109_110_111_112_113 := hide (Strs.keep V0_99_104_105_106_107_108_109_110_111_112.out (Kp.setLoc (T := [9]) (i := 4) (v := .slice p0_93 a.body.length r0_93) LB1_93_98_99_104_105_106_107_108_109_110_111_112.out (by decide)) (by decide))
  clear V0_99_104_105_106_107_108_109_110_111_112
  have LB0_93_98_99_104_105_106_107_108_109_110_111_112_113 := hide (loc_other (p := ⟨w.heap.size + 1, 4, none⟩) (v := .slice p0_93 a.body.length r0_93) LB0_93_98_99_104_105_106_107_108_109_110_111_112.out NE_0_1.out)
  have LB1_93_98_99_104_105_106_107_108_109_110_111_112_113 := hide (loc_set (i := 4) (v := .slice p0_93 a.body.length r0_93) LB1_93_98_99_104_105_106_107_108_109_110_111_112.out)
  clear LB0_93_98_99_104_105_106_107_108_109_110_111_112 LB1_93_98_99_104_105_106_107_108_109_110_111_112
  have BW113 := hide (below_set BW112.out G1.out 4 (.slice p0_93 a.body.length r0_93))
  clear BW112
  have HX0_0_93_98_99_104_105_106_107_108_109_110_111_112_113_114 := hide (Prems.keep HX0_0_93_98_99_104_105_106_107_108_109_110_111_112_113.out (Kp.setLoc (T := inner) (i := 5) (v := .int .i64 a.arrow) LB1_93_98_99_104_105_106_107_108_109_110_111_112_113.out (by decide)))
  clear HX0_0_93_98_99_104_105_106_107_108_109_110_111_112_113
  have HX1_0_93_98_99_104_105_106_107_108_109_110_111_112_113_114 := hide (Strs.keep HX1_0_93_98_99_104_105_106_107_108_109_110_111_112_113.out (Kp.setLoc (T := [9]) (i := 5) (v := .int .i64 a.arrow) LB1_93_98_99_104_105_106_107_108_109_110_111_112_113.out (by decide)) (by decide))
  clear HX1_0_93_98_99_104_105_106_107_108_109_110_111_112_113
  have V0_93_98_99_104_105_106_107_108_109_110_111_112_113_114 := hide (Prems.keep V0_93_98_99_104_105_106_107_108_109_110_111_112_113.out (Kp.setLoc (T := inner) (i := 5) (v := .int .i64 a.arrow) LB1_93_98_99_104_105_106_107_108_109_110_111_112_113.out (by decide)))
  clear V0_93_98_99_104_105_106_107_108_109_110_111_112_113
  have V0_99_104_105_106_107_108_109_110_111_112_113_114 := hide (Strs.keep V0_99_104_105_106_107_108_109_110_111_112_113.out (Kp.setLoc (T := [9]) (i := 5) (v := .int .i64 a.arrow) LB1_93_98_99_104_105_106_107_108_109_110_111_112_113.out (by decide)) (by decide))
  clear V0_99_104_105_106_107_108_109_110_111_112_113
  have LB0_93_98_99_104_105_106_107_108_109_110_111_112_113_114 := hide (loc_other (p := ⟨w.heap.size + 1, 5, none⟩) (v := .int .i64 a.arrow) LB0_93_98_99_104_105_106_107_108_109_110_111_112_113.out NE_0_1.out)
  have LB1_93_98_99_104_105_106_107_108_109_110_111_112_113_114 := hide (loc_set (i := 5) (v := .int .i64 a.arrow) LB1_93_98_99_104_105_106_107_108_109_110_111_112_113.out)
  clear LB0_93_98_99_104_105_106_107_108_109_110_111_112_113 LB1_93_98_99_104_105_106_107_108_109_110_111_112_113
  have BW114 := hide (below_set BW113.out G1.out 5 (.int .i64 a.arrow))
  clear BW113
  have HX0_0_93_98_99_104_105_106_107_108_109_110_111_112_113_114_115 := hide (Prems.keep HX0_0_93_98_99_104_105_106_107_108_109_110_111_112_113_114.out (Kp.setLoc (T := inner) (i := 6) (v := .bool a.head.neg) LB1_93_98_99_104_105_106_107_108_109_110_111_112_113_114.out (by decide)))
  clear HX0_0_93_98_99_104_105_106_107_108_109_110_111_112_113_114
  have HX1_0_93_98_99_104_105_106_107_108_109_110_111_112_113_114_115 := hide (Strs.keep HX1_0_93_98_99_104_105_106_107_108_109_110_111_112_113_114.out (Kp.setLoc (T := [9]) (i := 6) (v := .bool a.head.neg) LB1_93_98_99_104_105_106_107_108_109_110_111_112_113_114.out (by decide)) (by decide))
  clear HX1_0_93_98_99_104_105_106_107_108_109_110_111_112_113_114
  have V0_93_98_99_104_105_106_107_108_109_110_111_112_113_114_115 := hide (Prems.keep V0_93_98_99_104_105_106_107_108_109_110_111_112_113_114.out (Kp.setLoc (T := inner) (i := 6) (v := .bool a.head.neg) LB1_93_98_99_104_105_106_107_108_109_110_111_112_113_114.out (by decide)))
  clear V0_93_98_99_104_105_106_107_108_109_110_111_112_113_114
  have V0_99_104_105_106_107_108_109_110_111_112_113_114_115 := hide (Strs.keep V0_99_104_105_106_107_108_109_110_111_112_113_114.out (Kp.setLoc (T := [9]) (i := 6) (v := .bool a.head.neg) LB1_93_98_99_104_105_106_107_108_109_110_111_112_113_114.out (by decide)) (by decide))
  clear V0_99_104_105_106_107_108_109_110_111_112_113_114
  have LB0_93_98_99_104_105_106_107_108_109_110_111_112_113_114_115 := hide (loc_other (p := ⟨w.heap.size + 1, 6, none⟩) (v := .bool a.head.neg) LB0_93_98_99_104_105_106_107_108_109_110_111_112_113_114.out NE_0_1.out)
  have LB1_93_98_99_104_105_106_107_108_109_110_111_112_113_114_115 := hide (loc_set (i := 6) (v := .bool a.head.neg) LB1_93_98_99_104_105_106_107_108_109_110_111_112_113_114.out)
  clear LB0_93_98_99_104_105_106_107_108_109_110_111_112_113_114 LB1_93_98_99_104_105_106_107_108_109_110_111_112_113_114
  have BW115 := hide (below_set BW114.out G1.out 6 (.bool a.head.neg))
  clear BW114
  have HX0_0_93_98_99_104_105_106_107_108_109_110_111_112_113_114_115_116 := hide (Prems.keep HX0_0_93_98_99_104_105_106_107_108_109_110_111_112_113_114_115.out (Kp.setLoc (T := inner) (i := 7) (v := .string ⟨a.head.pred.toArray⟩) LB1_93_98_99_104_105_106_107_108_109_110_111_112_113_114_115.out (by decide)))
  clear HX0_0_93_98_99_104_105_106_107_108_109_110_111_112_113_114_115
  have HX1_0_93_98_99_104_105_106_107_108_109_110_111_112_113_114_115_116 := hide (Strs.keep HX1_0_93_98_99_104_105_106_107_108_109_110_111_112_113_114_115.out (Kp.setLoc (T := [9]) (i := 7) (v := .string ⟨a.head.pred.toArray⟩) LB1_93_98_99_104_105_106_107_108_109_110_111_112_113_114_115.out (by decide)) (by decide))
  clear HX1_0_93_98_99_104_105_106_107_108_109_110_111_112_113_114_115
  have V0_93_98_99_104_105_106_107_108_109_110_111_112_113_114_115_116 := hide (Prems.keep V0_93_98_99_104_105_106_107_108_109_110_111_112_113_114_115.out (Kp.setLoc (T := inner) (i := 7) (v := .string ⟨a.head.pred.toArray⟩) LB1_93_98_99_104_105_106_107_108_109_110_111_112_113_114_115.out (by decide)))
  clear V0_93_98_99_104_105_106_107_108_109_110_111_112_113_114_115
  have V0_99_104_105_106_107_108_109_110_111_112_113_114_115_116 := hide (Strs.keep V0_99_104_105_106_107_108_109_110_111_112_113_114_115.out (Kp.setLoc (T := [9]) (i := 7) (v := .string ⟨a.head.pred.toArray⟩) LB1_93_98_99_104_105_106_107_108_109_110_111_112_113_114_115.out (by decide)) (by decide))
  clear V0_99_104_105_106_107_108_109_110_111_112_113_114_115
  have LB0_93_98_99_104_105_106_107_108_109_110_111_112_113_114_115_116 := hide (loc_other (p := ⟨w.heap.size + 1, 7, none⟩) (v := .string ⟨a.head.pred.toArray⟩) LB0_93_98_99_104_105_106_107_108_109_110_111_112_113_114_115.out NE_0_1.out)
  have LB1_93_98_99_104_105_106_107_108_109_110_111_112_113_114_115_116 := hide (loc_set (i := 7) (v := .string ⟨a.head.pred.toArray⟩) LB1_93_98_99_104_105_106_107_108_109_110_111_112_113_114_115.out)
  clear LB0_93_98_99_104_105_106_107_108_109_110_111_112_113_114_115 LB1_93_98_99_104_105_106_107_108_109_110_111_112_113_114_115
  have BW116 := hide (below_set BW115.out G1.out 7 (.string ⟨a.head.pred.toArray⟩))
  clear BW115
  have HX0_0_93_98_99_104_105_106_107_108_109_110_111_112_113_114_115_116_117 := hide (Prems.keep HX0_0_93_98_99_104_105_106_107_108_109_110_111_112_113_114_115_116.out (Kp.setLoc (T := inner) (i := 8) (v := .slice p0_99 a.head.args.length r0_99) LB1_93_98_99_104_105_106_107_108_109_110_111_112_113_114_115_116.out (by decide)))
  clear HX0_0_93_98_99_104_105_106_107_108_109_110_111_112_113_114_115_116
  have HX1_0_93_98_99_104_105_106_107_108_109_110_111_112_113_114_115_116_117 := hide (Strs.keep HX1_0_93_98_99_104_105_106_107_108_109_110_111_112_113_114_115_116.out (Kp.setLoc (T := [9]) (i := 8) (v := .slice p0_99 a.head.args.length r0_99) LB1_93_98_99_104_105_106_107_108_109_110_111_112_113_114_115_116.out (by decide)) (by decide))
  clear HX1_0_93_98_99_104_105_106_107_108_109_110_111_112_113_114_115_116
  have V0_93_98_99_104_105_106_107_108_109_110_111_112_113_114_115_116_117 := hide (Prems.keep V0_93_98_99_104_105_106_107_108_109_110_111_112_113_114_115_116.out (Kp.setLoc (T := inner) (i := 8) (v := .slice p0_99 a.head.args.length r0_99) LB1_93_98_99_104_105_106_107_108_109_110_111_112_113_114_115_116.out (by decide)))
  clear V0_93_98_99_104_105_106_107_108_109_110_111_112_113_114_115_116
  have V0_99_104_105_106_107_108_109_110_111_112_113_114_115_116_117 := hide (Strs.keep V0_99_104_105_106_107_108_109_110_111_112_113_114_115_116.out (Kp.setLoc (T := [9]) (i := 8) (v := .slice p0_99 a.head.args.length r0_99) LB1_93_98_99_104_105_106_107_108_109_110_111_112_113_114_115_116.out (by decide)) (by decide))
  clear V0_99_104_105_106_107_108_109_110_111_112_113_114_115_116
  have LB0_93_98_99_104_105_106_107_108_109_110_111_112_113_114_115_116_117 := hide (loc_other (p := ⟨w.heap.size + 1, 8, none⟩) (v := .slice p0_99 a.head.args.length r0_99) LB0_93_98_99_104_105_106_107_108_109_110_111_112_113_114_115_116.out NE_0_1.out)
  have LB1_93_98_99_104_105_106_107_108_109_110_111_112_113_114_115_116_117 := hide (loc_set (i := 8) (v := .slice p0_99 a.head.args.length r0_99) LB1_93_98_99_104_105_106_107_108_109_110_111_112_113_114_115_116.out)
  clear LB0_93_98_99_104_105_106_107_108_109_110_111_112_113_114_115_116 LB1_93_98_99_104_105_106_107_108_109_110_111_112_113_114_115_116
  have BW117 := hide (below_set BW116.out G1.out 8 (.slice p0_99 a.head.args.length r0_99))
  clear BW116
  have HX0_0_93_98_99_104_105_106_107_108_109_110_111_112_113_114_115_116_117_118 := hide (Prems.keep HX0_0_93_98_99_104_105_106_107_108_109_110_111_112_113_114_115_116_117.out (Kp.setLoc (T := inner) (i := 9) (v := .bool a.head.hasValue) LB1_93_98_99_104_105_106_107_108_109_110_111_112_113_114_115_116_117.out (by decide)))
  clear HX0_0_93_98_99_104_105_106_107_108_109_110_111_112_113_114_115_116_117
  have HX1_0_93_98_99_104_105_106_107_108_109_110_111_112_113_114_115_116_117_118 := hide (Strs.keep HX1_0_93_98_99_104_105_106_107_108_109_110_111_112_113_114_115_116_117.out (Kp.setLoc (T := [9]) (i := 9) (v := .bool a.head.hasValue) LB1_93_98_99_104_105_106_107_108_109_110_111_112_113_114_115_116_117.out (by decide)) (by decide))
  clear HX1_0_93_98_99_104_105_106_107_108_109_110_111_112_113_114_115_116_117
  have V0_93_98_99_104_105_106_107_108_109_110_111_112_113_114_115_116_117_118 := hide (Prems.keep V0_93_98_99_104_105_106_107_108_109_110_111_112_113_114_115_116_117.out (Kp.setLoc (T := inner) (i := 9) (v := .bool a.head.hasValue) LB1_93_98_99_104_105_106_107_108_109_110_111_112_113_114_115_116_117.out (by decide)))
  clear V0_93_98_99_104_105_106_107_108_109_110_111_112_113_114_115_116_117
  have V0_99_104_105_106_107_108_109_110_111_112_113_114_115_116_117_118 := hide (Strs.keep V0_99_104_105_106_107_108_109_110_111_112_113_114_115_116_117.out (Kp.setLoc (T := [9]) (i := 9) (v := .bool a.head.hasValue) LB1_93_98_99_104_105_106_107_108_109_110_111_112_113_114_115_116_117.out (by decide)) (by decide))
  clear V0_99_104_105_106_107_108_109_110_111_112_113_114_115_116_117
  have LB0_93_98_99_104_105_106_107_108_109_110_111_112_113_114_115_116_117_118 := hide (loc_other (p := ⟨w.heap.size + 1, 9, none⟩) (v := .bool a.head.hasValue) LB0_93_98_99_104_105_106_107_108_109_110_111_112_113_114_115_116_117.out NE_0_1.out)
  have LB1_93_98_99_104_105_106_107_108_109_110_111_112_113_114_115_116_117_118 := hide (loc_set (i := 9) (v := .bool a.head.hasValue) LB1_93_98_99_104_105_106_107_108_109_110_111_112_113_114_115_116_117.out)
  clear LB0_93_98_99_104_105_106_107_108_109_110_111_112_113_114_115_116_117 LB1_93_98_99_104_105_106_107_108_109_110_111_112_113_114_115_116_117
  have BW118 := hide (below_set BW117.out G1.out 9 (.bool a.head.hasValue))
  clear BW117
  have HX0_0_93_98_99_104_105_106_107_108_109_110_111_112_113_114_115_116_117_118_119 := hide (Prems.keep HX0_0_93_98_99_104_105_106_107_108_109_110_111_112_113_114_115_116_117_118.out (Kp.setLoc (T := inner) (i := 10) (v := .int .i64 a.head.value) LB1_93_98_99_104_105_106_107_108_109_110_111_112_113_114_115_116_117_118.out (by decide)))
  clear HX0_0_93_98_99_104_105_106_107_108_109_110_111_112_113_114_115_116_117_118
  have HX1_0_93_98_99_104_105_106_107_108_109_110_111_112_113_114_115_116_117_118_119 := hide (Strs.keep HX1_0_93_98_99_104_105_106_107_108_109_110_111_112_113_114_115_116_117_118.out (Kp.setLoc (T := [9]) (i := 10) (v := .int .i64 a.head.value) LB1_93_98_99_104_105_106_107_108_109_110_111_112_113_114_115_116_117_118.out (by decide)) (by decide))
  clear HX1_0_93_98_99_104_105_106_107_108_109_110_111_112_113_114_115_116_117_118
  have V0_93_98_99_104_105_106_107_108_109_110_111_112_113_114_115_116_117_118_119 := hide (Prems.keep V0_93_98_99_104_105_106_107_108_109_110_111_112_113_114_115_116_117_118.out (Kp.setLoc (T := inner) (i := 10) (v := .int .i64 a.head.value) LB1_93_98_99_104_105_106_107_108_109_110_111_112_113_114_115_116_117_118.out (by decide)))
  clear V0_93_98_99_104_105_106_107_108_109_110_111_112_113_114_115_116_117_118
  have V0_99_104_105_106_107_108_109_110_111_112_113_114_115_116_117_118_119 := hide (Strs.keep V0_99_104_105_106_107_108_109_110_111_112_113_114_115_116_117_118.out (Kp.setLoc (T := [9]) (i := 10) (v := .int .i64 a.head.value) LB1_93_98_99_104_105_106_107_108_109_110_111_112_113_114_115_116_117_118.out (by decide)) (by decide))
  clear V0_99_104_105_106_107_108_109_110_111_112_113_114_115_116_117_118
  have LB0_93_98_99_104_105_106_107_108_109_110_111_112_113_114_115_116_117_118_119 := hide (loc_other (p := ⟨w.heap.size + 1, 10, none⟩) (v := .int .i64 a.head.value) LB0_93_98_99_104_105_106_107_108_109_110_111_112_113_114_115_116_117_118.out NE_0_1.out)
  have LB1_93_98_99_104_105_106_107_108_109_110_111_112_113_114_115_116_117_118_119 := hide (loc_set (i := 10) (v := .int .i64 a.head.value) LB1_93_98_99_104_105_106_107_108_109_110_111_112_113_114_115_116_117_118.out)
  clear LB0_93_98_99_104_105_106_107_108_109_110_111_112_113_114_115_116_117_118 LB1_93_98_99_104_105_106_107_108_109_110_111_112_113_114_115_116_117_118
  have BW119 := hide (below_set BW118.out G1.out 10 (.int .i64 a.head.value))
  clear BW118
  exact ⟨⟨_, _, rfl, V0_93_98_99_104_105_106_107_108_109_110_111_112_113_114_115_116_117_118_119.out, V0_99_104_105_106_107_108_109_110_111_112_113_114_115_116_117_118_119.out⟩, BW119.out⟩

set_option maxRecDepth 100000 in
set_option maxHeartbeats 3200000 in
theorem copy_CopyRuleTexts {Z : Nat → Prop} (l : List RuleM) (va : Value) (w : World) (ha : Rows Z 100 11 (cRule Z) w l va) (hl : l.length ≤ 1000000000) (hi : ∀ a, a ∈ l → SmallRule a) :
    Calls Tryz.prog 42 #[va] w fun e w' => ∃ v, e = .returned v ∧ Rows (New w) 100 11 (cRule (New w)) w' l v ∧ Below w.heap.size w w' := by
  obtain ⟨iM, hiM, zM0, zM1, zM2⟩ := info_parts' info_rule
  have HA := hide ha
  obtain ⟨aa, ca, rfl⟩ := rows_form ha
  clear ha
  go_enter Tryz.func42, Tryz.ntmps42
  go_wp2_with fail
  go_loopw [3, 4] (fun x z wr => ∃ k : Nat, k ≤ l.length ∧ z = .int .i64 k ∧ Hid (Rows (New w) 100 11 (cRule (New w)) wr (l.take k) x) ∧ Hid (Below w.heap.size w wr)) (fun _ z _ => l.length - (intOf z).toNat)
  case atStart => exact ⟨0, by omega, rfl, hide (Rows.nil _ _ _ _ _), hide (Below.refl _ w)⟩
  case round =>
    obtain ⟨k, hk, rfl, HV, HW⟩ := hrel
    by_cases hlt : k < l.length
    · obtain ⟨t, ht⟩ : ∃ t, l[k]? = some t := ⟨l[k], by simp [hlt]⟩
      obtain ⟨ga, xa, ya, e1, _, ⟨av0, av1, rfl, hs0, hs1⟩, h2⟩ := (HA.out.keep (T := [100]) (Kp.of_below HW.out) (by decide) (fun _ _ h => h.keep (Kp.of_below HW.out))).at ht
      simp only [Value.slice.injEq] at e1
      obtain ⟨rfl, _, rfl⟩ := e1
      have a0 : wr.cell? ⟨ga, k * 11, none⟩ = some (.string ⟨t.name.toArray⟩) := by have := h2 0 _ rfl; simpa using this
      have a1 : wr.cell? ⟨ga, k * 11 + 1, none⟩ = some (.string ⟨t.source.toArray⟩) := by have := h2 1 _ rfl; simpa using this
      have a2 : wr.cell? ⟨ga, k * 11 + 2, none⟩ = some (.int .i64 t.day) := by have := h2 2 _ rfl; simpa using this
      have a3 : wr.cell? ⟨ga, k * 11 + 3, none⟩ = some (.int .i64 t.till) := by have := h2 3 _ rfl; simpa using this
      have a4 : wr.cell? ⟨ga, k * 11 + 4, none⟩ = some (av0) := by have := h2 4 _ rfl; simpa using this
      have a5 : wr.cell? ⟨ga, k * 11 + 5, none⟩ = some (.int .i64 t.arrow) := by have := h2 5 _ rfl; simpa using this
      have a6 : wr.cell? ⟨ga, k * 11 + 6, none⟩ = some (.bool t.head.neg) := by have := h2 6 _ rfl; simpa using this
      have a7 : wr.cell? ⟨ga, k * 11 + 7, none⟩ = some (.string ⟨t.head.pred.toArray⟩) := by have := h2 7 _ rfl; simpa using this
      have a8 : wr.cell? ⟨ga, k * 11 + 8, none⟩ = some (av1) := by have := h2 8 _ rfl; simpa using this
      have a9 : wr.cell? ⟨ga, k * 11 + 9, none⟩ = some (.bool t.head.hasValue) := by have := h2 9 _ rfl; simpa using this
      have a10 : wr.cell? ⟨ga, k * 11 + 10, none⟩ = some (.int .i64 t.head.value) := by have := h2 10 _ rfl; simpa using this
      have hit := hi t (List.mem_of_getElem? ht)
      have HS := hide (take_snoc ht)
      obtain ⟨xs, hrow, hold⟩ := HV.out
      have hln : (l.take k).length = k := by simp; omega
      obtain ⟨ta, tc, rfl⟩ := slice_form hrow.1
      rw [hln] at hrow
      have HROW := hide hrow
      have HOLD := hide hold
      have C := hide (copy_RuleText t av0 av1 wr hs0 hs1 hit)
      clear h2 ht hrow hold HV hit hs0 hs1
      rw [hln]
      go_wp2_with fail
      refine C.out.mono ?_
      rintro _ w2 ⟨v2, rfl, ⟨u0, u1, rfl, hv0, hv1⟩, hb⟩
      obtain ⟨p0, r0, rfl⟩ := rows_form hv0
      have HV0 := hide (Prems.mono hv0 fun g hg => Nat.le_trans HW.out.size hg)
      obtain ⟨p1, r1, rfl⟩ := rows_form hv1
      have HV1 := hide (Strs.mono hv1 fun g hg => Nat.le_trans HW.out.size hg)
      have HROW2 := hide (HROW.out.keep (Kp.of_below (T := [100]) hb) (by decide))
      have HC : Hid (∀ w0 w' b ys, Kp inner (New w) w0 w' → cRule (New w) w0 b ys → cRule (New w) w' b ys) := hide (fun _ _ _ _ hk h => h.keep hk)
      have HOLD2 : Hid (∀ i b, (l.take k)[i]? = some b → cRule (New w) w2 b ((xs.drop (i * 11)).take 11)) := hide fun i b hi => HC.out _ _ _ _ (Kp.of_below hb) (HOLD.out i b hi)
      have HW2 := hide (HW.out.trans (hb.mono HW.out.size))
      have HZ : Hid (∀ g, w2.heap.size ≤ g → New w g) := hide fun g hg => Nat.le_trans HW2.out.size hg
      have HSZ := hide HW2.out.size
      clear hb hv0 hv1 HROW HOLD HW C
      go_wp2_with (at_builtin; go_must (refine wpList_append_two _ rfl _ _ 27 rfl 0 100 iM _ 11 144 Tryz.underlying27 hiM zM0 zM1 zM2 rfl (by decide) _ _ _ rfl (HROW2.out.1.alloc _) ⟨w2.heap.size, 0, none⟩ 1 [.string ⟨t.name.toArray⟩, .string ⟨t.source.toArray⟩, .int .i64 t.day, .int .i64 t.till, .slice p0 t.body.length r0, .int .i64 t.arrow, .bool t.head.neg, .string ⟨t.head.pred.toArray⟩, .slice p1 t.head.args.length r1, .bool t.head.hasValue, .int .i64 t.head.value] rfl rfl (news_at rfl) (by simp [Value.oneCell']) (by unfold maxLen; omega) (by omega) (Nat.zero_le _) ?_))
      intro g cap w4 hown hg
      obtain ⟨p1, p2⟩ := put_more (T := inner) (B := w.heap.size) (a := t) rfl (by rw [hln]; exact HROW2.out) HOLD2.out ⟨_, _, rfl, HV0.out, HV1.out⟩ rfl HZ.out HC.out (by decide) (fun g hg => hg) HSZ.out (by rw [hln]; exact hown) hg
      rw [HS.out, hln] at p1
      have P1 := hide p1
      have P2 := hide (HW2.out.trans p2)
      clear p1 p2 hown hg HROW2 HOLD2 HW2 HZ HSZ HC
      go_wp2_with fail
      go_roundw
      case rel => exact ⟨k + 1, by omega, by go_num, P1, P2⟩
      case measure => simp [intOf]; omega
    · have ek : k = l.length := by omega
      subst ek
      rw [List.take_length] at HV
      go_wp2_with fail
      go_ret
      exact ⟨_, rfl, HV.out, HW.out⟩

end Go.Proofs.YthnjmfkiohgkkaaGreatDoor.Sy
