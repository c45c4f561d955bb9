/- Predicates, classes, sources, exceptions, totals. By program. -/
import Derived.Test.YthnjmfkiohgkkaaGreatDoorLit
namespace Go.Proofs.YthnjmfkiohgkkaaGreatDoor.Sy
open Go.RowKit

section
variable (R : Nat) (L : List Tok) (N : Nat) (s : RS) (st : St9) (w : World)

set_option maxRecDepth 100000 in
set_option maxHeartbeats 1600000 in
theorem pred_any (sort : Nat) (h : Rd R L N s st w) (o : Out PredM) (ho : predM (kt L) sort s = o) :
    Calls Tryz.prog 124 #[.pointer (some ⟨R, 0, none⟩), .int .i64 sort] w (Ends R L N st w (vPred (New w)) o) := by
  have HO := hide ho
  have H := hide h
  have F := hide (Fq.refl R w)
  clear h ho
  go_enter Tryz.func124, Tryz.ntmps124
  have B1 : Below _ _ ((w).alloc (.cells #[.string ⟨#[]⟩, .int .i64 0, .slice none 0 0, .slice none 0 0] 92)) := (Below.refl _ _).alloc (Nat.le_refl _) _
  have Q1 : Hid (R < w.heap.size) := hide H.out.lt
  have G1 : Hid (w.heap.size ≤ w.heap.size) := hide F.out.size
  have LB1 := hide (heap_alloc_new (w) (.cells #[.string ⟨#[]⟩, .int .i64 0, .slice none 0 0, .slice none 0 0] 92))
  have H1 := hide (H.out.below B1)
  have F1 := hide (F.out.trans (Fq.of_below B1))
  clear H F B1
  have C2 := hide (name_any R L N s st _ H1.out _ rfl)
  go_wp2_with fail
  refine C2.out.mono ?_
  intro e w2 he
  rcases he.split with ⟨a2, s2, v2, ho, rfl, hv, hR, hF⟩ | ⟨c, m, ho, rfl, hF⟩
  rotate_left 1
  · exact on_panic rfl (.of_bad (bind_no HO.out ho) (F1.out.trans hF))
  have HO2 := hide (bind_go HO.out ho)
  have LB1_2 := hide (hF.loc LB1.out (Nat.ne_of_gt Q1.out))
  clear LB1
  have H2 := hide hR
  have F2 := hide (F1.out.trans hF)
  cases hv
  clear he ho hR hF C2 H1 F1 HO
  obtain ⟨z3_0, z3_1, z3_2, z3_3, y3⟩ := row4 LB1_2.out
  have C4 := hide (brackets_name R L N s2 st _ H2.out _ rfl)
  go_wp2_with fail
  refine C4.out.mono ?_
  intro e w4 he
  rcases he.split with ⟨a4, s4, v4, ho, rfl, hv, hR, hF⟩ | ⟨c, m, ho, rfl, hF⟩
  rotate_left 1
  · exact on_panic rfl (.of_bad (bind_no HO2.out ho) (F2.out.trans hF))
  clear z3_0 z3_1 z3_2 z3_3 y3
  have HO4 := hide (bind_go HO2.out ho)
  have LB1_2_4 := hide (hF.loc LB1_2.out (Nat.ne_of_gt Q1.out))
  clear LB1_2
  have H4 := hide hR
  have F4 := hide (F2.out.trans hF)
  obtain ⟨p4, r4, rfl⟩ := rows_form hv
  have V4 := hide (Strs.mono hv fun g hg => Nat.le_trans F2.out.size hg)
  clear hv
  clear he ho hR hF C4 H2 F2 HO2
  obtain ⟨z5_0, z5_1, z5_2, z5_3, y5⟩ := row4 LB1_2_4.out
  go_wp2_with fail
  have hz := (And.intro z5_0 (And.intro z5_1 (And.intro z5_2 (And.intro z5_3 y5))))
  simp [bodyPost, results, Tryz.results124, go_sem, hz]
  have V4_6 := hide (Strs.keep V4.out (Kp.setLoc (T := [9]) (i := 0) (v := .string ⟨a2.toArray⟩) LB1_2_4.out (by decide)) (by decide))
  clear V4
  have LB1_2_4_6 := hide (loc_set (i := 0) (v := .string ⟨a2.toArray⟩) LB1_2_4.out)
  clear LB1_2_4
  have H6 := hide (H4.out.setLoc Q1.out 0 (.string ⟨a2.toArray⟩))
  have F6 := hide (F4.out.setLoc G1.out 0 (.string ⟨a2.toArray⟩))
  clear H4 F4
  have V4_6_7 := hide (Strs.keep V4_6.out (Kp.setLoc (T := [9]) (i := 1) (v := .int .i64 sort) LB1_2_4_6.out (by decide)) (by decide))
  clear V4_6
  have LB1_2_4_6_7 := hide (loc_set (i := 1) (v := .int .i64 sort) LB1_2_4_6.out)
  clear LB1_2_4_6
  have H7 := hide (H6.out.setLoc Q1.out 1 (.int .i64 sort))
  have F7 := hide (F6.out.setLoc G1.out 1 (.int .i64 sort))
  clear H6 F6
  have V4_6_7_8 := hide (Strs.keep V4_6_7.out (Kp.setLoc (T := [9]) (i := 2) (v := .slice p4 a4.length r4) LB1_2_4_6_7.out (by decide)) (by decide))
  clear V4_6_7
  have LB1_2_4_6_7_8 := hide (loc_set (i := 2) (v := .slice p4 a4.length r4) LB1_2_4_6_7.out)
  clear LB1_2_4_6_7
  have H8 := hide (H7.out.setLoc Q1.out 2 (.slice p4 a4.length r4))
  have F8 := hide (F7.out.setLoc G1.out 2 (.slice p4 a4.length r4))
  clear H7 F7
  have V4_6_7_8_9 := hide (Strs.keep V4_6_7_8.out (Kp.setLoc (T := [9]) (i := 3) (v := .slice none 0 0) LB1_2_4_6_7_8.out (by decide)) (by decide))
  clear V4_6_7_8
  have LB1_2_4_6_7_8_9 := hide (loc_set (i := 3) (v := .slice none 0 0) LB1_2_4_6_7_8.out)
  clear LB1_2_4_6_7_8
  have H9 := hide (H8.out.setLoc Q1.out 3 (.slice none 0 0))
  have F9 := hide (F8.out.setLoc G1.out 3 (.slice none 0 0))
  clear H8 F8
  exact .of_ok HO4.out (⟨_, _, rfl, V4_6_7_8_9.out, Rows.nil _ _ _ _ _⟩) H9.out F9.out

set_option maxRecDepth 100000 in
set_option maxHeartbeats 1600000 in
theorem plain_any (h : Rd R L N s st w) (o : Out PredM) (ho : predM (kt L) 1 s = o) :
    Calls Tryz.prog 75 #[.pointer (some ⟨R, 0, none⟩)] w (Ends R L N st w (vPred (New w)) o) := by
  have HO := hide ho
  have H := hide h
  have F := hide (Fq.refl R w)
  clear h ho
  go_enter Tryz.func75, Tryz.ntmps75
  have B10 : Below _ _ ((w).alloc (.cells #[.string ⟨#[]⟩, .int .i64 0, .slice none 0 0, .slice none 0 0] 92)) := (Below.refl _ _).alloc (Nat.le_refl _) _
  have Q10 : Hid (R < w.heap.size) := hide H.out.lt
  have G10 : Hid (w.heap.size ≤ w.heap.size) := hide F.out.size
  have LB10 := hide (heap_alloc_new (w) (.cells #[.string ⟨#[]⟩, .int .i64 0, .slice none 0 0, .slice none 0 0] 92))
  have H10 := hide (H.out.below B10)
  have F10 := hide (F.out.trans (Fq.of_below B10))
  clear H F B10
  have C11 := hide (pred_any R L N s st _ 1 H10.out _ rfl)
  go_wp2_with fail
  refine C11.out.mono ?_
  intro e w11 he
  rcases he.split with ⟨a11, s11, v11, ho, rfl, hv, hR, hF⟩ | ⟨c, m, ho, rfl, hF⟩
  rotate_left 1
  · exact on_panic rfl (.of_bad (ho.symm.trans HO.out) (F10.out.trans hF))
  have HO11 := hide (ho.symm.trans HO.out)
  have LB10_11 := hide (hF.loc LB10.out (Nat.ne_of_gt Q10.out))
  clear LB10
  have H11 := hide hR
  have F11 := hide (F10.out.trans hF)
  obtain ⟨kv11, vv11, rfl, hv0_11, hv1_11⟩ := hv
  obtain ⟨p0_11, r0_11, rfl⟩ := rows_form hv0_11
  have V0_11 := hide (Strs.mono hv0_11 fun g hg => Nat.le_trans F10.out.size hg)
  clear hv0_11
  obtain ⟨p1_11, r1_11, rfl⟩ := rows_form hv1_11
  have V1_11 := hide (Moneys.mono hv1_11 fun g hg => Nat.le_trans F10.out.size hg)
  clear hv1_11
  clear he ho hR hF C11 H10 F10 HO
  obtain ⟨z12_0, z12_1, z12_2, z12_3, y12⟩ := row4 LB10_11.out
  go_wp2_with fail
  have hz := (And.intro z12_0 (And.intro z12_1 (And.intro z12_2 (And.intro z12_3 y12))))
  simp [bodyPost, results, Tryz.results75, go_sem, hz]
  have V0_11_13 := hide (Strs.keep V0_11.out (Kp.setLoc (T := [9]) (i := 0) (v := .string ⟨a11.name.toArray⟩) LB10_11.out (by decide)) (by decide))
  clear V0_11
  have V1_11_13 := hide (Moneys.keep V1_11.out (Kp.setLoc (T := [93]) (i := 0) (v := .string ⟨a11.name.toArray⟩) LB10_11.out (by decide)) (by decide))
  clear V1_11
  have LB10_11_13 := hide (loc_set (i := 0) (v := .string ⟨a11.name.toArray⟩) LB10_11.out)
  clear LB10_11
  have H13 := hide (H11.out.setLoc Q10.out 0 (.string ⟨a11.name.toArray⟩))
  have F13 := hide (F11.out.setLoc G10.out 0 (.string ⟨a11.name.toArray⟩))
  clear H11 F11
  have V0_11_13_14 := hide (Strs.keep V0_11_13.out (Kp.setLoc (T := [9]) (i := 1) (v := .int .i64 a11.sort) LB10_11_13.out (by decide)) (by decide))
  clear V0_11_13
  have V1_11_13_14 := hide (Moneys.keep V1_11_13.out (Kp.setLoc (T := [93]) (i := 1) (v := .int .i64 a11.sort) LB10_11_13.out (by decide)) (by decide))
  clear V1_11_13
  have LB10_11_13_14 := hide (loc_set (i := 1) (v := .int .i64 a11.sort) LB10_11_13.out)
  clear LB10_11_13
  have H14 := hide (H13.out.setLoc Q10.out 1 (.int .i64 a11.sort))
  have F14 := hide (F13.out.setLoc G10.out 1 (.int .i64 a11.sort))
  clear H13 F13
  have V0_11_13_14_15 := hide (Strs.keep V0_11_13_14.out (Kp.setLoc (T := [9]) (i := 2) (v := .slice p0_11 a11.kinds.length r0_11) LB10_11_13_14.out (by decide)) (by decide))
  clear V0_11_13_14
  have V1_11_13_14_15 := hide (Moneys.keep V1_11_13_14.out (Kp.setLoc (T := [93]) (i := 2) (v := .slice p0_11 a11.kinds.length r0_11) LB10_11_13_14.out (by decide)) (by decide))
  clear V1_11_13_14
  have LB10_11_13_14_15 := hide (loc_set (i := 2) (v := .slice p0_11 a11.kinds.length r0_11) LB10_11_13_14.out)
  clear LB10_11_13_14
  have H15 := hide (H14.out.setLoc Q10.out 2 (.slice p0_11 a11.kinds.length r0_11))
  have F15 := hide (F14.out.setLoc G10.out 2 (.slice p0_11 a11.kinds.length r0_11))
  clear H14 F14
  have V0_11_13_14_15_16 := hide (Strs.keep V0_11_13_14_15.out (Kp.setLoc (T := [9]) (i := 3) (v := .slice p1_11 a11.values.length r1_11) LB10_11_13_14_15.out (by decide)) (by decide))
  clear V0_11_13_14_15
  have V1_11_13_14_15_16 := hide (Moneys.keep V1_11_13_14_15.out (Kp.setLoc (T := [93]) (i := 3) (v := .slice p1_11 a11.values.length r1_11) LB10_11_13_14_15.out (by decide)) (by decide))
  clear V1_11_13_14_15
  have LB10_11_13_14_15_16 := hide (loc_set (i := 3) (v := .slice p1_11 a11.values.length r1_11) LB10_11_13_14_15.out)
  clear LB10_11_13_14_15
  have H16 := hide (H15.out.setLoc Q10.out 3 (.slice p1_11 a11.values.length r1_11))
  have F16 := hide (F15.out.setLoc G10.out 3 (.slice p1_11 a11.values.length r1_11))
  clear H15 F15
  exact .of_ok HO11.out (⟨_, _, rfl, V0_11_13_14_15_16.out, V1_11_13_14_15_16.out⟩) H16.out F16.out

set_option maxRecDepth 100000 in
set_option maxHeartbeats 1600000 in
theorem number_any (h : Rd R L N s st w) (o : Out PredM) (ho : predM (kt L) 2 s = o) :
    Calls Tryz.prog 76 #[.pointer (some ⟨R, 0, none⟩)] w (Ends R L N st w (vPred (New w)) o) := by
  have HO := hide ho
  have H := hide h
  have F := hide (Fq.refl R w)
  clear h ho
  go_enter Tryz.func76, Tryz.ntmps76
  have B17 : Below _ _ ((w).alloc (.cells #[.string ⟨#[]⟩, .int .i64 0, .slice none 0 0, .slice none 0 0] 92)) := (Below.refl _ _).alloc (Nat.le_refl _) _
  have Q17 : Hid (R < w.heap.size) := hide H.out.lt
  have G17 : Hid (w.heap.size ≤ w.heap.size) := hide F.out.size
  have LB17 := hide (heap_alloc_new (w) (.cells #[.string ⟨#[]⟩, .int .i64 0, .slice none 0 0, .slice none 0 0] 92))
  have H17 := hide (H.out.below B17)
  have F17 := hide (F.out.trans (Fq.of_below B17))
  clear H F B17
  have C18 := hide (pred_any R L N s st _ 2 H17.out _ rfl)
  go_wp2_with fail
  refine C18.out.mono ?_
  intro e w18 he
  rcases he.split with ⟨a18, s18, v18, ho, rfl, hv, hR, hF⟩ | ⟨c, m, ho, rfl, hF⟩
  rotate_left 1
  · exact on_panic rfl (.of_bad (ho.symm.trans HO.out) (F17.out.trans hF))
  have HO18 := hide (ho.symm.trans HO.out)
  have LB17_18 := hide (hF.loc LB17.out (Nat.ne_of_gt Q17.out))
  clear LB17
  have H18 := hide hR
  have F18 := hide (F17.out.trans hF)
  obtain ⟨kv18, vv18, rfl, hv0_18, hv1_18⟩ := hv
  obtain ⟨p0_18, r0_18, rfl⟩ := rows_form hv0_18
  have V0_18 := hide (Strs.mono hv0_18 fun g hg => Nat.le_trans F17.out.size hg)
  clear hv0_18
  obtain ⟨p1_18, r1_18, rfl⟩ := rows_form hv1_18
  have V1_18 := hide (Moneys.mono hv1_18 fun g hg => Nat.le_trans F17.out.size hg)
  clear hv1_18
  clear he ho hR hF C18 H17 F17 HO
  obtain ⟨z19_0, z19_1, z19_2, z19_3, y19⟩ := row4 LB17_18.out
  go_wp2_with fail
  have hz := (And.intro z19_0 (And.intro z19_1 (And.intro z19_2 (And.intro z19_3 y19))))
  simp [bodyPost, results, Tryz.results76, go_sem, hz]
  have V0_18_20 := hide (Strs.keep V0_18.out (Kp.setLoc (T := [9]) (i := 0) (v := .string ⟨a18.name.toArray⟩) LB17_18.out (by decide)) (by decide))
  clear V0_18
  have V1_18_20 := hide (Moneys.keep V1_18.out (Kp.setLoc (T := [93]) (i := 0) (v := .string ⟨a18.name.toArray⟩) LB17_18.out (by decide)) (by decide))
  clear V1_18
  have LB17_18_20 := hide (loc_set (i := 0) (v := .string ⟨a18.name.toArray⟩) LB17_18.out)
  clear LB17_18
  have H20 := hide (H18.out.setLoc Q17.out 0 (.string ⟨a18.name.toArray⟩))
  have F20 := hide (F18.out.setLoc G17.out 0 (.string ⟨a18.name.toArray⟩))
  clear H18 F18
  have V0_18_20_21 := hide (Strs.keep V0_18_20.out (Kp.setLoc (T := [9]) (i := 1) (v := .int .i64 a18.sort) LB17_18_20.out (by decide)) (by decide))
  clear V0_18_20
  have V1_18_20_21 := hide (Moneys.keep V1_18_20.out (Kp.setLoc (T := [93]) (i := 1) (v := .int .i64 a18.sort) LB17_18_20.out (by decide)) (by decide))
  clear V1_18_20
  have LB17_18_20_21 := hide (loc_set (i := 1) (v := .int .i64 a18.sort) LB17_18_20.out)
  clear LB17_18_20
  have H21 := hide (H20.out.setLoc Q17.out 1 (.int .i64 a18.sort))
  have F21 := hide (F20.out.setLoc G17.out 1 (.int .i64 a18.sort))
  clear H20 F20
  have V0_18_20_21_22 := hide (Strs.keep V0_18_20_21.out (Kp.setLoc (T := [9]) (i := 2) (v := .slice p0_18 a18.kinds.length r0_18) LB17_18_20_21.out (by decide)) (by decide))
  clear V0_18_20_21
  have V1_18_20_21_22 := hide (Moneys.keep V1_18_20_21.out (Kp.setLoc (T := [93]) (i := 2) (v := .slice p0_18 a18.kinds.length r0_18) LB17_18_20_21.out (by decide)) (by decide))
  clear V1_18_20_21
  have LB17_18_20_21_22 := hide (loc_set (i := 2) (v := .slice p0_18 a18.kinds.length r0_18) LB17_18_20_21.out)
  clear LB17_18_20_21
  have H22 := hide (H21.out.setLoc Q17.out 2 (.slice p0_18 a18.kinds.length r0_18))
  have F22 := hide (F21.out.setLoc G17.out 2 (.slice p0_18 a18.kinds.length r0_18))
  clear H21 F21
  have V0_18_20_21_22_23 := hide (Strs.keep V0_18_20_21_22.out (Kp.setLoc (T := [9]) (i := 3) (v := .slice p1_18 a18.values.length r1_18) LB17_18_20_21_22.out (by decide)) (by decide))
  clear V0_18_20_21_22
  have V1_18_20_21_22_23 := hide (Moneys.keep V1_18_20_21_22.out (Kp.setLoc (T := [93]) (i := 3) (v := .slice p1_18 a18.values.length r1_18) LB17_18_20_21_22.out (by decide)) (by decide))
  clear V1_18_20_21_22
  have LB17_18_20_21_22_23 := hide (loc_set (i := 3) (v := .slice p1_18 a18.values.length r1_18) LB17_18_20_21_22.out)
  clear LB17_18_20_21_22
  have H23 := hide (H22.out.setLoc Q17.out 3 (.slice p1_18 a18.values.length r1_18))
  have F23 := hide (F22.out.setLoc G17.out 3 (.slice p1_18 a18.values.length r1_18))
  clear H22 F22
  exact .of_ok HO18.out (⟨_, _, rfl, V0_18_20_21_22_23.out, V1_18_20_21_22_23.out⟩) H23.out F23.out

set_option maxRecDepth 100000 in
set_option maxHeartbeats 1600000 in
theorem amountPred_any (h : Rd R L N s st w) (o : Out PredM) (ho : amountPredM FN (kt L) s = o) :
    Calls Tryz.prog 77 #[.pointer (some ⟨R, 0, none⟩)] w (Ends R L N st w (vPred (New w)) o) := by
  have HO := hide ho
  have H := hide h
  have F := hide (Fq.refl R w)
  clear h ho
  go_enter Tryz.func77, Tryz.ntmps77
  have B24 : Below _ _ ((w).alloc (.cells #[.string ⟨#[]⟩, .int .i64 0, .slice none 0 0, .slice none 0 0] 92)) := (Below.refl _ _).alloc (Nat.le_refl _) _
  have Q24 : Hid (R < w.heap.size) := hide H.out.lt
  have G24 : Hid (w.heap.size ≤ w.heap.size) := hide F.out.size
  have LB24 := hide (heap_alloc_new (w) (.cells #[.string ⟨#[]⟩, .int .i64 0, .slice none 0 0, .slice none 0 0] 92))
  have H24 := hide (H.out.below B24)
  have F24 := hide (F.out.trans (Fq.of_below B24))
  clear H F B24
  have C25 := hide (pred_any R L N s st _ 3 H24.out _ rfl)
  go_wp2_with fail
  refine C25.out.mono ?_
  intro e w25 he
  rcases he.split with ⟨a25, s25, v25, ho, rfl, hv, hR, hF⟩ | ⟨c, m, ho, rfl, hF⟩
  rotate_left 1
  · exact on_panic rfl (.of_bad (bind_no HO.out ho) (F24.out.trans hF))
  have HO25 := hide (bind_go HO.out ho)
  have LB24_25 := hide (hF.loc LB24.out (Nat.ne_of_gt Q24.out))
  clear LB24
  have H25 := hide hR
  have F25 := hide (F24.out.trans hF)
  obtain ⟨kv25, vv25, rfl, hv0_25, hv1_25⟩ := hv
  obtain ⟨p0_25, r0_25, rfl⟩ := rows_form hv0_25
  have V0_25 := hide (Strs.mono hv0_25 fun g hg => Nat.le_trans F24.out.size hg)
  clear hv0_25
  obtain ⟨p1_25, r1_25, rfl⟩ := rows_form hv1_25
  have V1_25 := hide (Moneys.mono hv1_25 fun g hg => Nat.le_trans F24.out.size hg)
  clear hv1_25
  clear he ho hR hF C25 H24 F24 HO
  obtain ⟨z26_0, z26_1, z26_2, z26_3, y26⟩ := row4 LB24_25.out
  have B27 : Below _ _ ((w25).alloc (.cells #[.string ⟨a25.name.toArray⟩, .int .i64 a25.sort, .slice p0_25 a25.kinds.length r0_25, .slice p1_25 a25.values.length r1_25] 92)) := (Below.refl _ _).alloc (Nat.le_refl _) _
  have Q27 : Hid (R < w25.heap.size) := hide H25.out.lt
  have G27 : Hid (w.heap.size ≤ w25.heap.size) := hide F25.out.size
  have NE_0_1 : Hid (w.heap.size ≠ w25.heap.size) := hide (Nat.ne_of_lt (loc_lt LB24_25.out))
  have NE_1_0 : Hid (w25.heap.size ≠ w.heap.size) := hide (Nat.ne_of_gt (loc_lt LB24_25.out))
  have LB24_25_27 := hide ((B27.block _ (loc_lt LB24_25.out)).trans LB24_25.out)
  clear LB24_25
  have V0_25_27 := hide (Strs.keep V0_25.out (Kp.of_below (T := [9]) B27) (by decide))
  clear V0_25
  have V1_25_27 := hide (Moneys.keep V1_25.out (Kp.of_below (T := [93]) B27) (by decide))
  clear V1_25
  have LB27 := hide (heap_alloc_new (w25) (.cells #[.string ⟨a25.name.toArray⟩, .int .i64 a25.sort, .slice p0_25 a25.kinds.length r0_25, .slice p1_25 a25.values.length r1_25] 92))
  have H27 := hide (H25.out.below B27)
  have F27 := hide (F25.out.trans (Fq.of_below B27))
  clear H25 F25 B27
  have C28 := hide (wantMark_any R L N s25 st _ [58] H27.out _ rfl)
  go_wp2_with fail
  refine C28.out.mono ?_
  intro e w28 he
  rcases he.split with ⟨a28, s28, v28, ho, rfl, hv, hR, hF⟩ | ⟨c, m, ho, rfl, hF⟩
  rotate_left 1
  · exact on_panic rfl (.of_bad (bind_no HO25.out ho) (F27.out.trans hF))
  clear z26_0 z26_1 z26_2 z26_3 y26
  have HO28 := hide (bind_go HO25.out ho)
  have LB24_25_27_28 := hide (hF.loc LB24_25_27.out (Nat.ne_of_gt Q24.out))
  clear LB24_25_27
  have LB27_28 := hide (hF.loc LB27.out (Nat.ne_of_gt Q27.out))
  clear LB27
  have V0_25_27_28 := hide (Strs.keep V0_25_27.out (Kp.of_fq (T := [9]) hF H27.out (by decide)) (by decide))
  clear V0_25_27
  have V1_25_27_28 := hide (Moneys.keep V1_25_27.out (Kp.of_fq (T := [93]) hF H27.out (by decide)) (by decide))
  clear V1_25_27
  have H28 := hide hR
  have F28 := hide (F27.out.trans hF)
  cases hv
  clear he ho hR hF C28 H27 F27 HO25
  obtain ⟨z29_0, z29_1, z29_2, z29_3, y29⟩ := row4 LB24_25_27_28.out
  obtain ⟨z30_0, z30_1, z30_2, z30_3, y30⟩ := row4 LB27_28.out
  have x31 := NE_0_1.out
  have x32 := NE_1_0.out
  have C33 := hide (list_money_money R L N s28 st _ (moneyM FN (kt L)) (fun s w h => money_any R L N s st w h _ rfl) (commaM (kt L)) (fun s w h => comma_any R L N s st w h _ rfl) (fun s a u => eats_money FN _ s a u) (fun s u => hasMark_eats) 64 H28.out _ rfl)
  go_wp2_with fail
  refine C33.out.mono ?_
  intro e w33 he
  rcases he.split with ⟨a33, s33, v33, ho, rfl, hv, hR, hF⟩ | ⟨c, m, ho, rfl, hF⟩
  rotate_left 1
  · exact on_panic rfl (.of_bad (bind_no HO28.out ho) (F28.out.trans hF))
  clear z29_0 z29_1 z29_2 z29_3 y29 z30_0 z30_1 z30_2 z30_3 y30 x31 x32
  have HO33 := hide (bind_go HO28.out ho)
  have LB24_25_27_28_33 := hide (hF.loc LB24_25_27_28.out (Nat.ne_of_gt Q24.out))
  clear LB24_25_27_28
  have LB27_28_33 := hide (hF.loc LB27_28.out (Nat.ne_of_gt Q27.out))
  clear LB27_28
  have V0_25_27_28_33 := hide (Strs.keep V0_25_27_28.out (Kp.of_fq (T := [9]) hF H28.out (by decide)) (by decide))
  clear V0_25_27_28
  have V1_25_27_28_33 := hide (Moneys.keep V1_25_27_28.out (Kp.of_fq (T := [93]) hF H28.out (by decide)) (by decide))
  clear V1_25_27_28
  have H33 := hide hR
  have F33 := hide (F28.out.trans hF)
  obtain ⟨p33, r33, rfl⟩ := rows_form hv
  have V33 := hide (Moneys.mono hv fun g hg => Nat.le_trans F28.out.size hg)
  clear hv
  clear he ho hR hF C33 H28 F28 HO28
  obtain ⟨z34_0, z34_1, z34_2, z34_3, y34⟩ := row4 LB24_25_27_28_33.out
  obtain ⟨z35_0, z35_1, z35_2, z35_3, y35⟩ := row4 LB27_28_33.out
  have x36 := NE_0_1.out
  have x37 := NE_1_0.out
  have V0_25_27_28_33_38 := hide (Strs.keep V0_25_27_28_33.out (Kp.setLoc (T := [9]) (i := 3) (v := .slice p33 a33.length r33) LB27_28_33.out (by decide)) (by decide))
  clear V0_25_27_28_33
  have V1_25_27_28_33_38 := hide (Moneys.keep V1_25_27_28_33.out (Kp.setLoc (T := [93]) (i := 3) (v := .slice p33 a33.length r33) LB27_28_33.out (by decide)) (by decide))
  clear V1_25_27_28_33
  have V33_38 := hide (Moneys.keep V33.out (Kp.setLoc (T := [93]) (i := 3) (v := .slice p33 a33.length r33) LB27_28_33.out (by decide)) (by decide))
  clear V33
  have LB24_25_27_28_33_38 := hide (loc_other (p := ⟨w25.heap.size, 3, none⟩) (v := .slice p33 a33.length r33) LB24_25_27_28_33.out (NE_0_1.out))
  have LB27_28_33_38 := hide (loc_set (i := 3) (v := .slice p33 a33.length r33) LB27_28_33.out)
  clear LB24_25_27_28_33 LB27_28_33
  have H38 := hide (H33.out.setLoc Q27.out 3 (.slice p33 a33.length r33))
  have F38 := hide (F33.out.setLoc G27.out 3 (.slice p33 a33.length r33))
  clear H33 F33
  go_wp2_with fail
  have hz := (And.intro z34_0 (And.intro z34_1 (And.intro z34_2 (And.intro z34_3 (And.intro y34 (And.intro z35_0 (And.intro z35_1 (And.intro z35_2 (And.intro z35_3 (And.intro y35 (And.intro x36 x37)))))))))))
  simp [bodyPost, results, Tryz.results77, go_sem, hz]
  have V0_25_27_28_33_38_39 := hide (Strs.keep V0_25_27_28_33_38.out (Kp.setLoc (T := [9]) (i := 0) (v := .string ⟨a25.name.toArray⟩) LB24_25_27_28_33_38.out (by decide)) (by decide))
  clear V0_25_27_28_33_38
  have V1_25_27_28_33_38_39 := hide (Moneys.keep V1_25_27_28_33_38.out (Kp.setLoc (T := [93]) (i := 0) (v := .string ⟨a25.name.toArray⟩) LB24_25_27_28_33_38.out (by decide)) (by decide))
  clear V1_25_27_28_33_38
  have V33_38_39 := hide (Moneys.keep V33_38.out (Kp.setLoc (T := [93]) (i := 0) (v := .string ⟨a25.name.toArray⟩) LB24_25_27_28_33_38.out (by decide)) (by decide))
  clear V33_38
  have LB24_25_27_28_33_38_39 := hide (loc_set (i := 0) (v := .string ⟨a25.name.toArray⟩) LB24_25_27_28_33_38.out)
  have LB27_28_33_38_39 := hide (loc_other (p := ⟨w.heap.size, 0, none⟩) (v := .string ⟨a25.name.toArray⟩) LB27_28_33_38.out (NE_1_0.out))
  clear LB24_25_27_28_33_38 LB27_28_33_38
  have H39 := hide (H38.out.setLoc Q24.out 0 (.string ⟨a25.name.toArray⟩))
  have F39 := hide (F38.out.setLoc G24.out 0 (.string ⟨a25.name.toArray⟩))
  clear H38 F38
  have V0_25_27_28_33_38_39_40 := hide (Strs.keep V0_25_27_28_33_38_39.out (Kp.setLoc (T := [9]) (i := 1) (v := .int .i64 a25.sort) LB24_25_27_28_33_38_39.out (by decide)) (by decide))
  clear V0_25_27_28_33_38_39
  have V1_25_27_28_33_38_39_40 := hide (Moneys.keep V1_25_27_28_33_38_39.out (Kp.setLoc (T := [93]) (i := 1) (v := .int .i64 a25.sort) LB24_25_27_28_33_38_39.out (by decide)) (by decide))
  clear V1_25_27_28_33_38_39
  have V33_38_39_40 := hide (Moneys.keep V33_38_39.out (Kp.setLoc (T := [93]) (i := 1) (v := .int .i64 a25.sort) LB24_25_27_28_33_38_39.out (by decide)) (by decide))
  clear V33_38_39
  have LB24_25_27_28_33_38_39_40 := hide (loc_set (i := 1) (v := .int .i64 a25.sort) LB24_25_27_28_33_38_39.out)
  have LB27_28_33_38_39_40 := hide (loc_other (p := ⟨w.heap.size, 1, none⟩) (v := .int .i64 a25.sort) LB27_28_33_38_39.out (NE_1_0.out))
  clear LB24_25_27_28_33_38_39 LB27_28_33_38_39
  have H40 := hide (H39.out.setLoc Q24.out 1 (.int .i64 a25.sort))
  have F40 := hide (F39.out.setLoc G24.out 1 (.int .i64 a25.sort))
  clear H39 F39
  have V0_25_27_28_33_38_39_40_41 := hide (Strs.keep V0_25_27_28_33_38_39_40.out (Kp.setLoc (T := [9]) (i := 2) (v := .slice p0_25 a25.kinds.length r0_25) LB24_25_27_28_33_38_39_40.out (by decide)) (by decide))
  clear V0_25_27_28_33_38_39_40
  have V1_25_27_28_33_38_39_40_41 := hide (Moneys.keep V1_25_27_28_33_38_39_40.out (Kp.setLoc (T := [93]) (i := 2) (v := .slice p0_25 a25.kinds.length r0_25) LB24_25_27_28_33_38_39_40.out (by decide)) (by decide))
  clear V1_25_27_28_33_38_39_40
  have V33_38_39_40_41 := hide (Moneys.keep V33_38_39_40.out (Kp.setLoc (T := [93]) (i := 2) (v := .slice p0_25 a25.kinds.length r0_25) LB24_25_27_28_33_38_39_40.out (by decide)) (by decide))
  clear V33_38_39_40
  have LB24_25_27_28_33_38_39_40_41 := hide (loc_set (i := 2) (v := .slice p0_25 a25.kinds.length r0_25) LB24_25_27_28_33_38_39_40.out)
  have LB27_28_33_38_39_40_41 := hide (loc_other (p := ⟨w.heap.size, 2, none⟩) (v := .slice p0_25 a25.kinds.length r0_25) LB27_28_33_38_39_40.out (NE_1_0.out))
  clear LB24_25_27_28_33_38_39_40 LB27_28_33_38_39_40
  have H41 := hide (H40.out.setLoc Q24.out 2 (.slice p0_25 a25.kinds.length r0_25))
  have F41 := hide (F40.out.setLoc G24.out 2 (.slice p0_25 a25.kinds.length r0_25))
  clear H40 F40
  have V0_25_27_28_33_38_39_40_41_42 := hide (Strs.keep V0_25_27_28_33_38_39_40_41.out (Kp.setLoc (T := [9]) (i := 3) (v := .slice p33 a33.length r33) LB24_25_27_28_33_38_39_40_41.out (by decide)) (by decide))
  clear V0_25_27_28_33_38_39_40_41
  have V1_25_27_28_33_38_39_40_41_42 := hide (Moneys.keep V1_25_27_28_33_38_39_40_41.out (Kp.setLoc (T := [93]) (i := 3) (v := .slice p33 a33.length r33) LB24_25_27_28_33_38_39_40_41.out (by decide)) (by decide))
  clear V1_25_27_28_33_38_39_40_41
  have V33_38_39_40_41_42 := hide (Moneys.keep V33_38_39_40_41.out (Kp.setLoc (T := [93]) (i := 3) (v := .slice p33 a33.length r33) LB24_25_27_28_33_38_39_40_41.out (by decide)) (by decide))
  clear V33_38_39_40_41
  have LB24_25_27_28_33_38_39_40_41_42 := hide (loc_set (i := 3) (v := .slice p33 a33.length r33) LB24_25_27_28_33_38_39_40_41.out)
  have LB27_28_33_38_39_40_41_42 := hide (loc_other (p := ⟨w.heap.size, 3, none⟩) (v := .slice p33 a33.length r33) LB27_28_33_38_39_40_41.out (NE_1_0.out))
  clear LB24_25_27_28_33_38_39_40_41 LB27_28_33_38_39_40_41
  have H42 := hide (H41.out.setLoc Q24.out 3 (.slice p33 a33.length r33))
  have F42 := hide (F41.out.setLoc G24.out 3 (.slice p33 a33.length r33))
  clear H41 F41
  exact .of_ok HO33.out (⟨_, _, rfl, V0_25_27_28_33_38_39_40_41_42.out, V33_38_39_40_41_42.out⟩) H42.out F42.out

set_option maxRecDepth 100000 in
set_option maxHeartbeats 1600000 in
theorem class_any (h : Rd R L N s st w) (o : Out (List Bytes)) (ho : classM (kt L) s = o) :
    Calls Tryz.prog 79 #[.pointer (some ⟨R, 0, none⟩)] w (Ends R L N st w (Strs (New w)) o) := by
  have HO := hide ho
  have H := hide h
  have F := hide (Fq.refl R w)
  clear h ho
  go_enter Tryz.func79, Tryz.ntmps79
  have C43 := hide (list_string_name R L N s st _ (nameM (kt L)) (fun s w h => name_any R L N s st w h _ rfl) (commaM (kt L)) (fun s w h => comma_any R L N s st w h _ rfl) (fun s a u => eats_name _ s a u) (fun s u => hasMark_eats) 16 H.out _ rfl)
  go_wp2_with fail
  refine C43.out.mono ?_
  intro e w43 he
  rcases he.split with ⟨a43, s43, v43, ho, rfl, hv, hR, hF⟩ | ⟨c, m, ho, rfl, hF⟩
  rotate_left 1
  · exact on_panic rfl (.of_bad (bind_no HO.out ho) (F.out.trans hF))
  have HO43 := hide (bind_go HO.out ho)
  have H43 := hide hR
  have F43 := hide (F.out.trans hF)
  obtain ⟨p43, r43, rfl⟩ := rows_form hv
  have V43 := hide (Strs.mono hv fun g hg => Nat.le_trans F.out.size hg)
  clear hv
  clear he ho hR hF C43 H F HO
  by_cases hl : a43.length = 1
  · have HO := hide (ite_t HO43.out (by simp [hl]))
    have hl' : ((a43.length : Nat) : Int) = 1 := by omega
    clear HO43
    have CF := hide (fail_any R L N s43 st _ H43.out 51)
    go_wp2_with fail
    refine CF.out.mono ?_
    rintro _ w9 ⟨rfl, hF⟩
    exact on_panic rfl (.of_bad HO.out (F43.out.trans hF))
  · have HO := hide (ite_f HO43.out (by simp [hl]))
    have hl' : ¬ ((a43.length : Nat) : Int) = 1 := by omega
    clear HO43
    go_wp2_with fail
    go_ret
    exact .of_ok HO.out V43.out H43.out F43.out

set_option maxRecDepth 100000 in
set_option maxHeartbeats 1600000 in
theorem source_any (h : Rd R L N s st w) (o : Out (Bytes × Int)) (ho : sourceM FN (kt L) s = o) :
    Calls Tryz.prog 81 #[.pointer (some ⟨R, 0, none⟩)] w (Ends R L N st w vSrc o) := by
  have HO := hide ho
  have H := hide h
  have F := hide (Fq.refl R w)
  clear h ho
  go_enter Tryz.func81, Tryz.ntmps81
  have B44 : Below _ _ ((w).alloc (.cells #[.string ⟨#[]⟩, .int .i64 0] 126)) := (Below.refl _ _).alloc (Nat.le_refl _) _
  have Q44 : Hid (R < w.heap.size) := hide H.out.lt
  have G44 : Hid (w.heap.size ≤ w.heap.size) := hide F.out.size
  have LB44 := hide (heap_alloc_new (w) (.cells #[.string ⟨#[]⟩, .int .i64 0] 126))
  have H44 := hide (H.out.below B44)
  have F44 := hide (F.out.trans (Fq.of_below B44))
  clear H F B44
  have C45 := hide (name_any R L N s st _ H44.out _ rfl)
  go_wp2_with fail
  refine C45.out.mono ?_
  intro e w45 he
  rcases he.split with ⟨a45, s45, v45, ho, rfl, hv, hR, hF⟩ | ⟨c, m, ho, rfl, hF⟩
  rotate_left 1
  · exact on_panic rfl (.of_bad (bind_no HO.out ho) (F44.out.trans hF))
  have HO45 := hide (bind_go HO.out ho)
  have LB44_45 := hide (hF.loc LB44.out (Nat.ne_of_gt Q44.out))
  clear LB44
  have H45 := hide hR
  have F45 := hide (F44.out.trans hF)
  cases hv
  clear he ho hR hF C45 H44 F44 HO
  obtain ⟨z46_0, z46_1, y46⟩ := row2 LB44_45.out
  have C47 := hide (wantWord_any R L N s45 st _ [114, 97, 110, 107] H45.out _ rfl)
  go_wp2_with fail
  refine C47.out.mono ?_
  intro e w47 he
  rcases he.split with ⟨a47, s47, v47, ho, rfl, hv, hR, hF⟩ | ⟨c, m, ho, rfl, hF⟩
  rotate_left 1
  · exact on_panic rfl (.of_bad (bind_no HO45.out ho) (F45.out.trans hF))
  clear z46_0 z46_1 y46
  have HO47 := hide (bind_go HO45.out ho)
  have LB44_45_47 := hide (hF.loc LB44_45.out (Nat.ne_of_gt Q44.out))
  clear LB44_45
  have H47 := hide hR
  have F47 := hide (F45.out.trans hF)
  cases hv
  clear he ho hR hF C47 H45 F45 HO45
  obtain ⟨z48_0, z48_1, y48⟩ := row2 LB44_45_47.out
  have C49 := hide (int_any R L N s47 st _ 0 1000 H47.out _ rfl)
  go_wp2_with fail
  refine C49.out.mono ?_
  intro e w49 he
  rcases he.split with ⟨a49, s49, v49, ho, rfl, hv, hR, hF⟩ | ⟨c, m, ho, rfl, hF⟩
  rotate_left 1
  · exact on_panic rfl (.of_bad (bind_no HO47.out ho) (F47.out.trans hF))
  clear z48_0 z48_1 y48
  have HO49 := hide (bind_go HO47.out ho)
  have LB44_45_47_49 := hide (hF.loc LB44_45_47.out (Nat.ne_of_gt Q44.out))
  clear LB44_45_47
  have H49 := hide hR
  have F49 := hide (F47.out.trans hF)
  cases hv
  clear he ho hR hF C49 H47 F47 HO47
  obtain ⟨z50_0, z50_1, y50⟩ := row2 LB44_45_47_49.out
  go_wp2_with fail
  have hz := (And.intro z50_0 (And.intro z50_1 y50))
  simp [bodyPost, results, Tryz.results81, go_sem, hz]
  have LB44_45_47_49_51 := hide (loc_set (i := 0) (v := .string ⟨a45.toArray⟩) LB44_45_47_49.out)
  clear LB44_45_47_49
  have H51 := hide (H49.out.setLoc Q44.out 0 (.string ⟨a45.toArray⟩))
  have F51 := hide (F49.out.setLoc G44.out 0 (.string ⟨a45.toArray⟩))
  clear H49 F49
  have LB44_45_47_49_51_52 := hide (loc_set (i := 1) (v := .int .i64 a49) LB44_45_47_49_51.out)
  clear LB44_45_47_49_51
  have H52 := hide (H51.out.setLoc Q44.out 1 (.int .i64 a49))
  have F52 := hide (F51.out.setLoc G44.out 1 (.int .i64 a49))
  clear H51 F51
  exact .of_ok HO49.out (rfl) H52.out F52.out

set_option maxRecDepth 100000 in
set_option maxHeartbeats 1600000 in
theorem exception_any (h : Rd R L N s st w) (o : Out (Bytes × Bytes)) (ho : exceptionM (kt L) s = o) :
    Calls Tryz.prog 85 #[.pointer (some ⟨R, 0, none⟩)] w (Ends R L N st w vM o) := by
  have HO := hide ho
  have H := hide h
  have F := hide (Fq.refl R w)
  clear h ho
  go_enter Tryz.func85, Tryz.ntmps85
  have B53 : Below _ _ ((w).alloc (.cells #[.string ⟨#[]⟩, .string ⟨#[]⟩] 128)) := (Below.refl _ _).alloc (Nat.le_refl _) _
  have Q53 : Hid (R < w.heap.size) := hide H.out.lt
  have G53 : Hid (w.heap.size ≤ w.heap.size) := hide F.out.size
  have LB53 := hide (heap_alloc_new (w) (.cells #[.string ⟨#[]⟩, .string ⟨#[]⟩] 128))
  have H53 := hide (H.out.below B53)
  have F53 := hide (F.out.trans (Fq.of_below B53))
  clear H F B53
  have C54 := hide (name_any R L N s st _ H53.out _ rfl)
  go_wp2_with fail
  refine C54.out.mono ?_
  intro e w54 he
  rcases he.split with ⟨a54, s54, v54, ho, rfl, hv, hR, hF⟩ | ⟨c, m, ho, rfl, hF⟩
  rotate_left 1
  · exact on_panic rfl (.of_bad (bind_no HO.out ho) (F53.out.trans hF))
  have HO54 := hide (bind_go HO.out ho)
  have LB53_54 := hide (hF.loc LB53.out (Nat.ne_of_gt Q53.out))
  clear LB53
  have H54 := hide hR
  have F54 := hide (F53.out.trans hF)
  cases hv
  clear he ho hR hF C54 H53 F53 HO
  obtain ⟨z55_0, z55_1, y55⟩ := row2 LB53_54.out
  have C56 := hide (wantWord_any R L N s54 st _ [116, 111] H54.out _ rfl)
  go_wp2_with fail
  refine C56.out.mono ?_
  intro e w56 he
  rcases he.split with ⟨a56, s56, v56, ho, rfl, hv, hR, hF⟩ | ⟨c, m, ho, rfl, hF⟩
  rotate_left 1
  · exact on_panic rfl (.of_bad (bind_no HO54.out ho) (F54.out.trans hF))
  clear z55_0 z55_1 y55
  have HO56 := hide (bind_go HO54.out ho)
  have LB53_54_56 := hide (hF.loc LB53_54.out (Nat.ne_of_gt Q53.out))
  clear LB53_54
  have H56 := hide hR
  have F56 := hide (F54.out.trans hF)
  cases hv
  clear he ho hR hF C56 H54 F54 HO54
  obtain ⟨z57_0, z57_1, y57⟩ := row2 LB53_54_56.out
  have C58 := hide (name_any R L N s56 st _ H56.out _ rfl)
  go_wp2_with fail
  refine C58.out.mono ?_
  intro e w58 he
  rcases he.split with ⟨a58, s58, v58, ho, rfl, hv, hR, hF⟩ | ⟨c, m, ho, rfl, hF⟩
  rotate_left 1
  · exact on_panic rfl (.of_bad (bind_no HO56.out ho) (F56.out.trans hF))
  clear z57_0 z57_1 y57
  have HO58 := hide (bind_go HO56.out ho)
  have LB53_54_56_58 := hide (hF.loc LB53_54_56.out (Nat.ne_of_gt Q53.out))
  clear LB53_54_56
  have H58 := hide hR
  have F58 := hide (F56.out.trans hF)
  cases hv
  clear he ho hR hF C58 H56 F56 HO56
  obtain ⟨z59_0, z59_1, y59⟩ := row2 LB53_54_56_58.out
  go_wp2_with fail
  have hz := (And.intro z59_0 (And.intro z59_1 y59))
  simp [bodyPost, results, Tryz.results85, go_sem, hz]
  have LB53_54_56_58_60 := hide (loc_set (i := 0) (v := .string ⟨a54.toArray⟩) LB53_54_56_58.out)
  clear LB53_54_56_58
  have H60 := hide (H58.out.setLoc Q53.out 0 (.string ⟨a54.toArray⟩))
  have F60 := hide (F58.out.setLoc G53.out 0 (.string ⟨a54.toArray⟩))
  clear H58 F58
  have LB53_54_56_58_60_61 := hide (loc_set (i := 1) (v := .string ⟨a58.toArray⟩) LB53_54_56_58_60.out)
  clear LB53_54_56_58_60
  have H61 := hide (H60.out.setLoc Q53.out 1 (.string ⟨a58.toArray⟩))
  have F61 := hide (F60.out.setLoc G53.out 1 (.string ⟨a58.toArray⟩))
  clear H60 F60
  exact .of_ok HO58.out (rfl) H61.out F61.out

set_option maxRecDepth 100000 in
set_option maxHeartbeats 1600000 in
theorem total_any (h : Rd R L N s st w) (o : Out TotalM) (ho : totalM FN (kt L) s = o) :
    Calls Tryz.prog 87 #[.pointer (some ⟨R, 0, none⟩)] w (Ends R L N st w (vTotal (New w)) o) := by
  have HO := hide ho
  have H := hide h
  have F := hide (Fq.refl R w)
  clear h ho
  go_enter Tryz.func87, Tryz.ntmps87
  have B62 : Below _ _ ((w).alloc (.cells #[.string ⟨#[]⟩, .string ⟨#[]⟩, .slice none 0 0, .bool false, .int .i64 0] 111)) := (Below.refl _ _).alloc (Nat.le_refl _) _
  have Q62 : Hid (R < w.heap.size) := hide H.out.lt
  have G62 : Hid (w.heap.size ≤ w.heap.size) := hide F.out.size
  have LB62 := hide (heap_alloc_new (w) (.cells #[.string ⟨#[]⟩, .string ⟨#[]⟩, .slice none 0 0, .bool false, .int .i64 0] 111))
  have H62 := hide (H.out.below B62)
  have F62 := hide (F.out.trans (Fq.of_below B62))
  clear H F B62
  have C63 := hide (name_any R L N s st _ H62.out _ rfl)
  go_wp2_with fail
  refine C63.out.mono ?_
  intro e w63 he
  rcases he.split with ⟨a63, s63, v63, ho, rfl, hv, hR, hF⟩ | ⟨c, m, ho, rfl, hF⟩
  rotate_left 1
  · exact on_panic rfl (.of_bad (bind_no HO.out ho) (F62.out.trans hF))
  have HO63 := hide (bind_go HO.out ho)
  have LB62_63 := hide (hF.loc LB62.out (Nat.ne_of_gt Q62.out))
  clear LB62
  have H63 := hide hR
  have F63 := hide (F62.out.trans hF)
  cases hv
  clear he ho hR hF C63 H62 F62 HO
  obtain ⟨z64_0, z64_1, z64_2, z64_3, z64_4, y64⟩ := row5 LB62_63.out
  have B65 : Below _ _ ((w63).alloc (.cells #[.string ⟨a63.toArray⟩, .string ⟨#[]⟩, .slice none 0 0, .bool false, .int .i64 0] 111)) := (Below.refl _ _).alloc (Nat.le_refl _) _
  have Q65 : Hid (R < w63.heap.size) := hide H63.out.lt
  have G65 : Hid (w.heap.size ≤ w63.heap.size) := hide F63.out.size
  have NE_0_1 : Hid (w.heap.size ≠ w63.heap.size) := hide (Nat.ne_of_lt (loc_lt LB62_63.out))
  have NE_1_0 : Hid (w63.heap.size ≠ w.heap.size) := hide (Nat.ne_of_gt (loc_lt LB62_63.out))
  have LB62_63_65 := hide ((B65.block _ (loc_lt LB62_63.out)).trans LB62_63.out)
  clear LB62_63
  have LB65 := hide (heap_alloc_new (w63) (.cells #[.string ⟨a63.toArray⟩, .string ⟨#[]⟩, .slice none 0 0, .bool false, .int .i64 0] 111))
  have H65 := hide (H63.out.below B65)
  have F65 := hide (F63.out.trans (Fq.of_below B65))
  clear H63 F63 B65
  have C66 := hide (wantMark_any R L N s63 st _ [40] H65.out _ rfl)
  go_wp2_with fail
  refine C66.out.mono ?_
  intro e w66 he
  rcases he.split with ⟨a66, s66, v66, ho, rfl, hv, hR, hF⟩ | ⟨c, m, ho, rfl, hF⟩
  rotate_left 1
  · exact on_panic rfl (.of_bad (bind_no HO63.out ho) (F65.out.trans hF))
  clear z64_0 z64_1 z64_2 z64_3 z64_4 y64
  have HO66 := hide (bind_go HO63.out ho)
  have LB62_63_65_66 := hide (hF.loc LB62_63_65.out (Nat.ne_of_gt Q62.out))
  clear LB62_63_65
  have LB65_66 := hide (hF.loc LB65.out (Nat.ne_of_gt Q65.out))
  clear LB65
  have H66 := hide hR
  have F66 := hide (F65.out.trans hF)
  cases hv
  clear he ho hR hF C66 H65 F65 HO63
  obtain ⟨z67_0, z67_1, z67_2, z67_3, z67_4, y67⟩ := row5 LB62_63_65_66.out
  obtain ⟨z68_0, z68_1, z68_2, z68_3, z68_4, y68⟩ := row5 LB65_66.out
  have x69 := NE_0_1.out
  have x70 := NE_1_0.out
  have C71 := hide (name_any R L N s66 st _ H66.out _ rfl)
  go_wp2_with fail
  refine C71.out.mono ?_
  intro e w71 he
  rcases he.split with ⟨a71, s71, v71, ho, rfl, hv, hR, hF⟩ | ⟨c, m, ho, rfl, hF⟩
  rotate_left 1
  · exact on_panic rfl (.of_bad (bind_no HO66.out ho) (F66.out.trans hF))
  clear z67_0 z67_1 z67_2 z67_3 z67_4 y67 z68_0 z68_1 z68_2 z68_3 z68_4 y68 x69 x70
  have HO71 := hide (bind_go HO66.out ho)
  have LB62_63_65_66_71 := hide (hF.loc LB62_63_65_66.out (Nat.ne_of_gt Q62.out))
  clear LB62_63_65_66
  have LB65_66_71 := hide (hF.loc LB65_66.out (Nat.ne_of_gt Q65.out))
  clear LB65_66
  have H71 := hide hR
  have F71 := hide (F66.out.trans hF)
  cases hv
  clear he ho hR hF C71 H66 F66 HO66
  obtain ⟨z72_0, z72_1, z72_2, z72_3, z72_4, y72⟩ := row5 LB62_63_65_66_71.out
  obtain ⟨z73_0, z73_1, z73_2, z73_3, z73_4, y73⟩ := row5 LB65_66_71.out
  have x74 := NE_0_1.out
  have x75 := NE_1_0.out
  have LB62_63_65_66_71_76 := hide (loc_other (p := ⟨w63.heap.size, 1, none⟩) (v := .string ⟨a71.toArray⟩) LB62_63_65_66_71.out (NE_0_1.out))
  have LB65_66_71_76 := hide (loc_set (i := 1) (v := .string ⟨a71.toArray⟩) LB65_66_71.out)
  clear LB62_63_65_66_71 LB65_66_71
  have H76 := hide (H71.out.setLoc Q65.out 1 (.string ⟨a71.toArray⟩))
  have F76 := hide (F71.out.setLoc G65.out 1 (.string ⟨a71.toArray⟩))
  clear H71 F71
  have C77 := hide (wantMark_any R L N s71 st _ [41] H76.out _ rfl)
  go_wp2_with fail
  refine C77.out.mono ?_
  intro e w77 he
  rcases he.split with ⟨a77, s77, v77, ho, rfl, hv, hR, hF⟩ | ⟨c, m, ho, rfl, hF⟩
  rotate_left 1
  · exact on_panic rfl (.of_bad (bind_no HO71.out ho) (F76.out.trans hF))
  clear z72_0 z72_1 z72_2 z72_3 z72_4 y72 z73_0 z73_1 z73_2 z73_3 z73_4 y73 x74 x75
  have HO77 := hide (bind_go HO71.out ho)
  have LB62_63_65_66_71_76_77 := hide (hF.loc LB62_63_65_66_71_76.out (Nat.ne_of_gt Q62.out))
  clear LB62_63_65_66_71_76
  have LB65_66_71_76_77 := hide (hF.loc LB65_66_71_76.out (Nat.ne_of_gt Q65.out))
  clear LB65_66_71_76
  have H77 := hide hR
  have F77 := hide (F76.out.trans hF)
  cases hv
  clear he ho hR hF C77 H76 F76 HO71
  obtain ⟨z78_0, z78_1, z78_2, z78_3, z78_4, y78⟩ := row5 LB62_63_65_66_71_76_77.out
  obtain ⟨z79_0, z79_1, z79_2, z79_3, z79_4, y79⟩ := row5 LB65_66_71_76_77.out
  have x80 := NE_0_1.out
  have x81 := NE_1_0.out
  have C82 := hide (wantMark_any R L N s77 st _ [58] H77.out _ rfl)
  go_wp2_with fail
  refine C82.out.mono ?_
  intro e w82 he
  rcases he.split with ⟨a82, s82, v82, ho, rfl, hv, hR, hF⟩ | ⟨c, m, ho, rfl, hF⟩
  rotate_left 1
  · exact on_panic rfl (.of_bad (bind_no HO77.out ho) (F77.out.trans hF))
  clear z78_0 z78_1 z78_2 z78_3 z78_4 y78 z79_0 z79_1 z79_2 z79_3 z79_4 y79 x80 x81
  have HO82 := hide (bind_go HO77.out ho)
  have LB62_63_65_66_71_76_77_82 := hide (hF.loc LB62_63_65_66_71_76_77.out (Nat.ne_of_gt Q62.out))
  clear LB62_63_65_66_71_76_77
  have LB65_66_71_76_77_82 := hide (hF.loc LB65_66_71_76_77.out (Nat.ne_of_gt Q65.out))
  clear LB65_66_71_76_77
  have H82 := hide hR
  have F82 := hide (F77.out.trans hF)
  cases hv
  clear he ho hR hF C82 H77 F77 HO77
  obtain ⟨z83_0, z83_1, z83_2, z83_3, z83_4, y83⟩ := row5 LB62_63_65_66_71_76_77_82.out
  obtain ⟨z84_0, z84_1, z84_2, z84_3, z84_4, y84⟩ := row5 LB65_66_71_76_77_82.out
  have x85 := NE_0_1.out
  have x86 := NE_1_0.out
  have C87 := hide (list_string_name R L N s82 st _ (nameM (kt L)) (fun s w h => name_any R L N s st w h _ rfl) (commaM (kt L)) (fun s w h => comma_any R L N s st w h _ rfl) (fun s a u => eats_name _ s a u) (fun s u => hasMark_eats) 16 H82.out _ rfl)
  go_wp2_with fail
  refine C87.out.mono ?_
  intro e w87 he
  rcases he.split with ⟨a87, s87, v87, ho, rfl, hv, hR, hF⟩ | ⟨c, m, ho, rfl, hF⟩
  rotate_left 1
  · exact on_panic rfl (.of_bad (bind_no HO82.out ho) (F82.out.trans hF))
  clear z83_0 z83_1 z83_2 z83_3 z83_4 y83 z84_0 z84_1 z84_2 z84_3 z84_4 y84 x85 x86
  have HO87 := hide (bind_go HO82.out ho)
  have LB62_63_65_66_71_76_77_82_87 := hide (hF.loc LB62_63_65_66_71_76_77_82.out (Nat.ne_of_gt Q62.out))
  clear LB62_63_65_66_71_76_77_82
  have LB65_66_71_76_77_82_87 := hide (hF.loc LB65_66_71_76_77_82.out (Nat.ne_of_gt Q65.out))
  clear LB65_66_71_76_77_82
  have H87 := hide hR
  have F87 := hide (F82.out.trans hF)
  obtain ⟨p87, r87, rfl⟩ := rows_form hv
  have V87 := hide (Strs.mono hv fun g hg => Nat.le_trans F82.out.size hg)
  clear hv
  clear he ho hR hF C87 H82 F82 HO82
  obtain ⟨z88_0, z88_1, z88_2, z88_3, z88_4, y88⟩ := row5 LB62_63_65_66_71_76_77_82_87.out
  obtain ⟨z89_0, z89_1, z89_2, z89_3, z89_4, y89⟩ := row5 LB65_66_71_76_77_82_87.out
  have x90 := NE_0_1.out
  have x91 := NE_1_0.out
  have V87_92 := hide (Strs.keep V87.out (Kp.setLoc (T := [9]) (i := 2) (v := .slice p87 a87.length r87) LB65_66_71_76_77_82_87.out (by decide)) (by decide))
  clear V87
  have LB62_63_65_66_71_76_77_82_87_92 := hide (loc_other (p := ⟨w63.heap.size, 2, none⟩) (v := .slice p87 a87.length r87) LB62_63_65_66_71_76_77_82_87.out (NE_0_1.out))
  have LB65_66_71_76_77_82_87_92 := hide (loc_set (i := 2) (v := .slice p87 a87.length r87) LB65_66_71_76_77_82_87.out)
  clear LB62_63_65_66_71_76_77_82_87 LB65_66_71_76_77_82_87
  have H92 := hide (H87.out.setLoc Q65.out 2 (.slice p87 a87.length r87))
  have F92 := hide (F87.out.setLoc G65.out 2 (.slice p87 a87.length r87))
  clear H87 F87
  have C93 := hide (hasWord_any R L N s87 st _ [99, 97, 112] H92.out _ rfl)
  go_wp2_with fail
  refine C93.out.mono ?_
  intro e w93 he
  rcases he.split with ⟨a93, s93, v93, ho, rfl, hv, hR, hF⟩ | ⟨c, m, ho, rfl, hF⟩
  rotate_left 1
  · exact on_panic rfl (.of_bad (bind_no HO87.out ho) (F92.out.trans hF))
  clear z88_0 z88_1 z88_2 z88_3 z88_4 y88 z89_0 z89_1 z89_2 z89_3 z89_4 y89 x90 x91
  have HO93 := hide (bind_go HO87.out ho)
  have LB62_63_65_66_71_76_77_82_87_92_93 := hide (hF.loc LB62_63_65_66_71_76_77_82_87_92.out (Nat.ne_of_gt Q62.out))
  clear LB62_63_65_66_71_76_77_82_87_92
  have LB65_66_71_76_77_82_87_92_93 := hide (hF.loc LB65_66_71_76_77_82_87_92.out (Nat.ne_of_gt Q65.out))
  clear LB65_66_71_76_77_82_87_92
  have V87_92_93 := hide (Strs.keep V87_92.out (Kp.of_fq (T := [9]) hF H92.out (by decide)) (by decide))
  clear V87_92
  have H93 := hide hR
  have F93 := hide (F92.out.trans hF)
  cases hv
  clear he ho hR hF C93 H92 F92 HO87
  obtain ⟨z94_0, z94_1, z94_2, z94_3, z94_4, y94⟩ := row5 LB62_63_65_66_71_76_77_82_87_92_93.out
  obtain ⟨z95_0, z95_1, z95_2, z95_3, z95_4, y95⟩ := row5 LB65_66_71_76_77_82_87_92_93.out
  have x96 := NE_0_1.out
  have x97 := NE_1_0.out
  cases a93 with
  | false =>
    have HO := hide (ite_f HO93.out rfl)
    go_wp2_with fail
    have hz := (And.intro z94_0 (And.intro z94_1 (And.intro z94_2 (And.intro z94_3 (And.intro z94_4 (And.intro y94 (And.intro z95_0 (And.intro z95_1 (And.intro z95_2 (And.intro z95_3 (And.intro z95_4 (And.intro y95 (And.intro x96 x97)))))))))))))
    simp [bodyPost, results, Tryz.results87, go_sem, hz]
    have V87_92_93_98 := hide (Strs.keep V87_92_93.out (Kp.setLoc (T := [9]) (i := 0) (v := .string ⟨a63.toArray⟩) LB62_63_65_66_71_76_77_82_87_92_93.out (by decide)) (by decide))
    clear V87_92_93
    have LB62_63_65_66_71_76_77_82_87_92_93_98 := hide (loc_set (i := 0) (v := .string ⟨a63.toArray⟩) LB62_63_65_66_71_76_77_82_87_92_93.out)
    have LB65_66_71_76_77_82_87_92_93_98 := hide (loc_other (p := ⟨w.heap.size, 0, none⟩) (v := .string ⟨a63.toArray⟩) LB65_66_71_76_77_82_87_92_93.out (NE_1_0.out))
    clear LB62_63_65_66_71_76_77_82_87_92_93 LB65_66_71_76_77_82_87_92_93
    have H98 := hide (H93.out.setLoc Q62.out 0 (.string ⟨a63.toArray⟩))
    have F98 := hide (F93.out.setLoc G62.out 0 (.string ⟨a63.toArray⟩))
    clear H93 F93
    have V87_92_93_98_99 := hide (Strs.keep V87_92_93_98.out (Kp.setLoc (T := [9]) (i := 1) (v := .string ⟨a71.toArray⟩) LB62_63_65_66_71_76_77_82_87_92_93_98.out (by decide)) (by decide))
    clear V87_92_93_98
    have LB62_63_65_66_71_76_77_82_87_92_93_98_99 := hide (loc_set (i := 1) (v := .string ⟨a71.toArray⟩) LB62_63_65_66_71_76_77_82_87_92_93_98.out)
    have LB65_66_71_76_77_82_87_92_93_98_99 := hide (loc_other (p := ⟨w.heap.size, 1, none⟩) (v := .string ⟨a71.toArray⟩) LB65_66_71_76_77_82_87_92_93_98.out (NE_1_0.out))
    clear LB62_63_65_66_71_76_77_82_87_92_93_98 LB65_66_71_76_77_82_87_92_93_98
    have H99 := hide (H98.out.setLoc Q62.out 1 (.string ⟨a71.toArray⟩))
    have F99 := hide (F98.out.setLoc G62.out 1 (.string ⟨a71.toArray⟩))
    clear H98 F98
    have V87_92_93_98_99_100 := hide (Strs.keep V87_92_93_98_99.out (Kp.setLoc (T := [9]) (i := 2) (v := .slice p87 a87.length r87) LB62_63_65_66_71_76_77_82_87_92_93_98_99.out (by decide)) (by decide))
    clear V87_92_93_98_99
    have LB62_63_65_66_71_76_77_82_87_92_93_98_99_100 := hide (loc_set (i := 2) (v := .slice p87 a87.length r87) LB62_63_65_66_71_76_77_82_87_92_93_98_99.out)
    have LB65_66_71_76_77_82_87_92_93_98_99_100 := hide (loc_other (p := ⟨w.heap.size, 2, none⟩) (v := .slice p87 a87.length r87) LB65_66_71_76_77_82_87_92_93_98_99.out (NE_1_0.out))
    clear LB62_63_65_66_71_76_77_82_87_92_93_98_99 LB65_66_71_76_77_82_87_92_93_98_99
    have H100 := hide (H99.out.setLoc Q62.out 2 (.slice p87 a87.length r87))
    have F100 := hide (F99.out.setLoc G62.out 2 (.slice p87 a87.length r87))
    clear H99 F99
    have V87_92_93_98_99_100_101 := hide (Strs.keep V87_92_93_98_99_100.out (Kp.setLoc (T := [9]) (i := 3) (v := .bool false) LB62_63_65_66_71_76_77_82_87_92_93_98_99_100.out (by decide)) (by decide))
    clear V87_92_93_98_99_100
    have LB62_63_65_66_71_76_77_82_87_92_93_98_99_100_101 := hide (loc_set (i := 3) (v := .bool false) LB62_63_65_66_71_76_77_82_87_92_93_98_99_100.out)
    have LB65_66_71_76_77_82_87_92_93_98_99_100_101 := hide (loc_other (p := ⟨w.heap.size, 3, none⟩) (v := .bool false) LB65_66_71_76_77_82_87_92_93_98_99_100.out (NE_1_0.out))
    clear LB62_63_65_66_71_76_77_82_87_92_93_98_99_100 LB65_66_71_76_77_82_87_92_93_98_99_100
    have H101 := hide (H100.out.setLoc Q62.out 3 (.bool false))
    have F101 := hide (F100.out.setLoc G62.out 3 (.bool false))
    clear H100 F100
    have V87_92_93_98_99_100_101_102 := hide (Strs.keep V87_92_93_98_99_100_101.out (Kp.setLoc (T := [9]) (i := 4) (v := .int .i64 0) LB62_63_65_66_71_76_77_82_87_92_93_98_99_100_101.out (by decide)) (by decide))
    clear V87_92_93_98_99_100_101
    have LB62_63_65_66_71_76_77_82_87_92_93_98_99_100_101_102 := hide (loc_set (i := 4) (v := .int .i64 0) LB62_63_65_66_71_76_77_82_87_92_93_98_99_100_101.out)
    have LB65_66_71_76_77_82_87_92_93_98_99_100_101_102 := hide (loc_other (p := ⟨w.heap.size, 4, none⟩) (v := .int .i64 0) LB65_66_71_76_77_82_87_92_93_98_99_100_101.out (NE_1_0.out))
    clear LB62_63_65_66_71_76_77_82_87_92_93_98_99_100_101 LB65_66_71_76_77_82_87_92_93_98_99_100_101
    have H102 := hide (H101.out.setLoc Q62.out 4 (.int .i64 0))
    have F102 := hide (F101.out.setLoc G62.out 4 (.int .i64 0))
    clear H101 F101
    exact .of_ok HO.out (⟨_, rfl, V87_92_93_98_99_100_101_102.out⟩) H102.out F102.out
  | true =>
    have HO := hide (ite_t HO93.out rfl)
    have V87_92_93_103 := hide (Strs.keep V87_92_93.out (Kp.setLoc (T := [9]) (i := 3) (v := .bool true) LB65_66_71_76_77_82_87_92_93.out (by decide)) (by decide))
    clear V87_92_93
    have LB62_63_65_66_71_76_77_82_87_92_93_103 := hide (loc_other (p := ⟨w63.heap.size, 3, none⟩) (v := .bool true) LB62_63_65_66_71_76_77_82_87_92_93.out (NE_0_1.out))
    have LB65_66_71_76_77_82_87_92_93_103 := hide (loc_set (i := 3) (v := .bool true) LB65_66_71_76_77_82_87_92_93.out)
    clear LB62_63_65_66_71_76_77_82_87_92_93 LB65_66_71_76_77_82_87_92_93
    have H103 := hide (H93.out.setLoc Q65.out 3 (.bool true))
    have F103 := hide (F93.out.setLoc G65.out 3 (.bool true))
    clear H93 F93
    have C104 := hide (money_any R L N s93 st _ H103.out _ rfl)
    go_wp2_with fail
    refine C104.out.mono ?_
    intro e w104 he
    rcases he.split with ⟨a104, s104, v104, ho, rfl, hv, hR, hF⟩ | ⟨c, m, ho, rfl, hF⟩
    rotate_left 1
    · exact on_panic rfl (.of_bad (bind_no HO.out ho) (F103.out.trans hF))
    clear z94_0 z94_1 z94_2 z94_3 z94_4 y94 z95_0 z95_1 z95_2 z95_3 z95_4 y95 x96 x97
    have HO104 := hide (bind_go HO.out ho)
    have LB62_63_65_66_71_76_77_82_87_92_93_103_104 := hide (hF.loc LB62_63_65_66_71_76_77_82_87_92_93_103.out (Nat.ne_of_gt Q62.out))
    clear LB62_63_65_66_71_76_77_82_87_92_93_103
    have LB65_66_71_76_77_82_87_92_93_103_104 := hide (hF.loc LB65_66_71_76_77_82_87_92_93_103.out (Nat.ne_of_gt Q65.out))
    clear LB65_66_71_76_77_82_87_92_93_103
    have V87_92_93_103_104 := hide (Strs.keep V87_92_93_103.out (Kp.of_fq (T := [9]) hF H103.out (by decide)) (by decide))
    clear V87_92_93_103
    have H104 := hide hR
    have F104 := hide (F103.out.trans hF)
    cases hv
    clear he ho hR hF C104 H103 F103 HO
    obtain ⟨z105_0, z105_1, z105_2, z105_3, z105_4, y105⟩ := row5 LB62_63_65_66_71_76_77_82_87_92_93_103_104.out
    obtain ⟨z106_0, z106_1, z106_2, z106_3, z106_4, y106⟩ := row5 LB65_66_71_76_77_82_87_92_93_103_104.out
    have x107 := NE_0_1.out
    have x108 := NE_1_0.out
    have V87_92_93_103_104_109 := hide (Strs.keep V87_92_93_103_104.out (Kp.setLoc (T := [9]) (i := 4) (v := .int .i64 a104) LB65_66_71_76_77_82_87_92_93_103_104.out (by decide)) (by decide))
    clear V87_92_93_103_104
    have LB62_63_65_66_71_76_77_82_87_92_93_103_104_109 := hide (loc_other (p := ⟨w63.heap.size, 4, none⟩) (v := .int .i64 a104) LB62_63_65_66_71_76_77_82_87_92_93_103_104.out (NE_0_1.out))
    have LB65_66_71_76_77_82_87_92_93_103_104_109 := hide (loc_set (i := 4) (v := .int .i64 a104) LB65_66_71_76_77_82_87_92_93_103_104.out)
    clear LB62_63_65_66_71_76_77_82_87_92_93_103_104 LB65_66_71_76_77_82_87_92_93_103_104
    have H109 := hide (H104.out.setLoc Q65.out 4 (.int .i64 a104))
    have F109 := hide (F104.out.setLoc G65.out 4 (.int .i64 a104))
    clear H104 F104
    go_wp2_with fail
    have hz := (And.intro z105_0 (And.intro z105_1 (And.intro z105_2 (And.intro z105_3 (And.intro z105_4 (And.intro y105 (And.intro z106_0 (And.intro z106_1 (And.intro z106_2 (And.intro z106_3 (And.intro z106_4 (And.intro y106 (And.intro x107 x108)))))))))))))
    simp [bodyPost, results, Tryz.results87, go_sem, hz]
    have V87_92_93_103_104_109_110 := hide (Strs.keep V87_92_93_103_104_109.out (Kp.setLoc (T := [9]) (i := 0) (v := .string ⟨a63.toArray⟩) LB62_63_65_66_71_76_77_82_87_92_93_103_104_109.out (by decide)) (by decide))
    clear V87_92_93_103_104_109
    have LB62_63_65_66_71_76_77_82_87_92_93_103_104_109_110 := hide (loc_set (i := 0) (v := .string ⟨a63.toArray⟩) LB62_63_65_66_71_76_77_82_87_92_93_103_104_109.out)
    have LB65_66_71_76_77_82_87_92_93_103_104_109_110 := hide (loc_other (p := ⟨w.heap.size, 0, none⟩) (v := .string ⟨a63.toArray⟩) LB65_66_71_76_77_82_87_92_93_103_104_109.out (NE_1_0.out))
    clear LB62_63_65_66_71_76_77_82_87_92_93_103_104_109 LB65_66_71_76_77_82_87_92_93_103_104_109
    have H110 := hide (H109.out.setLoc Q62.out 0 (.string ⟨a63.toArray⟩))
    have F110 := hide (F109.out.setLoc G62.out 0 (.string ⟨a63.toArray⟩))
    clear H109 F109
    have V87_92_93_103_104_109_110_111 := hide (Strs.keep V87_92_93_103_104_109_110.out (Kp.setLoc (T := [9]) (i := 1) (v := .string ⟨a71.toArray⟩) LB62_63_65_66_71_76_77_82_87_92_93_103_104_109_110.out (by decide)) (by decide))
    clear V87_92_93_103_104_109_110
    have LB62_63_65_66_71_76_77_82_87_92_93_103_104_109_110_111 := hide (loc_set (i := 1) (v := .string ⟨a71.toArray⟩) LB62_63_65_66_71_76_77_82_87_92_93_103_104_109_110.out)
    have LB65_66_71_76_77_82_87_92_93_103_104_109_110_111 := hide (loc_other (p := ⟨w.heap.size, 1, none⟩) (v := .string ⟨a71.toArray⟩) LB65_66_71_76_77_82_87_92_93_103_104_109_110.out (NE_1_0.out))
    clear LB62_63_65_66_71_76_77_82_87_92_93_103_104_109_110 LB65_66_71_76_77_82_87_92_93_103_104_109_110
    have H111 := hide (H110.out.setLoc Q62.out 1 (.string ⟨a71.toArray⟩))
    have F111 := hide (F110.out.setLoc G62.out 1 (.string ⟨a71.toArray⟩))
    clear H110 F110
    have V87_92_93_103_104_109_110_111_112 := hide (Strs.keep V87_92_93_103_104_109_110_111.out (Kp.setLoc (T := [9]) (i := 2) (v := .slice p87 a87.length r87) LB62_63_65_66_71_76_77_82_87_92_93_103_104_109_110_111.out (by decide)) (by decide))
    clear V87_92_93_103_104_109_110_111
    have LB62_63_65_66_71_76_77_82_87_92_93_103_104_109_110_111_112 := hide (loc_set (i := 2) (v := .slice p87 a87.length r87) LB62_63_65_66_71_76_77_82_87_92_93_103_104_109_110_111.out)
    have LB65_66_71_76_77_82_87_92_93_103_104_109_110_111_112 := hide (loc_other (p := ⟨w.heap.size, 2, none⟩) (v := .slice p87 a87.length r87) LB65_66_71_76_77_82_87_92_93_103_104_109_110_111.out (NE_1_0.out))
    clear LB62_63_65_66_71_76_77_82_87_92_93_103_104_109_110_111 LB65_66_71_76_77_82_87_92_93_103_104_109_110_111
    have H112 := hide (H111.out.setLoc Q62.out 2 (.slice p87 a87.length r87))
    have F112 := hide (F111.out.setLoc G62.out 2 (.slice p87 a87.length r87))
    clear H111 F111
    have V87_92_93_103_104_109_110_111_112_113 := hide (Strs.keep V87_92_93_103_104_109_110_111_112.out (Kp.setLoc (T := [9]) (i := 3) (v := .bool true) LB62_63_65_66_71_76_77_82_87_92_93_103_104_109_110_111_112.out (by decide)) (by decide))
    clear V87_92_93_103_104_109_110_111_112
    have LB62_63_65_66_71_76_77_82_87_92_93_103_104_109_110_111_112_113 := hide (loc_set (i := 3) (v := .bool true) LB62_63_65_66_71_76_77_82_87_92_93_103_104_109_110_111_112.out)
    have LB65_66_71_76_77_82_87_92_93_103_104_109_110_111_112_113 := hide (loc_other (p := ⟨w.heap.size, 3, none⟩) (v := .bool true) LB65_66_71_76_77_82_87_92_93_103_104_109_110_111_112.out (NE_1_0.out))
    clear LB62_63_65_66_71_76_77_82_87_92_93_103_104_109_110_111_112 LB65_66_71_76_77_82_87_92_93_103_104_109_110_111_112
    have H113 := hide (H112.out.setLoc Q62.out 3 (.bool true))
    have F113 := hide (F112.out.setLoc G62.out 3 (.bool true))
    clear H112 F112
    have V87_92_93_103_104_109_110_111_112_113_114 := hide (Strs.keep V87_92_93_103_104_109_110_111_112_113.out (Kp.setLoc (T := [9]) (i := 4) (v := .int .i64 a104) LB62_63_65_66_71_76_77_82_87_92_93_103_104_109_110_111_112_113.out (by decide)) (by decide))
    clear V87_92_93_103_104_109_110_111_112_113
    have LB62_63_65_66_71_76_77_82_87_92_93_103_104_109_110_111_112_113_114 := hide (loc_set (i := 4) (v := .int .i64 a104) LB62_63_65_66_71_76_77_82_87_92_93_103_104_109_110_111_112_113.out)
    have LB65_66_71_76_77_82_87_92_93_103_104_109_110_111_112_113_114 := hide (loc_other (p := ⟨w.heap.size, 4, none⟩) (v := .int .i64 a104) LB65_66_71_76_77_82_87_92_93_103_104_109_110_111_112_113.out (NE_1_0.out))
    clear LB62_63_65_66_71_76_77_82_87_92_93_103_104_109_110_111_112_113 LB65_66_71_76_77_82_87_92_93_103_104_109_110_111_112_113
    have H114 := hide (H113.out.setLoc Q62.out 4 (.int .i64 a104))
    have F114 := hide (F113.out.setLoc G62.out 4 (.int .i64 a104))
    clear H113 F113
    exact .of_ok HO104.out (⟨_, rfl, V87_92_93_103_104_109_110_111_112_113_114.out⟩) H114.out F114.out

end
end Go.Proofs.YthnjmfkiohgkkaaGreatDoor.Sy
