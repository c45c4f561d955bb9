/- Premises and rules. By program. -/
import Derived.Test.YthnjmfkiohgkkaaGreatDoorGuard5
namespace Go.Proofs.YthnjmfkiohgkkaaGreatDoor.Sy
open Go.RowKit

section
variable (R : Nat) (L : List Tok) (N : Nat) (s : RS) (st : St9) (w : World)

set_option maxRecDepth 100000 in
set_option maxHeartbeats 1600000 in
theorem unlike_any (h : Rd R L N s st w) (o : Out PremM) (ho : unlikeM (kt L) s = o) :
    Calls Tryz.prog 157 #[.pointer (some ⟨R, 0, none⟩)] w (Ends R L N st w (vPrem (New w)) o) := by
  have HO := hide ho
  have H := hide h
  have F := hide (Fq.refl R w)
  clear h ho
  go_enter Tryz.func157, Tryz.ntmps157
  have B1 : Below _ _ ((w).alloc (.cells #[.int .i64 0, .bool false, .string ⟨#[]⟩, .slice none 0 0, .bool false, .int .i64 0, .slice none 0 0, .int .i64 0, .slice none 0 0, .string ⟨#[]⟩, .string ⟨#[]⟩] 107)) := (Below.refl _ _).alloc (Nat.le_refl _) _
  have Q1 : Hid (R < w.heap.size) := hide H.out.lt
  have G1 : Hid (w.heap.size ≤ w.heap.size) := hide F.out.size
  have LB1 := hide (heap_alloc_new (w) (.cells #[.int .i64 0, .bool false, .string ⟨#[]⟩, .slice none 0 0, .bool false, .int .i64 0, .slice none 0 0, .int .i64 0, .slice none 0 0, .string ⟨#[]⟩, .string ⟨#[]⟩] 107))
  have H1 := hide (H.out.below B1)
  have F1 := hide (F.out.trans (Fq.of_below B1))
  clear H F B1
  have C2 := hide (arg_any R L N s st _ H1.out _ rfl)
  go_wp2_with fail
  refine C2.out.mono ?_
  intro e w2 he
  rcases he.split with ⟨a2, s2, v2, ho, rfl, hv, hR, hF⟩ | ⟨c, m, ho, rfl, hF⟩
  rotate_left 1
  · exact on_panic rfl (.of_bad (bind_no HO.out ho) (F1.out.trans hF))
  have HO2 := hide (bind_go HO.out ho)
  have LB1_2 := hide (hF.loc LB1.out (Nat.ne_of_gt Q1.out))
  clear LB1
  have H2 := hide hR
  have F2 := hide (F1.out.trans hF)
  cases hv
  clear he ho hR hF C2 H1 F1 HO
  obtain ⟨z3_0, z3_1, z3_2, z3_3, z3_4, z3_5, z3_6, z3_7, z3_8, z3_9, z3_10, y3⟩ := row11 LB1_2.out
  have C4 := hide (wantMark_any R L N s2 st _ [33, 61] H2.out _ rfl)
  go_wp2_with fail
  refine C4.out.mono ?_
  intro e w4 he
  rcases he.split with ⟨a4, s4, v4, ho, rfl, hv, hR, hF⟩ | ⟨c, m, ho, rfl, hF⟩
  rotate_left 1
  · exact on_panic rfl (.of_bad (bind_no HO2.out ho) (F2.out.trans hF))
  clear z3_0 z3_1 z3_2 z3_3 z3_4 z3_5 z3_6 z3_7 z3_8 z3_9 z3_10 y3
  have HO4 := hide (bind_go HO2.out ho)
  have LB1_2_4 := hide (hF.loc LB1_2.out (Nat.ne_of_gt Q1.out))
  clear LB1_2
  have H4 := hide hR
  have F4 := hide (F2.out.trans hF)
  cases hv
  clear he ho hR hF C4 H2 F2 HO2
  obtain ⟨z5_0, z5_1, z5_2, z5_3, z5_4, z5_5, z5_6, z5_7, z5_8, z5_9, z5_10, y5⟩ := row11 LB1_2_4.out
  have C6 := hide (arg_any R L N s4 st _ H4.out _ rfl)
  go_wp2_with fail
  refine C6.out.mono ?_
  intro e w6 he
  rcases he.split with ⟨a6, s6, v6, ho, rfl, hv, hR, hF⟩ | ⟨c, m, ho, rfl, hF⟩
  rotate_left 1
  · exact on_panic rfl (.of_bad (bind_no HO4.out ho) (F4.out.trans hF))
  clear z5_0 z5_1 z5_2 z5_3 z5_4 z5_5 z5_6 z5_7 z5_8 z5_9 z5_10 y5
  have HO6 := hide (bind_go HO4.out ho)
  have LB1_2_4_6 := hide (hF.loc LB1_2_4.out (Nat.ne_of_gt Q1.out))
  clear LB1_2_4
  have H6 := hide hR
  have F6 := hide (F4.out.trans hF)
  cases hv
  clear he ho hR hF C6 H4 F4 HO4
  obtain ⟨z7_0, z7_1, z7_2, z7_3, z7_4, z7_5, z7_6, z7_7, z7_8, z7_9, z7_10, y7⟩ := row11 LB1_2_4_6.out
  go_wp2_with fail
  have hz := (And.intro z7_0 (And.intro z7_1 (And.intro z7_2 (And.intro z7_3 (And.intro z7_4 (And.intro z7_5 (And.intro z7_6 (And.intro z7_7 (And.intro z7_8 (And.intro z7_9 (And.intro z7_10 y7)))))))))))
  simp [bodyPost, results, Tryz.results157, go_sem, hz]
  have LB1_2_4_6_8 := hide (loc_set (i := 0) (v := .int .i64 3) LB1_2_4_6.out)
  clear LB1_2_4_6
  have H8 := hide (H6.out.setLoc Q1.out 0 (.int .i64 3))
  have F8 := hide (F6.out.setLoc G1.out 0 (.int .i64 3))
  clear H6 F6
  have LB1_2_4_6_8_9 := hide (loc_set (i := 1) (v := .bool false) LB1_2_4_6_8.out)
  clear LB1_2_4_6_8
  have H9 := hide (H8.out.setLoc Q1.out 1 (.bool false))
  have F9 := hide (F8.out.setLoc G1.out 1 (.bool false))
  clear H8 F8
  have LB1_2_4_6_8_9_10 := hide (loc_set (i := 2) (v := .string ⟨#[]⟩) LB1_2_4_6_8_9.out)
  clear LB1_2_4_6_8_9
  have H10 := hide (H9.out.setLoc Q1.out 2 (.string ⟨#[]⟩))
  have F10 := hide (F9.out.setLoc G1.out 2 (.string ⟨#[]⟩))
  clear H9 F9
  have LB1_2_4_6_8_9_10_11 := hide (loc_set (i := 3) (v := .slice none 0 0) LB1_2_4_6_8_9_10.out)
  clear LB1_2_4_6_8_9_10
  have H11 := hide (H10.out.setLoc Q1.out 3 (.slice none 0 0))
  have F11 := hide (F10.out.setLoc G1.out 3 (.slice none 0 0))
  clear H10 F10
  have LB1_2_4_6_8_9_10_11_12 := hide (loc_set (i := 4) (v := .bool false) LB1_2_4_6_8_9_10_11.out)
  clear LB1_2_4_6_8_9_10_11
  have H12 := hide (H11.out.setLoc Q1.out 4 (.bool false))
  have F12 := hide (F11.out.setLoc G1.out 4 (.bool false))
  clear H11 F11
  have LB1_2_4_6_8_9_10_11_12_13 := hide (loc_set (i := 5) (v := .int .i64 0) LB1_2_4_6_8_9_10_11_12.out)
  clear LB1_2_4_6_8_9_10_11_12
  have H13 := hide (H12.out.setLoc Q1.out 5 (.int .i64 0))
  have F13 := hide (F12.out.setLoc G1.out 5 (.int .i64 0))
  clear H12 F12
  have LB1_2_4_6_8_9_10_11_12_13_14 := hide (loc_set (i := 6) (v := .slice none 0 0) LB1_2_4_6_8_9_10_11_12_13.out)
  clear LB1_2_4_6_8_9_10_11_12_13
  have H14 := hide (H13.out.setLoc Q1.out 6 (.slice none 0 0))
  have F14 := hide (F13.out.setLoc G1.out 6 (.slice none 0 0))
  clear H13 F13
  have LB1_2_4_6_8_9_10_11_12_13_14_15 := hide (loc_set (i := 7) (v := .int .i64 0) LB1_2_4_6_8_9_10_11_12_13_14.out)
  clear LB1_2_4_6_8_9_10_11_12_13_14
  have H15 := hide (H14.out.setLoc Q1.out 7 (.int .i64 0))
  have F15 := hide (F14.out.setLoc G1.out 7 (.int .i64 0))
  clear H14 F14
  have LB1_2_4_6_8_9_10_11_12_13_14_15_16 := hide (loc_set (i := 8) (v := .slice none 0 0) LB1_2_4_6_8_9_10_11_12_13_14_15.out)
  clear LB1_2_4_6_8_9_10_11_12_13_14_15
  have H16 := hide (H15.out.setLoc Q1.out 8 (.slice none 0 0))
  have F16 := hide (F15.out.setLoc G1.out 8 (.slice none 0 0))
  clear H15 F15
  have LB1_2_4_6_8_9_10_11_12_13_14_15_16_17 := hide (loc_set (i := 9) (v := .string ⟨a2.toArray⟩) LB1_2_4_6_8_9_10_11_12_13_14_15_16.out)
  clear LB1_2_4_6_8_9_10_11_12_13_14_15_16
  have H17 := hide (H16.out.setLoc Q1.out 9 (.string ⟨a2.toArray⟩))
  have F17 := hide (F16.out.setLoc G1.out 9 (.string ⟨a2.toArray⟩))
  clear H16 F16
  have LB1_2_4_6_8_9_10_11_12_13_14_15_16_17_18 := hide (loc_set (i := 10) (v := .string ⟨a6.toArray⟩) LB1_2_4_6_8_9_10_11_12_13_14_15_16_17.out)
  clear LB1_2_4_6_8_9_10_11_12_13_14_15_16_17
  have H18 := hide (H17.out.setLoc Q1.out 10 (.string ⟨a6.toArray⟩))
  have F18 := hide (F17.out.setLoc G1.out 10 (.string ⟨a6.toArray⟩))
  clear H17 F17
  exact .of_ok HO6.out (⟨_, _, _, rfl, Rows.nil _ _ _ _ _, Rows.nil _ _ _ _ _, Rows.nil _ _ _ _ _⟩) H18.out F18.out

set_option maxRecDepth 100000 in
set_option maxHeartbeats 1600000 in
theorem premise_any (h : Rd R L N s st w) (o : Out PremM) (ho : premiseM FN (kt L) s = o) :
    Calls Tryz.prog 132 #[.pointer (some ⟨R, 0, none⟩)] w (Ends R L N st w (vPrem (New w)) o) := by
  have HO := hide ho
  have H := hide h
  have F := hide (Fq.refl R w)
  clear h ho
  have ho := ask_go HO.out
  clear HO
  have CA0 := hide (fun w h => ahead_any R L N s st w h 0 (by omega))
  rw [show s.n + 0 = s.n from rfl] at CA0
  by_cases hk1 : kd (kt L) s.n = 1
  · have hk := hk1
    clear hk1
    have CM := hide (markCall L (s.n + 1) (placeAt L N (s.n + 1)) [33, 61])
    cases hm : markAt (kt L) (s.n + 1) [33, 61] with
    | true =>
      rw [hm] at CM
      have HO := hide (ite_t ho (by simp [hk, hm]))
      rw [hk] at CA0
      clear ho hk hm
      go_enter Tryz.func132, Tryz.ntmps132
      have B19 : Below _ _ ((w).alloc (.cells #[.int .i64 0, .bool false, .string ⟨#[]⟩, .slice none 0 0, .bool false, .int .i64 0, .slice none 0 0, .int .i64 0, .slice none 0 0, .string ⟨#[]⟩, .string ⟨#[]⟩] 107)) := (Below.refl _ _).alloc (Nat.le_refl _) _
      have Q19 : Hid (R < w.heap.size) := hide H.out.lt
      have G19 : Hid (w.heap.size ≤ w.heap.size) := hide F.out.size
      have LB19 := hide (heap_alloc_new (w) (.cells #[.int .i64 0, .bool false, .string ⟨#[]⟩, .slice none 0 0, .bool false, .int .i64 0, .slice none 0 0, .int .i64 0, .slice none 0 0, .string ⟨#[]⟩, .string ⟨#[]⟩] 107))
      have H19 := hide (H.out.below B19)
      have F19 := hide (F.out.trans (Fq.of_below B19))
      clear H F B19
      go_wp2_with fail
      refine (CA0.out _ H19.out).mono ?_
      rintro _ w20 ⟨rfl, hb⟩
      have LB19_20 := hide ((hb.block _ (loc_lt LB19.out)).trans LB19.out)
      clear LB19
      have H20 := hide (H19.out.below hb)
      have F20 := hide (F19.out.trans (Fq.of_below hb))
      clear hb H19 F19
      obtain ⟨z21_0, z21_1, z21_2, z21_3, z21_4, z21_5, z21_6, z21_7, z21_8, z21_9, z21_10, y21⟩ := row11 LB19_20.out
      have B22 : Below _ _ ((w20).alloc (.cells #[.int .i64 1, .string ⟨(tx (kt L) s.n).toArray⟩, .int .i64 (placeAt L N s.n)] 50)) := (Below.refl _ _).alloc (Nat.le_refl _) _
      have Q22 : Hid (R < w20.heap.size) := hide H20.out.lt
      have G22 : Hid (w.heap.size ≤ w20.heap.size) := hide F20.out.size
      have NE_0_1 : Hid (w.heap.size ≠ w20.heap.size) := hide (Nat.ne_of_lt (loc_lt LB19_20.out))
      have NE_1_0 : Hid (w20.heap.size ≠ w.heap.size) := hide (Nat.ne_of_gt (loc_lt LB19_20.out))
      have LB19_20_22 := hide ((B22.block _ (loc_lt LB19_20.out)).trans LB19_20.out)
      clear LB19_20
      have LB22 := hide (heap_alloc_new (w20) (.cells #[.int .i64 1, .string ⟨(tx (kt L) s.n).toArray⟩, .int .i64 (placeAt L N s.n)] 50))
      have H22 := hide (H20.out.below B22)
      have F22 := hide (F20.out.trans (Fq.of_below B22))
      clear H20 F20 B22
      obtain ⟨z23_0, z23_1, z23_2, z23_3, z23_4, z23_5, z23_6, z23_7, z23_8, z23_9, z23_10, y23⟩ := row11 LB19_20_22.out
      obtain ⟨z24_0, z24_1, z24_2, y24⟩ := row3 LB22.out
      have x25 := NE_0_1.out
      have x26 := NE_1_0.out
      go_wp2_with fail
      refine (ahead_any R L N s st _ H22.out 1 (by omega)).mono ?_
      rintro _ w27 ⟨rfl, hb⟩
      clear z21_0 z21_1 z21_2 z21_3 z21_4 z21_5 z21_6 z21_7 z21_8 z21_9 z21_10 y21 z23_0 z23_1 z23_2 z23_3 z23_4 z23_5 z23_6 z23_7 z23_8 z23_9 z23_10 y23 z24_0 z24_1 z24_2 y24 x25 x26
      have LB19_20_22_27 := hide ((hb.block _ (loc_lt LB19_20_22.out)).trans LB19_20_22.out)
      clear LB19_20_22
      have LB22_27 := hide ((hb.block _ (loc_lt LB22.out)).trans LB22.out)
      clear LB22
      have H27 := hide (H22.out.below hb)
      have F27 := hide (F22.out.trans (Fq.of_below hb))
      clear hb H22 F22
      obtain ⟨z28_0, z28_1, z28_2, z28_3, z28_4, z28_5, z28_6, z28_7, z28_8, z28_9, z28_10, y28⟩ := row11 LB19_20_22_27.out
      obtain ⟨z29_0, z29_1, z29_2, y29⟩ := row3 LB22_27.out
      have x30 := NE_0_1.out
      have x31 := NE_1_0.out
      go_wp2_with fail
      refine (CM.out _).mono ?_
      rintro _ w32 ⟨rfl, hb⟩
      clear z28_0 z28_1 z28_2 z28_3 z28_4 z28_5 z28_6 z28_7 z28_8 z28_9 z28_10 y28 z29_0 z29_1 z29_2 y29 x30 x31
      have LB19_20_22_27_32 := hide ((hb.block _ (loc_lt LB19_20_22_27.out)).trans LB19_20_22_27.out)
      clear LB19_20_22_27
      have LB22_27_32 := hide ((hb.block _ (loc_lt LB22_27.out)).trans LB22_27.out)
      clear LB22_27
      have H32 := hide (H27.out.below hb)
      have F32 := hide (F27.out.trans (Fq.of_below hb))
      clear hb H27 F27
      obtain ⟨z33_0, z33_1, z33_2, z33_3, z33_4, z33_5, z33_6, z33_7, z33_8, z33_9, z33_10, y33⟩ := row11 LB19_20_22_27_32.out
      obtain ⟨z34_0, z34_1, z34_2, y34⟩ := row3 LB22_27_32.out
      have x35 := NE_0_1.out
      have x36 := NE_1_0.out
      have C37 := hide (unlike_any R L N s st _ H32.out _ rfl)
      go_wp2_with fail
      refine C37.out.mono ?_
      intro e w37 he
      rcases he.split with ⟨a37, s37, v37, ho, rfl, hv, hR, hF⟩ | ⟨c, m, ho, rfl, hF⟩
      rotate_left 1
      · exact on_panic rfl (.of_bad (ho.symm.trans HO.out) (F32.out.trans hF))
      clear z33_0 z33_1 z33_2 z33_3 z33_4 z33_5 z33_6 z33_7 z33_8 z33_9 z33_10 y33 z34_0 z34_1 z34_2 y34 x35 x36
      have HO37 := hide (ho.symm.trans HO.out)
      have LB19_20_22_27_32_37 := hide (hF.loc LB19_20_22_27_32.out (Nat.ne_of_gt Q19.out))
      clear LB19_20_22_27_32
      have LB22_27_32_37 := hide (hF.loc LB22_27_32.out (Nat.ne_of_gt Q22.out))
      clear LB22_27_32
      have H37 := hide hR
      have F37 := hide (F32.out.trans hF)
      obtain ⟨av37, lv37, rv37, rfl, hv0_37, hv1_37, hv2_37⟩ := hv
      obtain ⟨p0_37, r0_37, rfl⟩ := rows_form hv0_37
      have V0_37 := hide (Strs.mono hv0_37 fun g hg => Nat.le_trans F32.out.size hg)
      clear hv0_37
      obtain ⟨p1_37, r1_37, rfl⟩ := rows_form hv1_37
      have V1_37 := hide (Terms.mono hv1_37 fun g hg => Nat.le_trans F32.out.size hg)
      clear hv1_37
      obtain ⟨p2_37, r2_37, rfl⟩ := rows_form hv2_37
      have V2_37 := hide (Terms.mono hv2_37 fun g hg => Nat.le_trans F32.out.size hg)
      clear hv2_37
      clear he ho hR hF C37 H32 F32 HO
      obtain ⟨z38_0, z38_1, z38_2, z38_3, z38_4, z38_5, z38_6, z38_7, z38_8, z38_9, z38_10, y38⟩ := row11 LB19_20_22_27_32_37.out
      obtain ⟨z39_0, z39_1, z39_2, y39⟩ := row3 LB22_27_32_37.out
      have x40 := NE_0_1.out
      have x41 := NE_1_0.out
      go_wp2_with fail
      have hz := (And.intro z38_0 (And.intro z38_1 (And.intro z38_2 (And.intro z38_3 (And.intro z38_4 (And.intro z38_5 (And.intro z38_6 (And.intro z38_7 (And.intro z38_8 (And.intro z38_9 (And.intro z38_10 (And.intro y38 (And.intro z39_0 (And.intro z39_1 (And.intro z39_2 (And.intro y39 (And.intro x40 x41)))))))))))))))))
      simp [bodyPost, results, Tryz.results132, go_sem, hz]
      have V0_37_42 := hide (Strs.keep V0_37.out (Kp.setLoc (T := [9]) (i := 0) (v := .int .i64 a37.kind) LB19_20_22_27_32_37.out (by decide)) (by decide))
      clear V0_37
      have V1_37_42 := hide (Terms.keep V1_37.out (Kp.setLoc (T := [9, 109]) (i := 0) (v := .int .i64 a37.kind) LB19_20_22_27_32_37.out (by decide)) (by decide) (by decide))
      clear V1_37
      have V2_37_42 := hide (Terms.keep V2_37.out (Kp.setLoc (T := [9, 109]) (i := 0) (v := .int .i64 a37.kind) LB19_20_22_27_32_37.out (by decide)) (by decide) (by decide))
      clear V2_37
      have LB19_20_22_27_32_37_42 := hide (loc_set (i := 0) (v := .int .i64 a37.kind) LB19_20_22_27_32_37.out)
      have LB22_27_32_37_42 := hide (loc_other (p := ⟨w.heap.size, 0, none⟩) (v := .int .i64 a37.kind) LB22_27_32_37.out (NE_1_0.out))
      clear LB19_20_22_27_32_37 LB22_27_32_37
      have H42 := hide (H37.out.setLoc Q19.out 0 (.int .i64 a37.kind))
      have F42 := hide (F37.out.setLoc G19.out 0 (.int .i64 a37.kind))
      clear H37 F37
      have V0_37_42_43 := hide (Strs.keep V0_37_42.out (Kp.setLoc (T := [9]) (i := 1) (v := .bool a37.lit.neg) LB19_20_22_27_32_37_42.out (by decide)) (by decide))
      clear V0_37_42
      have V1_37_42_43 := hide (Terms.keep V1_37_42.out (Kp.setLoc (T := [9, 109]) (i := 1) (v := .bool a37.lit.neg) LB19_20_22_27_32_37_42.out (by decide)) (by decide) (by decide))
      clear V1_37_42
      have V2_37_42_43 := hide (Terms.keep V2_37_42.out (Kp.setLoc (T := [9, 109]) (i := 1) (v := .bool a37.lit.neg) LB19_20_22_27_32_37_42.out (by decide)) (by decide) (by decide))
      clear V2_37_42
      have LB19_20_22_27_32_37_42_43 := hide (loc_set (i := 1) (v := .bool a37.lit.neg) LB19_20_22_27_32_37_42.out)
      have LB22_27_32_37_42_43 := hide (loc_other (p := ⟨w.heap.size, 1, none⟩) (v := .bool a37.lit.neg) LB22_27_32_37_42.out (NE_1_0.out))
      clear LB19_20_22_27_32_37_42 LB22_27_32_37_42
      have H43 := hide (H42.out.setLoc Q19.out 1 (.bool a37.lit.neg))
      have F43 := hide (F42.out.setLoc G19.out 1 (.bool a37.lit.neg))
      clear H42 F42
      have V0_37_42_43_44 := hide (Strs.keep V0_37_42_43.out (Kp.setLoc (T := [9]) (i := 2) (v := .string ⟨a37.lit.pred.toArray⟩) LB19_20_22_27_32_37_42_43.out (by decide)) (by decide))
      clear V0_37_42_43
      have V1_37_42_43_44 := hide (Terms.keep V1_37_42_43.out (Kp.setLoc (T := [9, 109]) (i := 2) (v := .string ⟨a37.lit.pred.toArray⟩) LB19_20_22_27_32_37_42_43.out (by decide)) (by decide) (by decide))
      clear V1_37_42_43
      have V2_37_42_43_44 := hide (Terms.keep V2_37_42_43.out (Kp.setLoc (T := [9, 109]) (i := 2) (v := .string ⟨a37.lit.pred.toArray⟩) LB19_20_22_27_32_37_42_43.out (by decide)) (by decide) (by decide))
      clear V2_37_42_43
      have LB19_20_22_27_32_37_42_43_44 := hide (loc_set (i := 2) (v := .string ⟨a37.lit.pred.toArray⟩) LB19_20_22_27_32_37_42_43.out)
      have LB22_27_32_37_42_43_44 := hide (loc_other (p := ⟨w.heap.size, 2, none⟩) (v := .string ⟨a37.lit.pred.toArray⟩) LB22_27_32_37_42_43.out (NE_1_0.out))
      clear LB19_20_22_27_32_37_42_43 LB22_27_32_37_42_43
      have H44 := hide (H43.out.setLoc Q19.out 2 (.string ⟨a37.lit.pred.toArray⟩))
      have F44 := hide (F43.out.setLoc G19.out 2 (.string ⟨a37.lit.pred.toArray⟩))
      clear H43 F43
      have V0_37_42_43_44_45 := hide (Strs.keep V0_37_42_43_44.out (Kp.setLoc (T := [9]) (i := 3) (v := .slice p0_37 a37.lit.args.length r0_37) LB19_20_22_27_32_37_42_43_44.out (by decide)) (by decide))
      clear V0_37_42_43_44
      have V1_37_42_43_44_45 := hide (Terms.keep V1_37_42_43_44.out (Kp.setLoc (T := [9, 109]) (i := 3) (v := .slice p0_37 a37.lit.args.length r0_37) LB19_20_22_27_32_37_42_43_44.out (by decide)) (by decide) (by decide))
      clear V1_37_42_43_44
      have V2_37_42_43_44_45 := hide (Terms.keep V2_37_42_43_44.out (Kp.setLoc (T := [9, 109]) (i := 3) (v := .slice p0_37 a37.lit.args.length r0_37) LB19_20_22_27_32_37_42_43_44.out (by decide)) (by decide) (by decide))
      clear V2_37_42_43_44
      have LB19_20_22_27_32_37_42_43_44_45 := hide (loc_set (i := 3) (v := .slice p0_37 a37.lit.args.length r0_37) LB19_20_22_27_32_37_42_43_44.out)
      have LB22_27_32_37_42_43_44_45 := hide (loc_other (p := ⟨w.heap.size, 3, none⟩) (v := .slice p0_37 a37.lit.args.length r0_37) LB22_27_32_37_42_43_44.out (NE_1_0.out))
      clear LB19_20_22_27_32_37_42_43_44 LB22_27_32_37_42_43_44
      have H45 := hide (H44.out.setLoc Q19.out 3 (.slice p0_37 a37.lit.args.length r0_37))
      have F45 := hide (F44.out.setLoc G19.out 3 (.slice p0_37 a37.lit.args.length r0_37))
      clear H44 F44
      have V0_37_42_43_44_45_46 := hide (Strs.keep V0_37_42_43_44_45.out (Kp.setLoc (T := [9]) (i := 4) (v := .bool a37.lit.hasValue) LB19_20_22_27_32_37_42_43_44_45.out (by decide)) (by decide))
      clear V0_37_42_43_44_45
      have V1_37_42_43_44_45_46 := hide (Terms.keep V1_37_42_43_44_45.out (Kp.setLoc (T := [9, 109]) (i := 4) (v := .bool a37.lit.hasValue) LB19_20_22_27_32_37_42_43_44_45.out (by decide)) (by decide) (by decide))
      clear V1_37_42_43_44_45
      have V2_37_42_43_44_45_46 := hide (Terms.keep V2_37_42_43_44_45.out (Kp.setLoc (T := [9, 109]) (i := 4) (v := .bool a37.lit.hasValue) LB19_20_22_27_32_37_42_43_44_45.out (by decide)) (by decide) (by decide))
      clear V2_37_42_43_44_45
      have LB19_20_22_27_32_37_42_43_44_45_46 := hide (loc_set (i := 4) (v := .bool a37.lit.hasValue) LB19_20_22_27_32_37_42_43_44_45.out)
      have LB22_27_32_37_42_43_44_45_46 := hide (loc_other (p := ⟨w.heap.size, 4, none⟩) (v := .bool a37.lit.hasValue) LB22_27_32_37_42_43_44_45.out (NE_1_0.out))
      clear LB19_20_22_27_32_37_42_43_44_45 LB22_27_32_37_42_43_44_45
      have H46 := hide (H45.out.setLoc Q19.out 4 (.bool a37.lit.hasValue))
      have F46 := hide (F45.out.setLoc G19.out 4 (.bool a37.lit.hasValue))
      clear H45 F45
      have V0_37_42_43_44_45_46_47 := hide (Strs.keep V0_37_42_43_44_45_46.out (Kp.setLoc (T := [9]) (i := 5) (v := .int .i64 a37.lit.value) LB19_20_22_27_32_37_42_43_44_45_46.out (by decide)) (by decide))
      clear V0_37_42_43_44_45_46
      have V1_37_42_43_44_45_46_47 := hide (Terms.keep V1_37_42_43_44_45_46.out (Kp.setLoc (T := [9, 109]) (i := 5) (v := .int .i64 a37.lit.value) LB19_20_22_27_32_37_42_43_44_45_46.out (by decide)) (by decide) (by decide))
      clear V1_37_42_43_44_45_46
      have V2_37_42_43_44_45_46_47 := hide (Terms.keep V2_37_42_43_44_45_46.out (Kp.setLoc (T := [9, 109]) (i := 5) (v := .int .i64 a37.lit.value) LB19_20_22_27_32_37_42_43_44_45_46.out (by decide)) (by decide) (by decide))
      clear V2_37_42_43_44_45_46
      have LB19_20_22_27_32_37_42_43_44_45_46_47 := hide (loc_set (i := 5) (v := .int .i64 a37.lit.value) LB19_20_22_27_32_37_42_43_44_45_46.out)
      have LB22_27_32_37_42_43_44_45_46_47 := hide (loc_other (p := ⟨w.heap.size, 5, none⟩) (v := .int .i64 a37.lit.value) LB22_27_32_37_42_43_44_45_46.out (NE_1_0.out))
      clear LB19_20_22_27_32_37_42_43_44_45_46 LB22_27_32_37_42_43_44_45_46
      have H47 := hide (H46.out.setLoc Q19.out 5 (.int .i64 a37.lit.value))
      have F47 := hide (F46.out.setLoc G19.out 5 (.int .i64 a37.lit.value))
      clear H46 F46
      have V0_37_42_43_44_45_46_47_48 := hide (Strs.keep V0_37_42_43_44_45_46_47.out (Kp.setLoc (T := [9]) (i := 6) (v := .slice p1_37 a37.guard.left.length r1_37) LB19_20_22_27_32_37_42_43_44_45_46_47.out (by decide)) (by decide))
      clear V0_37_42_43_44_45_46_47
      have V1_37_42_43_44_45_46_47_48 := hide (Terms.keep V1_37_42_43_44_45_46_47.out (Kp.setLoc (T := [9, 109]) (i := 6) (v := .slice p1_37 a37.guard.left.length r1_37) LB19_20_22_27_32_37_42_43_44_45_46_47.out (by decide)) (by decide) (by decide))
      clear V1_37_42_43_44_45_46_47
      have V2_37_42_43_44_45_46_47_48 := hide (Terms.keep V2_37_42_43_44_45_46_47.out (Kp.setLoc (T := [9, 109]) (i := 6) (v := .slice p1_37 a37.guard.left.length r1_37) LB19_20_22_27_32_37_42_43_44_45_46_47.out (by decide)) (by decide) (by decide))
      clear V2_37_42_43_44_45_46_47
      have LB19_20_22_27_32_37_42_43_44_45_46_47_48 := hide (loc_set (i := 6) (v := .slice p1_37 a37.guard.left.length r1_37) LB19_20_22_27_32_37_42_43_44_45_46_47.out)
      have LB22_27_32_37_42_43_44_45_46_47_48 := hide (loc_other (p := ⟨w.heap.size, 6, none⟩) (v := .slice p1_37 a37.guard.left.length r1_37) LB22_27_32_37_42_43_44_45_46_47.out (NE_1_0.out))
      clear LB19_20_22_27_32_37_42_43_44_45_46_47 LB22_27_32_37_42_43_44_45_46_47
      have H48 := hide (H47.out.setLoc Q19.out 6 (.slice p1_37 a37.guard.left.length r1_37))
      have F48 := hide (F47.out.setLoc G19.out 6 (.slice p1_37 a37.guard.left.length r1_37))
      clear H47 F47
      have V0_37_42_43_44_45_46_47_48_49 := hide (Strs.keep V0_37_42_43_44_45_46_47_48.out (Kp.setLoc (T := [9]) (i := 7) (v := .int .i64 a37.guard.op) LB19_20_22_27_32_37_42_43_44_45_46_47_48.out (by decide)) (by decide))
      clear V0_37_42_43_44_45_46_47_48
      have V1_37_42_43_44_45_46_47_48_49 := hide (Terms.keep V1_37_42_43_44_45_46_47_48.out (Kp.setLoc (T := [9, 109]) (i := 7) (v := .int .i64 a37.guard.op) LB19_20_22_27_32_37_42_43_44_45_46_47_48.out (by decide)) (by decide) (by decide))
      clear V1_37_42_43_44_45_46_47_48
      have V2_37_42_43_44_45_46_47_48_49 := hide (Terms.keep V2_37_42_43_44_45_46_47_48.out (Kp.setLoc (T := [9, 109]) (i := 7) (v := .int .i64 a37.guard.op) LB19_20_22_27_32_37_42_43_44_45_46_47_48.out (by decide)) (by decide) (by decide))
      clear V2_37_42_43_44_45_46_47_48
      have LB19_20_22_27_32_37_42_43_44_45_46_47_48_49 := hide (loc_set (i := 7) (v := .int .i64 a37.guard.op) LB19_20_22_27_32_37_42_43_44_45_46_47_48.out)
      have LB22_27_32_37_42_43_44_45_46_47_48_49 := hide (loc_other (p := ⟨w.heap.size, 7, none⟩) (v := .int .i64 a37.guard.op) LB22_27_32_37_42_43_44_45_46_47_48.out (NE_1_0.out))
      clear LB19_20_22_27_32_37_42_43_44_45_46_47_48 LB22_27_32_37_42_43_44_45_46_47_48
      have H49 := hide (H48.out.setLoc Q19.out 7 (.int .i64 a37.guard.op))
      have F49 := hide (F48.out.setLoc G19.out 7 (.int .i64 a37.guard.op))
      clear H48 F48
      have V0_37_42_43_44_45_46_47_48_49_50 := hide (Strs.keep V0_37_42_43_44_45_46_47_48_49.out (Kp.setLoc (T := [9]) (i := 8) (v := .slice p2_37 a37.guard.right.length r2_37) LB19_20_22_27_32_37_42_43_44_45_46_47_48_49.out (by decide)) (by decide))
      clear V0_37_42_43_44_45_46_47_48_49
      have V1_37_42_43_44_45_46_47_48_49_50 := hide (Terms.keep V1_37_42_43_44_45_46_47_48_49.out (Kp.setLoc (T := [9, 109]) (i := 8) (v := .slice p2_37 a37.guard.right.length r2_37) LB19_20_22_27_32_37_42_43_44_45_46_47_48_49.out (by decide)) (by decide) (by decide))
      clear V1_37_42_43_44_45_46_47_48_49
      have V2_37_42_43_44_45_46_47_48_49_50 := hide (Terms.keep V2_37_42_43_44_45_46_47_48_49.out (Kp.setLoc (T := [9, 109]) (i := 8) (v := .slice p2_37 a37.guard.right.length r2_37) LB19_20_22_27_32_37_42_43_44_45_46_47_48_49.out (by decide)) (by decide) (by decide))
      clear V2_37_42_43_44_45_46_47_48_49
      have LB19_20_22_27_32_37_42_43_44_45_46_47_48_49_50 := hide (loc_set (i := 8) (v := .slice p2_37 a37.guard.right.length r2_37) LB19_20_22_27_32_37_42_43_44_45_46_47_48_49.out)
      have LB22_27_32_37_42_43_44_45_46_47_48_49_50 := hide (loc_other (p := ⟨w.heap.size, 8, none⟩) (v := .slice p2_37 a37.guard.right.length r2_37) LB22_27_32_37_42_43_44_45_46_47_48_49.out (NE_1_0.out))
      clear LB19_20_22_27_32_37_42_43_44_45_46_47_48_49 LB22_27_32_37_42_43_44_45_46_47_48_49
      have H50 := hide (H49.out.setLoc Q19.out 8 (.slice p2_37 a37.guard.right.length r2_37))
      have F50 := hide (F49.out.setLoc G19.out 8 (.slice p2_37 a37.guard.right.length r2_37))
      clear H49 F49
      have V0_37_42_43_44_45_46_47_48_49_50_51 := hide (Strs.keep V0_37_42_43_44_45_46_47_48_49_50.out (Kp.setLoc (T := [9]) (i := 9) (v := .string ⟨a37.a.toArray⟩) LB19_20_22_27_32_37_42_43_44_45_46_47_48_49_50.out (by decide)) (by decide))
      clear V0_37_42_43_44_45_46_47_48_49_50
      have V1_37_42_43_44_45_46_47_48_49_50_51 := hide (Terms.keep V1_37_42_43_44_45_46_47_48_49_50.out (Kp.setLoc (T := [9, 109]) (i := 9) (v := .string ⟨a37.a.toArray⟩) LB19_20_22_27_32_37_42_43_44_45_46_47_48_49_50.out (by decide)) (by decide) (by decide))
      clear V1_37_42_43_44_45_46_47_48_49_50
      have V2_37_42_43_44_45_46_47_48_49_50_51 := hide (Terms.keep V2_37_42_43_44_45_46_47_48_49_50.out (Kp.setLoc (T := [9, 109]) (i := 9) (v := .string ⟨a37.a.toArray⟩) LB19_20_22_27_32_37_42_43_44_45_46_47_48_49_50.out (by decide)) (by decide) (by decide))
      clear V2_37_42_43_44_45_46_47_48_49_50
      have LB19_20_22_27_32_37_42_43_44_45_46_47_48_49_50_51 := hide (loc_set (i := 9) (v := .string ⟨a37.a.toArray⟩) LB19_20_22_27_32_37_42_43_44_45_46_47_48_49_50.out)
      have LB22_27_32_37_42_43_44_45_46_47_48_49_50_51 := hide (loc_other (p := ⟨w.heap.size, 9, none⟩) (v := .string ⟨a37.a.toArray⟩) LB22_27_32_37_42_43_44_45_46_47_48_49_50.out (NE_1_0.out))
      clear LB19_20_22_27_32_37_42_43_44_45_46_47_48_49_50 LB22_27_32_37_42_43_44_45_46_47_48_49_50
      have H51 := hide (H50.out.setLoc Q19.out 9 (.string ⟨a37.a.toArray⟩))
      have F51 := hide (F50.out.setLoc G19.out 9 (.string ⟨a37.a.toArray⟩))
      clear H50 F50
      have V0_37_42_43_44_45_46_47_48_49_50_51_52 := hide (Strs.keep V0_37_42_43_44_45_46_47_48_49_50_51.out (Kp.setLoc (T := [9]) (i := 10) (v := .string ⟨a37.b.toArray⟩) LB19_20_22_27_32_37_42_43_44_45_46_47_48_49_50_51.out (by decide)) (by decide))
      clear V0_37_42_43_44_45_46_47_48_49_50_51
      have V1_37_42_43_44_45_46_47_48_49_50_51_52 := hide (Terms.keep V1_37_42_43_44_45_46_47_48_49_50_51.out (Kp.setLoc (T := [9, 109]) (i := 10) (v := .string ⟨a37.b.toArray⟩) LB19_20_22_27_32_37_42_43_44_45_46_47_48_49_50_51.out (by decide)) (by decide) (by decide))
      clear V1_37_42_43_44_45_46_47_48_49_50_51
      have V2_37_42_43_44_45_46_47_48_49_50_51_52 := hide (Terms.keep V2_37_42_43_44_45_46_47_48_49_50_51.out (Kp.setLoc (T := [9, 109]) (i := 10) (v := .string ⟨a37.b.toArray⟩) LB19_20_22_27_32_37_42_43_44_45_46_47_48_49_50_51.out (by decide)) (by decide) (by decide))
      clear V2_37_42_43_44_45_46_47_48_49_50_51
      have LB19_20_22_27_32_37_42_43_44_45_46_47_48_49_50_51_52 := hide (loc_set (i := 10) (v := .string ⟨a37.b.toArray⟩) LB19_20_22_27_32_37_42_43_44_45_46_47_48_49_50_51.out)
      have LB22_27_32_37_42_43_44_45_46_47_48_49_50_51_52 := hide (loc_other (p := ⟨w.heap.size, 10, none⟩) (v := .string ⟨a37.b.toArray⟩) LB22_27_32_37_42_43_44_45_46_47_48_49_50_51.out (NE_1_0.out))
      clear LB19_20_22_27_32_37_42_43_44_45_46_47_48_49_50_51 LB22_27_32_37_42_43_44_45_46_47_48_49_50_51
      have H52 := hide (H51.out.setLoc Q19.out 10 (.string ⟨a37.b.toArray⟩))
      have F52 := hide (F51.out.setLoc G19.out 10 (.string ⟨a37.b.toArray⟩))
      clear H51 F51
      exact .of_ok HO37.out (⟨_, _, _, rfl, V0_37_42_43_44_45_46_47_48_49_50_51_52.out, V1_37_42_43_44_45_46_47_48_49_50_51_52.out, V2_37_42_43_44_45_46_47_48_49_50_51_52.out⟩) H52.out F52.out
    | false =>
      rw [hm] at CM
      have HO := hide (ite_f ho (by simp [hm]))
      have ho2 := ask_go HO.out
      have CN := hide (markCall L s.n (placeAt L N s.n) [123])
      cases hm2 : markAt (kt L) s.n [123] with
      | true =>
        rw [hm2] at CN
        clear HO
        have HO := hide (ite_t ho2 hm2)
        rw [hk] at CA0 CN
        clear ho ho2 hk hm hm2
        go_enter Tryz.func132, Tryz.ntmps132
        have B53 : Below _ _ ((w).alloc (.cells #[.int .i64 0, .bool false, .string ⟨#[]⟩, .slice none 0 0, .bool false, .int .i64 0, .slice none 0 0, .int .i64 0, .slice none 0 0, .string ⟨#[]⟩, .string ⟨#[]⟩] 107)) := (Below.refl _ _).alloc (Nat.le_refl _) _
        have Q53 : Hid (R < w.heap.size) := hide H.out.lt
        have G53 : Hid (w.heap.size ≤ w.heap.size) := hide F.out.size
        have LB53 := hide (heap_alloc_new (w) (.cells #[.int .i64 0, .bool false, .string ⟨#[]⟩, .slice none 0 0, .bool false, .int .i64 0, .slice none 0 0, .int .i64 0, .slice none 0 0, .string ⟨#[]⟩, .string ⟨#[]⟩] 107))
        have H53 := hide (H.out.below B53)
        have F53 := hide (F.out.trans (Fq.of_below B53))
        clear H F B53
        go_wp2_with fail
        refine (CA0.out _ H53.out).mono ?_
        rintro _ w54 ⟨rfl, hb⟩
        have LB53_54 := hide ((hb.block _ (loc_lt LB53.out)).trans LB53.out)
        clear LB53
        have H54 := hide (H53.out.below hb)
        have F54 := hide (F53.out.trans (Fq.of_below hb))
        clear hb H53 F53
        obtain ⟨z55_0, z55_1, z55_2, z55_3, z55_4, z55_5, z55_6, z55_7, z55_8, z55_9, z55_10, y55⟩ := row11 LB53_54.out
        have B56 : Below _ _ ((w54).alloc (.cells #[.int .i64 1, .string ⟨(tx (kt L) s.n).toArray⟩, .int .i64 (placeAt L N s.n)] 50)) := (Below.refl _ _).alloc (Nat.le_refl _) _
        have Q56 : Hid (R < w54.heap.size) := hide H54.out.lt
        have G56 : Hid (w.heap.size ≤ w54.heap.size) := hide F54.out.size
        have NE_0_1 : Hid (w.heap.size ≠ w54.heap.size) := hide (Nat.ne_of_lt (loc_lt LB53_54.out))
        have NE_1_0 : Hid (w54.heap.size ≠ w.heap.size) := hide (Nat.ne_of_gt (loc_lt LB53_54.out))
        have LB53_54_56 := hide ((B56.block _ (loc_lt LB53_54.out)).trans LB53_54.out)
        clear LB53_54
        have LB56 := hide (heap_alloc_new (w54) (.cells #[.int .i64 1, .string ⟨(tx (kt L) s.n).toArray⟩, .int .i64 (placeAt L N s.n)] 50))
        have H56 := hide (H54.out.below B56)
        have F56 := hide (F54.out.trans (Fq.of_below B56))
        clear H54 F54 B56
        obtain ⟨z57_0, z57_1, z57_2, z57_3, z57_4, z57_5, z57_6, z57_7, z57_8, z57_9, z57_10, y57⟩ := row11 LB53_54_56.out
        obtain ⟨z58_0, z58_1, z58_2, y58⟩ := row3 LB56.out
        have x59 := NE_0_1.out
        have x60 := NE_1_0.out
        go_wp2_with fail
        refine (ahead_any R L N s st _ H56.out 1 (by omega)).mono ?_
        rintro _ w61 ⟨rfl, hb⟩
        clear z55_0 z55_1 z55_2 z55_3 z55_4 z55_5 z55_6 z55_7 z55_8 z55_9 z55_10 y55 z57_0 z57_1 z57_2 z57_3 z57_4 z57_5 z57_6 z57_7 z57_8 z57_9 z57_10 y57 z58_0 z58_1 z58_2 y58 x59 x60
        have LB53_54_56_61 := hide ((hb.block _ (loc_lt LB53_54_56.out)).trans LB53_54_56.out)
        clear LB53_54_56
        have LB56_61 := hide ((hb.block _ (loc_lt LB56.out)).trans LB56.out)
        clear LB56
        have H61 := hide (H56.out.below hb)
        have F61 := hide (F56.out.trans (Fq.of_below hb))
        clear hb H56 F56
        obtain ⟨z62_0, z62_1, z62_2, z62_3, z62_4, z62_5, z62_6, z62_7, z62_8, z62_9, z62_10, y62⟩ := row11 LB53_54_56_61.out
        obtain ⟨z63_0, z63_1, z63_2, y63⟩ := row3 LB56_61.out
        have x64 := NE_0_1.out
        have x65 := NE_1_0.out
        go_wp2_with fail
        refine (CM.out _).mono ?_
        rintro _ w66 ⟨rfl, hb⟩
        clear z62_0 z62_1 z62_2 z62_3 z62_4 z62_5 z62_6 z62_7 z62_8 z62_9 z62_10 y62 z63_0 z63_1 z63_2 y63 x64 x65
        have LB53_54_56_61_66 := hide ((hb.block _ (loc_lt LB53_54_56_61.out)).trans LB53_54_56_61.out)
        clear LB53_54_56_61
        have LB56_61_66 := hide ((hb.block _ (loc_lt LB56_61.out)).trans LB56_61.out)
        clear LB56_61
        have H66 := hide (H61.out.below hb)
        have F66 := hide (F61.out.trans (Fq.of_below hb))
        clear hb H61 F61
        obtain ⟨z67_0, z67_1, z67_2, z67_3, z67_4, z67_5, z67_6, z67_7, z67_8, z67_9, z67_10, y67⟩ := row11 LB53_54_56_61_66.out
        obtain ⟨z68_0, z68_1, z68_2, y68⟩ := row3 LB56_61_66.out
        have x69 := NE_0_1.out
        have x70 := NE_1_0.out
        go_wp2_with fail
        refine (CN.out _).mono ?_
        rintro _ w71 ⟨rfl, hb⟩
        clear z67_0 z67_1 z67_2 z67_3 z67_4 z67_5 z67_6 z67_7 z67_8 z67_9 z67_10 y67 z68_0 z68_1 z68_2 y68 x69 x70
        have LB53_54_56_61_66_71 := hide ((hb.block _ (loc_lt LB53_54_56_61_66.out)).trans LB53_54_56_61_66.out)
        clear LB53_54_56_61_66
        have LB56_61_66_71 := hide ((hb.block _ (loc_lt LB56_61_66.out)).trans LB56_61_66.out)
        clear LB56_61_66
        have H71 := hide (H66.out.below hb)
        have F71 := hide (F66.out.trans (Fq.of_below hb))
        clear hb H66 F66
        obtain ⟨z72_0, z72_1, z72_2, z72_3, z72_4, z72_5, z72_6, z72_7, z72_8, z72_9, z72_10, y72⟩ := row11 LB53_54_56_61_66_71.out
        obtain ⟨z73_0, z73_1, z73_2, y73⟩ := row3 LB56_61_66_71.out
        have x74 := NE_0_1.out
        have x75 := NE_1_0.out
        have C76 := hide (guard_any R L N s st _ H71.out _ rfl)
        go_wp2_with fail
        refine C76.out.mono ?_
        intro e w76 he
        rcases he.split with ⟨a76, s76, v76, ho, rfl, hv, hR, hF⟩ | ⟨c, m, ho, rfl, hF⟩
        rotate_left 1
        · exact on_panic rfl (.of_bad (bind_no HO.out ho) (F71.out.trans hF))
        clear z72_0 z72_1 z72_2 z72_3 z72_4 z72_5 z72_6 z72_7 z72_8 z72_9 z72_10 y72 z73_0 z73_1 z73_2 y73 x74 x75
        have HO76 := hide (bind_go HO.out ho)
        have LB53_54_56_61_66_71_76 := hide (hF.loc LB53_54_56_61_66_71.out (Nat.ne_of_gt Q53.out))
        clear LB53_54_56_61_66_71
        have LB56_61_66_71_76 := hide (hF.loc LB56_61_66_71.out (Nat.ne_of_gt Q56.out))
        clear LB56_61_66_71
        have H76 := hide hR
        have F76 := hide (F71.out.trans hF)
        obtain ⟨lv76, rv76, rfl, hv0_76, hv1_76⟩ := hv
        obtain ⟨p0_76, r0_76, rfl⟩ := rows_form hv0_76
        have V0_76 := hide (Terms.mono hv0_76 fun g hg => Nat.le_trans F71.out.size hg)
        clear hv0_76
        obtain ⟨p1_76, r1_76, rfl⟩ := rows_form hv1_76
        have V1_76 := hide (Terms.mono hv1_76 fun g hg => Nat.le_trans F71.out.size hg)
        clear hv1_76
        clear he ho hR hF C76 H71 F71 HO
        obtain ⟨z77_0, z77_1, z77_2, z77_3, z77_4, z77_5, z77_6, z77_7, z77_8, z77_9, z77_10, y77⟩ := row11 LB53_54_56_61_66_71_76.out
        obtain ⟨z78_0, z78_1, z78_2, y78⟩ := row3 LB56_61_66_71_76.out
        have x79 := NE_0_1.out
        have x80 := NE_1_0.out
        go_wp2_with fail
        have hz := (And.intro z77_0 (And.intro z77_1 (And.intro z77_2 (And.intro z77_3 (And.intro z77_4 (And.intro z77_5 (And.intro z77_6 (And.intro z77_7 (And.intro z77_8 (And.intro z77_9 (And.intro z77_10 (And.intro y77 (And.intro z78_0 (And.intro z78_1 (And.intro z78_2 (And.intro y78 (And.intro x79 x80)))))))))))))))))
        simp [bodyPost, results, Tryz.results132, go_sem, hz]
        have V0_76_81 := hide (Terms.keep V0_76.out (Kp.setLoc (T := [9, 109]) (i := 0) (v := .int .i64 2) LB53_54_56_61_66_71_76.out (by decide)) (by decide) (by decide))
        clear V0_76
        have V1_76_81 := hide (Terms.keep V1_76.out (Kp.setLoc (T := [9, 109]) (i := 0) (v := .int .i64 2) LB53_54_56_61_66_71_76.out (by decide)) (by decide) (by decide))
        clear V1_76
        have LB53_54_56_61_66_71_76_81 := hide (loc_set (i := 0) (v := .int .i64 2) LB53_54_56_61_66_71_76.out)
        have LB56_61_66_71_76_81 := hide (loc_other (p := ⟨w.heap.size, 0, none⟩) (v := .int .i64 2) LB56_61_66_71_76.out (NE_1_0.out))
        clear LB53_54_56_61_66_71_76 LB56_61_66_71_76
        have H81 := hide (H76.out.setLoc Q53.out 0 (.int .i64 2))
        have F81 := hide (F76.out.setLoc G53.out 0 (.int .i64 2))
        clear H76 F76
        have V0_76_81_82 := hide (Terms.keep V0_76_81.out (Kp.setLoc (T := [9, 109]) (i := 1) (v := .bool false) LB53_54_56_61_66_71_76_81.out (by decide)) (by decide) (by decide))
        clear V0_76_81
        have V1_76_81_82 := hide (Terms.keep V1_76_81.out (Kp.setLoc (T := [9, 109]) (i := 1) (v := .bool false) LB53_54_56_61_66_71_76_81.out (by decide)) (by decide) (by decide))
        clear V1_76_81
        have LB53_54_56_61_66_71_76_81_82 := hide (loc_set (i := 1) (v := .bool false) LB53_54_56_61_66_71_76_81.out)
        have LB56_61_66_71_76_81_82 := hide (loc_other (p := ⟨w.heap.size, 1, none⟩) (v := .bool false) LB56_61_66_71_76_81.out (NE_1_0.out))
        clear LB53_54_56_61_66_71_76_81 LB56_61_66_71_76_81
        have H82 := hide (H81.out.setLoc Q53.out 1 (.bool false))
        have F82 := hide (F81.out.setLoc G53.out 1 (.bool false))
        clear H81 F81
        have V0_76_81_82_83 := hide (Terms.keep V0_76_81_82.out (Kp.setLoc (T := [9, 109]) (i := 2) (v := .string ⟨#[]⟩) LB53_54_56_61_66_71_76_81_82.out (by decide)) (by decide) (by decide))
        clear V0_76_81_82
        have V1_76_81_82_83 := hide (Terms.keep V1_76_81_82.out (Kp.setLoc (T := [9, 109]) (i := 2) (v := .string ⟨#[]⟩) LB53_54_56_61_66_71_76_81_82.out (by decide)) (by decide) (by decide))
        clear V1_76_81_82
        have LB53_54_56_61_66_71_76_81_82_83 := hide (loc_set (i := 2) (v := .string ⟨#[]⟩) LB53_54_56_61_66_71_76_81_82.out)
        have LB56_61_66_71_76_81_82_83 := hide (loc_other (p := ⟨w.heap.size, 2, none⟩) (v := .string ⟨#[]⟩) LB56_61_66_71_76_81_82.out (NE_1_0.out))
        clear LB53_54_56_61_66_71_76_81_82 LB56_61_66_71_76_81_82
        have H83 := hide (H82.out.setLoc Q53.out 2 (.string ⟨#[]⟩))
        have F83 := hide (F82.out.setLoc G53.out 2 (.string ⟨#[]⟩))
        clear H82 F82
        have V0_76_81_82_83_84 := hide (Terms.keep V0_76_81_82_83.out (Kp.setLoc (T := [9, 109]) (i := 3) (v := .slice none 0 0) LB53_54_56_61_66_71_76_81_82_83.out (by decide)) (by decide) (by decide))
        clear V0_76_81_82_83
        have V1_76_81_82_83_84 := hide (Terms.keep V1_76_81_82_83.out (Kp.setLoc (T := [9, 109]) (i := 3) (v := .slice none 0 0) LB53_54_56_61_66_71_76_81_82_83.out (by decide)) (by decide) (by decide))
        clear V1_76_81_82_83
        have LB53_54_56_61_66_71_76_81_82_83_84 := hide (loc_set (i := 3) (v := .slice none 0 0) LB53_54_56_61_66_71_76_81_82_83.out)
        have LB56_61_66_71_76_81_82_83_84 := hide (loc_other (p := ⟨w.heap.size, 3, none⟩) (v := .slice none 0 0) LB56_61_66_71_76_81_82_83.out (NE_1_0.out))
        clear LB53_54_56_61_66_71_76_81_82_83 LB56_61_66_71_76_81_82_83
        have H84 := hide (H83.out.setLoc Q53.out 3 (.slice none 0 0))
        have F84 := hide (F83.out.setLoc G53.out 3 (.slice none 0 0))
        clear H83 F83
        have V0_76_81_82_83_84_85 := hide (Terms.keep V0_76_81_82_83_84.out (Kp.setLoc (T := [9, 109]) (i := 4) (v := .bool false) LB53_54_56_61_66_71_76_81_82_83_84.out (by decide)) (by decide) (by decide))
        clear V0_76_81_82_83_84
        have V1_76_81_82_83_84_85 := hide (Terms.keep V1_76_81_82_83_84.out (Kp.setLoc (T := [9, 109]) (i := 4) (v := .bool false) LB53_54_56_61_66_71_76_81_82_83_84.out (by decide)) (by decide) (by decide))
        clear V1_76_81_82_83_84
        have LB53_54_56_61_66_71_76_81_82_83_84_85 := hide (loc_set (i := 4) (v := .bool false) LB53_54_56_61_66_71_76_81_82_83_84.out)
        have LB56_61_66_71_76_81_82_83_84_85 := hide (loc_other (p := ⟨w.heap.size, 4, none⟩) (v := .bool false) LB56_61_66_71_76_81_82_83_84.out (NE_1_0.out))
        clear LB53_54_56_61_66_71_76_81_82_83_84 LB56_61_66_71_76_81_82_83_84
        have H85 := hide (H84.out.setLoc Q53.out 4 (.bool false))
        have F85 := hide (F84.out.setLoc G53.out 4 (.bool false))
        clear H84 F84
        have V0_76_81_82_83_84_85_86 := hide (Terms.keep V0_76_81_82_83_84_85.out (Kp.setLoc (T := [9, 109]) (i := 5) (v := .int .i64 0) LB53_54_56_61_66_71_76_81_82_83_84_85.out (by decide)) (by decide) (by decide))
        clear V0_76_81_82_83_84_85
        have V1_76_81_82_83_84_85_86 := hide (Terms.keep V1_76_81_82_83_84_85.out (Kp.setLoc (T := [9, 109]) (i := 5) (v := .int .i64 0) LB53_54_56_61_66_71_76_81_82_83_84_85.out (by decide)) (by decide) (by decide))
        clear V1_76_81_82_83_84_85
        have LB53_54_56_61_66_71_76_81_82_83_84_85_86 := hide (loc_set (i := 5) (v := .int .i64 0) LB53_54_56_61_66_71_76_81_82_83_84_85.out)
        have LB56_61_66_71_76_81_82_83_84_85_86 := hide (loc_other (p := ⟨w.heap.size, 5, none⟩) (v := .int .i64 0) LB56_61_66_71_76_81_82_83_84_85.out (NE_1_0.out))
        clear LB53_54_56_61_66_71_76_81_82_83_84_85 LB56_61_66_71_76_81_82_83_84_85
        have H86 := hide (H85.out.setLoc Q53.out 5 (.int .i64 0))
        have F86 := hide (F85.out.setLoc G53.out 5 (.int .i64 0))
        clear H85 F85
        have V0_76_81_82_83_84_85_86_87 := hide (Terms.keep V0_76_81_82_83_84_85_86.out (Kp.setLoc (T := [9, 109]) (i := 6) (v := .slice p0_76 a76.left.length r0_76) LB53_54_56_61_66_71_76_81_82_83_84_85_86.out (by decide)) (by decide) (by decide))
        clear V0_76_81_82_83_84_85_86
        have V1_76_81_82_83_84_85_86_87 := hide (Terms.keep V1_76_81_82_83_84_85_86.out (Kp.setLoc (T := [9, 109]) (i := 6) (v := .slice p0_76 a76.left.length r0_76) LB53_54_56_61_66_71_76_81_82_83_84_85_86.out (by decide)) (by decide) (by decide))
        clear V1_76_81_82_83_84_85_86
        have LB53_54_56_61_66_71_76_81_82_83_84_85_86_87 := hide (loc_set (i := 6) (v := .slice p0_76 a76.left.length r0_76) LB53_54_56_61_66_71_76_81_82_83_84_85_86.out)
        have LB56_61_66_71_76_81_82_83_84_85_86_87 := hide (loc_other (p := ⟨w.heap.size, 6, none⟩) (v := .slice p0_76 a76.left.length r0_76) LB56_61_66_71_76_81_82_83_84_85_86.out (NE_1_0.out))
        clear LB53_54_56_61_66_71_76_81_82_83_84_85_86 LB56_61_66_71_76_81_82_83_84_85_86
        have H87 := hide (H86.out.setLoc Q53.out 6 (.slice p0_76 a76.left.length r0_76))
        have F87 := hide (F86.out.setLoc G53.out 6 (.slice p0_76 a76.left.length r0_76))
        clear H86 F86
        have V0_76_81_82_83_84_85_86_87_88 := hide (Terms.keep V0_76_81_82_83_84_85_86_87.out (Kp.setLoc (T := [9, 109]) (i := 7) (v := .int .i64 a76.op) LB53_54_56_61_66_71_76_81_82_83_84_85_86_87.out (by decide)) (by decide) (by decide))
        clear V0_76_81_82_83_84_85_86_87
        have V1_76_81_82_83_84_85_86_87_88 := hide (Terms.keep V1_76_81_82_83_84_85_86_87.out (Kp.setLoc (T := [9, 109]) (i := 7) (v := .int .i64 a76.op) LB53_54_56_61_66_71_76_81_82_83_84_85_86_87.out (by decide)) (by decide) (by decide))
        clear V1_76_81_82_83_84_85_86_87
        have LB53_54_56_61_66_71_76_81_82_83_84_85_86_87_88 := hide (loc_set (i := 7) (v := .int .i64 a76.op) LB53_54_56_61_66_71_76_81_82_83_84_85_86_87.out)
        have LB56_61_66_71_76_81_82_83_84_85_86_87_88 := hide (loc_other (p := ⟨w.heap.size, 7, none⟩) (v := .int .i64 a76.op) LB56_61_66_71_76_81_82_83_84_85_86_87.out (NE_1_0.out))
        clear LB53_54_56_61_66_71_76_81_82_83_84_85_86_87 LB56_61_66_71_76_81_82_83_84_85_86_87
        have H88 := hide (H87.out.setLoc Q53.out 7 (.int .i64 a76.op))
        have F88 := hide (F87.out.setLoc G53.out 7 (.int .i64 a76.op))
        clear H87 F87
        have V0_76_81_82_83_84_85_86_87_88_89 := hide (Terms.keep V0_76_81_82_83_84_85_86_87_88.out (Kp.setLoc (T := [9, 109]) (i := 8) (v := .slice p1_76 a76.right.length r1_76) LB53_54_56_61_66_71_76_81_82_83_84_85_86_87_88.out (by decide)) (by decide) (by decide))
        clear V0_76_81_82_83_84_85_86_87_88
        have V1_76_81_82_83_84_85_86_87_88_89 := hide (Terms.keep V1_76_81_82_83_84_85_86_87_88.out (Kp.setLoc (T := [9, 109]) (i := 8) (v := .slice p1_76 a76.right.length r1_76) LB53_54_56_61_66_71_76_81_82_83_84_85_86_87_88.out (by decide)) (by decide) (by decide))
        clear V1_76_81_82_83_84_85_86_87_88
        have LB53_54_56_61_66_71_76_81_82_83_84_85_86_87_88_89 := hide (loc_set (i := 8) (v := .slice p1_76 a76.right.length r1_76) LB53_54_56_61_66_71_76_81_82_83_84_85_86_87_88.out)
        have LB56_61_66_71_76_81_82_83_84_85_86_87_88_89 := hide (loc_other (p := ⟨w.heap.size, 8, none⟩) (v := .slice p1_76 a76.right.length r1_76) LB56_61_66_71_76_81_82_83_84_85_86_87_88.out (NE_1_0.out))
        clear LB53_54_56_61_66_71_76_81_82_83_84_85_86_87_88 LB56_61_66_71_76_81_82_83_84_85_86_87_88
        have H89 := hide (H88.out.setLoc Q53.out 8 (.slice p1_76 a76.right.length r1_76))
        have F89 := hide (F88.out.setLoc G53.out 8 (.slice p1_76 a76.right.length r1_76))
        clear H88 F88
        have V0_76_81_82_83_84_85_86_87_88_89_90 := hide (Terms.keep V0_76_81_82_83_84_85_86_87_88_89.out (Kp.setLoc (T := [9, 109]) (i := 9) (v := .string ⟨#[]⟩) LB53_54_56_61_66_71_76_81_82_83_84_85_86_87_88_89.out (by decide)) (by decide) (by decide))
        clear V0_76_81_82_83_84_85_86_87_88_89
        have V1_76_81_82_83_84_85_86_87_88_89_90 := hide (Terms.keep V1_76_81_82_83_84_85_86_87_88_89.out (Kp.setLoc (T := [9, 109]) (i := 9) (v := .string ⟨#[]⟩) LB53_54_56_61_66_71_76_81_82_83_84_85_86_87_88_89.out (by decide)) (by decide) (by decide))
        clear V1_76_81_82_83_84_85_86_87_88_89
        have LB53_54_56_61_66_71_76_81_82_83_84_85_86_87_88_89_90 := hide (loc_set (i := 9) (v := .string ⟨#[]⟩) LB53_54_56_61_66_71_76_81_82_83_84_85_86_87_88_89.out)
        have LB56_61_66_71_76_81_82_83_84_85_86_87_88_89_90 := hide (loc_other (p := ⟨w.heap.size, 9, none⟩) (v := .string ⟨#[]⟩) LB56_61_66_71_76_81_82_83_84_85_86_87_88_89.out (NE_1_0.out))
        clear LB53_54_56_61_66_71_76_81_82_83_84_85_86_87_88_89 LB56_61_66_71_76_81_82_83_84_85_86_87_88_89
        have H90 := hide (H89.out.setLoc Q53.out 9 (.string ⟨#[]⟩))
        have F90 := hide (F89.out.setLoc G53.out 9 (.string ⟨#[]⟩))
        clear H89 F89
        have V0_76_81_82_83_84_85_86_87_88_89_90_91 := hide (Terms.keep V0_76_81_82_83_84_85_86_87_88_89_90.out (Kp.setLoc (T := [9, 109]) (i := 10) (v := .string ⟨#[]⟩) LB53_54_56_61_66_71_76_81_82_83_84_85_86_87_88_89_90.out (by decide)) (by decide) (by decide))
        clear V0_76_81_82_83_84_85_86_87_88_89_90
        have V1_76_81_82_83_84_85_86_87_88_89_90_91 := hide (Terms.keep V1_76_81_82_83_84_85_86_87_88_89_90.out (Kp.setLoc (T := [9, 109]) (i := 10) (v := .string ⟨#[]⟩) LB53_54_56_61_66_71_76_81_82_83_84_85_86_87_88_89_90.out (by decide)) (by decide) (by decide))
        clear V1_76_81_82_83_84_85_86_87_88_89_90
        have LB53_54_56_61_66_71_76_81_82_83_84_85_86_87_88_89_90_91 := hide (loc_set (i := 10) (v := .string ⟨#[]⟩) LB53_54_56_61_66_71_76_81_82_83_84_85_86_87_88_89_90.out)
        have LB56_61_66_71_76_81_82_83_84_85_86_87_88_89_90_91 := hide (loc_other (p := ⟨w.heap.size, 10, none⟩) (v := .string ⟨#[]⟩) LB56_61_66_71_76_81_82_83_84_85_86_87_88_89_90.out (NE_1_0.out))
        clear LB53_54_56_61_66_71_76_81_82_83_84_85_86_87_88_89_90 LB56_61_66_71_76_81_82_83_84_85_86_87_88_89_90
        have H91 := hide (H90.out.setLoc Q53.out 10 (.string ⟨#[]⟩))
        have F91 := hide (F90.out.setLoc G53.out 10 (.string ⟨#[]⟩))
        clear H90 F90
        exact .of_ok HO76.out (⟨_, _, _, rfl, Rows.nil _ _ _ _ _, V0_76_81_82_83_84_85_86_87_88_89_90_91.out, V1_76_81_82_83_84_85_86_87_88_89_90_91.out⟩) H91.out F91.out
      | false =>
        rw [hm2] at CN
        clear HO
        have HO := hide (ite_f ho2 hm2)
        rw [hk] at CA0 CN
        clear ho ho2 hk hm hm2
        go_enter Tryz.func132, Tryz.ntmps132
        have B92 : Below _ _ ((w).alloc (.cells #[.int .i64 0, .bool false, .string ⟨#[]⟩, .slice none 0 0, .bool false, .int .i64 0, .slice none 0 0, .int .i64 0, .slice none 0 0, .string ⟨#[]⟩, .string ⟨#[]⟩] 107)) := (Below.refl _ _).alloc (Nat.le_refl _) _
        have Q92 : Hid (R < w.heap.size) := hide H.out.lt
        have G92 : Hid (w.heap.size ≤ w.heap.size) := hide F.out.size
        have LB92 := hide (heap_alloc_new (w) (.cells #[.int .i64 0, .bool false, .string ⟨#[]⟩, .slice none 0 0, .bool false, .int .i64 0, .slice none 0 0, .int .i64 0, .slice none 0 0, .string ⟨#[]⟩, .string ⟨#[]⟩] 107))
        have H92 := hide (H.out.below B92)
        have F92 := hide (F.out.trans (Fq.of_below B92))
        clear H F B92
        go_wp2_with fail
        refine (CA0.out _ H92.out).mono ?_
        rintro _ w93 ⟨rfl, hb⟩
        have LB92_93 := hide ((hb.block _ (loc_lt LB92.out)).trans LB92.out)
        clear LB92
        have H93 := hide (H92.out.below hb)
        have F93 := hide (F92.out.trans (Fq.of_below hb))
        clear hb H92 F92
        obtain ⟨z94_0, z94_1, z94_2, z94_3, z94_4, z94_5, z94_6, z94_7, z94_8, z94_9, z94_10, y94⟩ := row11 LB92_93.out
        have B95 : Below _ _ ((w93).alloc (.cells #[.int .i64 1, .string ⟨(tx (kt L) s.n).toArray⟩, .int .i64 (placeAt L N s.n)] 50)) := (Below.refl _ _).alloc (Nat.le_refl _) _
        have Q95 : Hid (R < w93.heap.size) := hide H93.out.lt
        have G95 : Hid (w.heap.size ≤ w93.heap.size) := hide F93.out.size
        have NE_0_1 : Hid (w.heap.size ≠ w93.heap.size) := hide (Nat.ne_of_lt (loc_lt LB92_93.out))
        have NE_1_0 : Hid (w93.heap.size ≠ w.heap.size) := hide (Nat.ne_of_gt (loc_lt LB92_93.out))
        have LB92_93_95 := hide ((B95.block _ (loc_lt LB92_93.out)).trans LB92_93.out)
        clear LB92_93
        have LB95 := hide (heap_alloc_new (w93) (.cells #[.int .i64 1, .string ⟨(tx (kt L) s.n).toArray⟩, .int .i64 (placeAt L N s.n)] 50))
        have H95 := hide (H93.out.below B95)
        have F95 := hide (F93.out.trans (Fq.of_below B95))
        clear H93 F93 B95
        obtain ⟨z96_0, z96_1, z96_2, z96_3, z96_4, z96_5, z96_6, z96_7, z96_8, z96_9, z96_10, y96⟩ := row11 LB92_93_95.out
        obtain ⟨z97_0, z97_1, z97_2, y97⟩ := row3 LB95.out
        have x98 := NE_0_1.out
        have x99 := NE_1_0.out
        go_wp2_with fail
        refine (ahead_any R L N s st _ H95.out 1 (by omega)).mono ?_
        rintro _ w100 ⟨rfl, hb⟩
        clear z94_0 z94_1 z94_2 z94_3 z94_4 z94_5 z94_6 z94_7 z94_8 z94_9 z94_10 y94 z96_0 z96_1 z96_2 z96_3 z96_4 z96_5 z96_6 z96_7 z96_8 z96_9 z96_10 y96 z97_0 z97_1 z97_2 y97 x98 x99
        have LB92_93_95_100 := hide ((hb.block _ (loc_lt LB92_93_95.out)).trans LB92_93_95.out)
        clear LB92_93_95
        have LB95_100 := hide ((hb.block _ (loc_lt LB95.out)).trans LB95.out)
        clear LB95
        have H100 := hide (H95.out.below hb)
        have F100 := hide (F95.out.trans (Fq.of_below hb))
        clear hb H95 F95
        obtain ⟨z101_0, z101_1, z101_2, z101_3, z101_4, z101_5, z101_6, z101_7, z101_8, z101_9, z101_10, y101⟩ := row11 LB92_93_95_100.out
        obtain ⟨z102_0, z102_1, z102_2, y102⟩ := row3 LB95_100.out
        have x103 := NE_0_1.out
        have x104 := NE_1_0.out
        go_wp2_with fail
        refine (CM.out _).mono ?_
        rintro _ w105 ⟨rfl, hb⟩
        clear z101_0 z101_1 z101_2 z101_3 z101_4 z101_5 z101_6 z101_7 z101_8 z101_9 z101_10 y101 z102_0 z102_1 z102_2 y102 x103 x104
        have LB92_93_95_100_105 := hide ((hb.block _ (loc_lt LB92_93_95_100.out)).trans LB92_93_95_100.out)
        clear LB92_93_95_100
        have LB95_100_105 := hide ((hb.block _ (loc_lt LB95_100.out)).trans LB95_100.out)
        clear LB95_100
        have H105 := hide (H100.out.below hb)
        have F105 := hide (F100.out.trans (Fq.of_below hb))
        clear hb H100 F100
        obtain ⟨z106_0, z106_1, z106_2, z106_3, z106_4, z106_5, z106_6, z106_7, z106_8, z106_9, z106_10, y106⟩ := row11 LB92_93_95_100_105.out
        obtain ⟨z107_0, z107_1, z107_2, y107⟩ := row3 LB95_100_105.out
        have x108 := NE_0_1.out
        have x109 := NE_1_0.out
        go_wp2_with fail
        refine (CN.out _).mono ?_
        rintro _ w110 ⟨rfl, hb⟩
        clear z106_0 z106_1 z106_2 z106_3 z106_4 z106_5 z106_6 z106_7 z106_8 z106_9 z106_10 y106 z107_0 z107_1 z107_2 y107 x108 x109
        have LB92_93_95_100_105_110 := hide ((hb.block _ (loc_lt LB92_93_95_100_105.out)).trans LB92_93_95_100_105.out)
        clear LB92_93_95_100_105
        have LB95_100_105_110 := hide ((hb.block _ (loc_lt LB95_100_105.out)).trans LB95_100_105.out)
        clear LB95_100_105
        have H110 := hide (H105.out.below hb)
        have F110 := hide (F105.out.trans (Fq.of_below hb))
        clear hb H105 F105
        obtain ⟨z111_0, z111_1, z111_2, z111_3, z111_4, z111_5, z111_6, z111_7, z111_8, z111_9, z111_10, y111⟩ := row11 LB92_93_95_100_105_110.out
        obtain ⟨z112_0, z112_1, z112_2, y112⟩ := row3 LB95_100_105_110.out
        have x113 := NE_0_1.out
        have x114 := NE_1_0.out
        have C115 := hide (literal_any R L N s st _ H110.out _ rfl)
        go_wp2_with fail
        refine C115.out.mono ?_
        intro e w115 he
        rcases he.split with ⟨a115, s115, v115, ho, rfl, hv, hR, hF⟩ | ⟨c, m, ho, rfl, hF⟩
        rotate_left 1
        · exact on_panic rfl (.of_bad (bind_no HO.out ho) (F110.out.trans hF))
        clear z111_0 z111_1 z111_2 z111_3 z111_4 z111_5 z111_6 z111_7 z111_8 z111_9 z111_10 y111 z112_0 z112_1 z112_2 y112 x113 x114
        have HO115 := hide (bind_go HO.out ho)
        have LB92_93_95_100_105_110_115 := hide (hF.loc LB92_93_95_100_105_110.out (Nat.ne_of_gt Q92.out))
        clear LB92_93_95_100_105_110
        have LB95_100_105_110_115 := hide (hF.loc LB95_100_105_110.out (Nat.ne_of_gt Q95.out))
        clear LB95_100_105_110
        have H115 := hide hR
        have F115 := hide (F110.out.trans hF)
        obtain ⟨av115, rfl, hv0_115⟩ := hv
        obtain ⟨p0_115, r0_115, rfl⟩ := rows_form hv0_115
        have V0_115 := hide (Strs.mono hv0_115 fun g hg => Nat.le_trans F110.out.size hg)
        clear hv0_115
        clear he ho hR hF C115 H110 F110 HO
        obtain ⟨z116_0, z116_1, z116_2, z116_3, z116_4, z116_5, z116_6, z116_7, z116_8, z116_9, z116_10, y116⟩ := row11 LB92_93_95_100_105_110_115.out
        obtain ⟨z117_0, z117_1, z117_2, y117⟩ := row3 LB95_100_105_110_115.out
        have x118 := NE_0_1.out
        have x119 := NE_1_0.out
        go_wp2_with fail
        have hz := (And.intro z116_0 (And.intro z116_1 (And.intro z116_2 (And.intro z116_3 (And.intro z116_4 (And.intro z116_5 (And.intro z116_6 (And.intro z116_7 (And.intro z116_8 (And.intro z116_9 (And.intro z116_10 (And.intro y116 (And.intro z117_0 (And.intro z117_1 (And.intro z117_2 (And.intro y117 (And.intro x118 x119)))))))))))))))))
        simp [bodyPost, results, Tryz.results132, go_sem, hz]
        have V0_115_120 := hide (Strs.keep V0_115.out (Kp.setLoc (T := [9]) (i := 0) (v := .int .i64 1) LB92_93_95_100_105_110_115.out (by decide)) (by decide))
        clear V0_115
        have LB92_93_95_100_105_110_115_120 := hide (loc_set (i := 0) (v := .int .i64 1) LB92_93_95_100_105_110_115.out)
        have LB95_100_105_110_115_120 := hide (loc_other (p := ⟨w.heap.size, 0, none⟩) (v := .int .i64 1) LB95_100_105_110_115.out (NE_1_0.out))
        clear LB92_93_95_100_105_110_115 LB95_100_105_110_115
        have H120 := hide (H115.out.setLoc Q92.out 0 (.int .i64 1))
        have F120 := hide (F115.out.setLoc G92.out 0 (.int .i64 1))
        clear H115 F115
        have V0_115_120_121 := hide (Strs.keep V0_115_120.out (Kp.setLoc (T := [9]) (i := 1) (v := .bool a115.neg) LB92_93_95_100_105_110_115_120.out (by decide)) (by decide))
        clear V0_115_120
        have LB92_93_95_100_105_110_115_120_121 := hide (loc_set (i := 1) (v := .bool a115.neg) LB92_93_95_100_105_110_115_120.out)
        have LB95_100_105_110_115_120_121 := hide (loc_other (p := ⟨w.heap.size, 1, none⟩) (v := .bool a115.neg) LB95_100_105_110_115_120.out (NE_1_0.out))
        clear LB92_93_95_100_105_110_115_120 LB95_100_105_110_115_120
        have H121 := hide (H120.out.setLoc Q92.out 1 (.bool a115.neg))
        have F121 := hide (F120.out.setLoc G92.out 1 (.bool a115.neg))
        clear H120 F120
        have V0_115_120_121_122 := hide (Strs.keep V0_115_120_121.out (Kp.setLoc (T := [9]) (i := 2) (v := .string ⟨a115.pred.toArray⟩) LB92_93_95_100_105_110_115_120_121.out (by decide)) (by decide))
        clear V0_115_120_121
        have LB92_93_95_100_105_110_115_120_121_122 := hide (loc_set (i := 2) (v := .string ⟨a115.pred.toArray⟩) LB92_93_95_100_105_110_115_120_121.out)
        have LB95_100_105_110_115_120_121_122 := hide (loc_other (p := ⟨w.heap.size, 2, none⟩) (v := .string ⟨a115.pred.toArray⟩) LB95_100_105_110_115_120_121.out (NE_1_0.out))
        clear LB92_93_95_100_105_110_115_120_121 LB95_100_105_110_115_120_121
        have H122 := hide (H121.out.setLoc Q92.out 2 (.string ⟨a115.pred.toArray⟩))
        have F122 := hide (F121.out.setLoc G92.out 2 (.string ⟨a115.pred.toArray⟩))
        clear H121 F121
        have V0_115_120_121_122_123 := hide (Strs.keep V0_115_120_121_122.out (Kp.setLoc (T := [9]) (i := 3) (v := .slice p0_115 a115.args.length r0_115) LB92_93_95_100_105_110_115_120_121_122.out (by decide)) (by decide))
        clear V0_115_120_121_122
        have LB92_93_95_100_105_110_115_120_121_122_123 := hide (loc_set (i := 3) (v := .slice p0_115 a115.args.length r0_115) LB92_93_95_100_105_110_115_120_121_122.out)
        have LB95_100_105_110_115_120_121_122_123 := hide (loc_other (p := ⟨w.heap.size, 3, none⟩) (v := .slice p0_115 a115.args.length r0_115) LB95_100_105_110_115_120_121_122.out (NE_1_0.out))
        clear LB92_93_95_100_105_110_115_120_121_122 LB95_100_105_110_115_120_121_122
        have H123 := hide (H122.out.setLoc Q92.out 3 (.slice p0_115 a115.args.length r0_115))
        have F123 := hide (F122.out.setLoc G92.out 3 (.slice p0_115 a115.args.length r0_115))
        clear H122 F122
        have V0_115_120_121_122_123_124 := hide (Strs.keep V0_115_120_121_122_123.out (Kp.setLoc (T := [9]) (i := 4) (v := .bool a115.hasValue) LB92_93_95_100_105_110_115_120_121_122_123.out (by decide)) (by decide))
        clear V0_115_120_121_122_123
        have LB92_93_95_100_105_110_115_120_121_122_123_124 := hide (loc_set (i := 4) (v := .bool a115.hasValue) LB92_93_95_100_105_110_115_120_121_122_123.out)
        have LB95_100_105_110_115_120_121_122_123_124 := hide (loc_other (p := ⟨w.heap.size, 4, none⟩) (v := .bool a115.hasValue) LB95_100_105_110_115_120_121_122_123.out (NE_1_0.out))
        clear LB92_93_95_100_105_110_115_120_121_122_123 LB95_100_105_110_115_120_121_122_123
        have H124 := hide (H123.out.setLoc Q92.out 4 (.bool a115.hasValue))
        have F124 := hide (F123.out.setLoc G92.out 4 (.bool a115.hasValue))
        clear H123 F123
        have V0_115_120_121_122_123_124_125 := hide (Strs.keep V0_115_120_121_122_123_124.out (Kp.setLoc (T := [9]) (i := 5) (v := .int .i64 a115.value) LB92_93_95_100_105_110_115_120_121_122_123_124.out (by decide)) (by decide))
        clear V0_115_120_121_122_123_124
        have LB92_93_95_100_105_110_115_120_121_122_123_124_125 := hide (loc_set (i := 5) (v := .int .i64 a115.value) LB92_93_95_100_105_110_115_120_121_122_123_124.out)
        have LB95_100_105_110_115_120_121_122_123_124_125 := hide (loc_other (p := ⟨w.heap.size, 5, none⟩) (v := .int .i64 a115.value) LB95_100_105_110_115_120_121_122_123_124.out (NE_1_0.out))
        clear LB92_93_95_100_105_110_115_120_121_122_123_124 LB95_100_105_110_115_120_121_122_123_124
        have H125 := hide (H124.out.setLoc Q92.out 5 (.int .i64 a115.value))
        have F125 := hide (F124.out.setLoc G92.out 5 (.int .i64 a115.value))
        clear H124 F124
        have V0_115_120_121_122_123_124_125_126 := hide (Strs.keep V0_115_120_121_122_123_124_125.out (Kp.setLoc (T := [9]) (i := 6) (v := .slice none 0 0) LB92_93_95_100_105_110_115_120_121_122_123_124_125.out (by decide)) (by decide))
        clear V0_115_120_121_122_123_124_125
        have LB92_93_95_100_105_110_115_120_121_122_123_124_125_126 := hide (loc_set (i := 6) (v := .slice none 0 0) LB92_93_95_100_105_110_115_120_121_122_123_124_125.out)
        have LB95_100_105_110_115_120_121_122_123_124_125_126 := hide (loc_other (p := ⟨w.heap.size, 6, none⟩) (v := .slice none 0 0) LB95_100_105_110_115_120_121_122_123_124_125.out (NE_1_0.out))
        clear LB92_93_95_100_105_110_115_120_121_122_123_124_125 LB95_100_105_110_115_120_121_122_123_124_125
        have H126 := hide (H125.out.setLoc Q92.out 6 (.slice none 0 0))
        have F126 := hide (F125.out.setLoc G92.out 6 (.slice none 0 0))
        clear H125 F125
        have V0_115_120_121_122_123_124_125_126_127 := hide (Strs.keep V0_115_120_121_122_123_124_125_126.out (Kp.setLoc (T := [9]) (i := 7) (v := .int .i64 0) LB92_93_95_100_105_110_115_120_121_122_123_124_125_126.out (by decide)) (by decide))
        clear V0_115_120_121_122_123_124_125_126
        have LB92_93_95_100_105_110_115_120_121_122_123_124_125_126_127 := hide (loc_set (i := 7) (v := .int .i64 0) LB92_93_95_100_105_110_115_120_121_122_123_124_125_126.out)
        have LB95_100_105_110_115_120_121_122_123_124_125_126_127 := hide (loc_other (p := ⟨w.heap.size, 7, none⟩) (v := .int .i64 0) LB95_100_105_110_115_120_121_122_123_124_125_126.out (NE_1_0.out))
        clear LB92_93_95_100_105_110_115_120_121_122_123_124_125_126 LB95_100_105_110_115_120_121_122_123_124_125_126
        have H127 := hide (H126.out.setLoc Q92.out 7 (.int .i64 0))
        have F127 := hide (F126.out.setLoc G92.out 7 (.int .i64 0))
        clear H126 F126
        have V0_115_120_121_122_123_124_125_126_127_128 := hide (Strs.keep V0_115_120_121_122_123_124_125_126_127.out (Kp.setLoc (T := [9]) (i := 8) (v := .slice none 0 0) LB92_93_95_100_105_110_115_120_121_122_123_124_125_126_127.out (by decide)) (by decide))
        clear V0_115_120_121_122_123_124_125_126_127
        have LB92_93_95_100_105_110_115_120_121_122_123_124_125_126_127_128 := hide (loc_set (i := 8) (v := .slice none 0 0) LB92_93_95_100_105_110_115_120_121_122_123_124_125_126_127.out)
        have LB95_100_105_110_115_120_121_122_123_124_125_126_127_128 := hide (loc_other (p := ⟨w.heap.size, 8, none⟩) (v := .slice none 0 0) LB95_100_105_110_115_120_121_122_123_124_125_126_127.out (NE_1_0.out))
        clear LB92_93_95_100_105_110_115_120_121_122_123_124_125_126_127 LB95_100_105_110_115_120_121_122_123_124_125_126_127
        have H128 := hide (H127.out.setLoc Q92.out 8 (.slice none 0 0))
        have F128 := hide (F127.out.setLoc G92.out 8 (.slice none 0 0))
        clear H127 F127
        have V0_115_120_121_122_123_124_125_126_127_128_129 := hide (Strs.keep V0_115_120_121_122_123_124_125_126_127_128.out (Kp.setLoc (T := [9]) (i := 9) (v := .string ⟨#[]⟩) LB92_93_95_100_105_110_115_120_121_122_123_124_125_126_127_128.out (by decide)) (by decide))
        clear V0_115_120_121_122_123_124_125_126_127_128
        have LB92_93_95_100_105_110_115_120_121_122_123_124_125_126_127_128_129 := hide (loc_set (i := 9) (v := .string ⟨#[]⟩) LB92_93_95_100_105_110_115_120_121_122_123_124_125_126_127_128.out)
        have LB95_100_105_110_115_120_121_122_123_124_125_126_127_128_129 := hide (loc_other (p := ⟨w.heap.size, 9, none⟩) (v := .string ⟨#[]⟩) LB95_100_105_110_115_120_121_122_123_124_125_126_127_128.out (NE_1_0.out))
        clear LB92_93_95_100_105_110_115_120_121_122_123_124_125_126_127_128 LB95_100_105_110_115_120_121_122_123_124_125_126_127_128
        have H129 := hide (H128.out.setLoc Q92.out 9 (.string ⟨#[]⟩))
        have F129 := hide (F128.out.setLoc G92.out 9 (.string ⟨#[]⟩))
        clear H128 F128
        have V0_115_120_121_122_123_124_125_126_127_128_129_130 := hide (Strs.keep V0_115_120_121_122_123_124_125_126_127_128_129.out (Kp.setLoc (T := [9]) (i := 10) (v := .string ⟨#[]⟩) LB92_93_95_100_105_110_115_120_121_122_123_124_125_126_127_128_129.out (by decide)) (by decide))
        clear V0_115_120_121_122_123_124_125_126_127_128_129
        have LB92_93_95_100_105_110_115_120_121_122_123_124_125_126_127_128_129_130 := hide (loc_set (i := 10) (v := .string ⟨#[]⟩) LB92_93_95_100_105_110_115_120_121_122_123_124_125_126_127_128_129.out)
        have LB95_100_105_110_115_120_121_122_123_124_125_126_127_128_129_130 := hide (loc_other (p := ⟨w.heap.size, 10, none⟩) (v := .string ⟨#[]⟩) LB95_100_105_110_115_120_121_122_123_124_125_126_127_128_129.out (NE_1_0.out))
        clear LB92_93_95_100_105_110_115_120_121_122_123_124_125_126_127_128_129 LB95_100_105_110_115_120_121_122_123_124_125_126_127_128_129
        have H130 := hide (H129.out.setLoc Q92.out 10 (.string ⟨#[]⟩))
        have F130 := hide (F129.out.setLoc G92.out 10 (.string ⟨#[]⟩))
        clear H129 F129
        exact .of_ok HO115.out (⟨_, _, _, rfl, V0_115_120_121_122_123_124_125_126_127_128_129_130.out, Rows.nil _ _ _ _ _, Rows.nil _ _ _ _ _⟩) H130.out F130.out
  · by_cases hk2 : kd (kt L) s.n = 2
    · have hk := hk2
      clear hk1 hk2
      have CM := hide (markCall L (s.n + 1) (placeAt L N (s.n + 1)) [33, 61])
      cases hm : markAt (kt L) (s.n + 1) [33, 61] with
      | true =>
        rw [hm] at CM
        have HO := hide (ite_t ho (by simp [hk, hm]))
        rw [hk] at CA0
        clear ho hk hm
        go_enter Tryz.func132, Tryz.ntmps132
        have B131 : Below _ _ ((w).alloc (.cells #[.int .i64 0, .bool false, .string ⟨#[]⟩, .slice none 0 0, .bool false, .int .i64 0, .slice none 0 0, .int .i64 0, .slice none 0 0, .string ⟨#[]⟩, .string ⟨#[]⟩] 107)) := (Below.refl _ _).alloc (Nat.le_refl _) _
        have Q131 : Hid (R < w.heap.size) := hide H.out.lt
        have G131 : Hid (w.heap.size ≤ w.heap.size) := hide F.out.size
        have LB131 := hide (heap_alloc_new (w) (.cells #[.int .i64 0, .bool false, .string ⟨#[]⟩, .slice none 0 0, .bool false, .int .i64 0, .slice none 0 0, .int .i64 0, .slice none 0 0, .string ⟨#[]⟩, .string ⟨#[]⟩] 107))
        have H131 := hide (H.out.below B131)
        have F131 := hide (F.out.trans (Fq.of_below B131))
        clear H F B131
        go_wp2_with fail
        refine (CA0.out _ H131.out).mono ?_
        rintro _ w132 ⟨rfl, hb⟩
        have LB131_132 := hide ((hb.block _ (loc_lt LB131.out)).trans LB131.out)
        clear LB131
        have H132 := hide (H131.out.below hb)
        have F132 := hide (F131.out.trans (Fq.of_below hb))
        clear hb H131 F131
        obtain ⟨z133_0, z133_1, z133_2, z133_3, z133_4, z133_5, z133_6, z133_7, z133_8, z133_9, z133_10, y133⟩ := row11 LB131_132.out
        have B134 : Below _ _ ((w132).alloc (.cells #[.int .i64 2, .string ⟨(tx (kt L) s.n).toArray⟩, .int .i64 (placeAt L N s.n)] 50)) := (Below.refl _ _).alloc (Nat.le_refl _) _
        have Q134 : Hid (R < w132.heap.size) := hide H132.out.lt
        have G134 : Hid (w.heap.size ≤ w132.heap.size) := hide F132.out.size
        have NE_0_1 : Hid (w.heap.size ≠ w132.heap.size) := hide (Nat.ne_of_lt (loc_lt LB131_132.out))
        have NE_1_0 : Hid (w132.heap.size ≠ w.heap.size) := hide (Nat.ne_of_gt (loc_lt LB131_132.out))
        have LB131_132_134 := hide ((B134.block _ (loc_lt LB131_132.out)).trans LB131_132.out)
        clear LB131_132
        have LB134 := hide (heap_alloc_new (w132) (.cells #[.int .i64 2, .string ⟨(tx (kt L) s.n).toArray⟩, .int .i64 (placeAt L N s.n)] 50))
        have H134 := hide (H132.out.below B134)
        have F134 := hide (F132.out.trans (Fq.of_below B134))
        clear H132 F132 B134
        obtain ⟨z135_0, z135_1, z135_2, z135_3, z135_4, z135_5, z135_6, z135_7, z135_8, z135_9, z135_10, y135⟩ := row11 LB131_132_134.out
        obtain ⟨z136_0, z136_1, z136_2, y136⟩ := row3 LB134.out
        have x137 := NE_0_1.out
        have x138 := NE_1_0.out
        go_wp2_with fail
        refine (ahead_any R L N s st _ H134.out 1 (by omega)).mono ?_
        rintro _ w139 ⟨rfl, hb⟩
        clear z133_0 z133_1 z133_2 z133_3 z133_4 z133_5 z133_6 z133_7 z133_8 z133_9 z133_10 y133 z135_0 z135_1 z135_2 z135_3 z135_4 z135_5 z135_6 z135_7 z135_8 z135_9 z135_10 y135 z136_0 z136_1 z136_2 y136 x137 x138
        have LB131_132_134_139 := hide ((hb.block _ (loc_lt LB131_132_134.out)).trans LB131_132_134.out)
        clear LB131_132_134
        have LB134_139 := hide ((hb.block _ (loc_lt LB134.out)).trans LB134.out)
        clear LB134
        have H139 := hide (H134.out.below hb)
        have F139 := hide (F134.out.trans (Fq.of_below hb))
        clear hb H134 F134
        obtain ⟨z140_0, z140_1, z140_2, z140_3, z140_4, z140_5, z140_6, z140_7, z140_8, z140_9, z140_10, y140⟩ := row11 LB131_132_134_139.out
        obtain ⟨z141_0, z141_1, z141_2, y141⟩ := row3 LB134_139.out
        have x142 := NE_0_1.out
        have x143 := NE_1_0.out
        go_wp2_with fail
        refine (CM.out _).mono ?_
        rintro _ w144 ⟨rfl, hb⟩
        clear z140_0 z140_1 z140_2 z140_3 z140_4 z140_5 z140_6 z140_7 z140_8 z140_9 z140_10 y140 z141_0 z141_1 z141_2 y141 x142 x143
        have LB131_132_134_139_144 := hide ((hb.block _ (loc_lt LB131_132_134_139.out)).trans LB131_132_134_139.out)
        clear LB131_132_134_139
        have LB134_139_144 := hide ((hb.block _ (loc_lt LB134_139.out)).trans LB134_139.out)
        clear LB134_139
        have H144 := hide (H139.out.below hb)
        have F144 := hide (F139.out.trans (Fq.of_below hb))
        clear hb H139 F139
        obtain ⟨z145_0, z145_1, z145_2, z145_3, z145_4, z145_5, z145_6, z145_7, z145_8, z145_9, z145_10, y145⟩ := row11 LB131_132_134_139_144.out
        obtain ⟨z146_0, z146_1, z146_2, y146⟩ := row3 LB134_139_144.out
        have x147 := NE_0_1.out
        have x148 := NE_1_0.out
        have C149 := hide (unlike_any R L N s st _ H144.out _ rfl)
        go_wp2_with fail
        refine C149.out.mono ?_
        intro e w149 he
        rcases he.split with ⟨a149, s149, v149, ho, rfl, hv, hR, hF⟩ | ⟨c, m, ho, rfl, hF⟩
        rotate_left 1
        · exact on_panic rfl (.of_bad (ho.symm.trans HO.out) (F144.out.trans hF))
        clear z145_0 z145_1 z145_2 z145_3 z145_4 z145_5 z145_6 z145_7 z145_8 z145_9 z145_10 y145 z146_0 z146_1 z146_2 y146 x147 x148
        have HO149 := hide (ho.symm.trans HO.out)
        have LB131_132_134_139_144_149 := hide (hF.loc LB131_132_134_139_144.out (Nat.ne_of_gt Q131.out))
        clear LB131_132_134_139_144
        have LB134_139_144_149 := hide (hF.loc LB134_139_144.out (Nat.ne_of_gt Q134.out))
        clear LB134_139_144
        have H149 := hide hR
        have F149 := hide (F144.out.trans hF)
        obtain ⟨av149, lv149, rv149, rfl, hv0_149, hv1_149, hv2_149⟩ := hv
        obtain ⟨p0_149, r0_149, rfl⟩ := rows_form hv0_149
        have V0_149 := hide (Strs.mono hv0_149 fun g hg => Nat.le_trans F144.out.size hg)
        clear hv0_149
        obtain ⟨p1_149, r1_149, rfl⟩ := rows_form hv1_149
        have V1_149 := hide (Terms.mono hv1_149 fun g hg => Nat.le_trans F144.out.size hg)
        clear hv1_149
        obtain ⟨p2_149, r2_149, rfl⟩ := rows_form hv2_149
        have V2_149 := hide (Terms.mono hv2_149 fun g hg => Nat.le_trans F144.out.size hg)
        clear hv2_149
        clear he ho hR hF C149 H144 F144 HO
        obtain ⟨z150_0, z150_1, z150_2, z150_3, z150_4, z150_5, z150_6, z150_7, z150_8, z150_9, z150_10, y150⟩ := row11 LB131_132_134_139_144_149.out
        obtain ⟨z151_0, z151_1, z151_2, y151⟩ := row3 LB134_139_144_149.out
        have x152 := NE_0_1.out
        have x153 := NE_1_0.out
        go_wp2_with fail
        have hz := (And.intro z150_0 (And.intro z150_1 (And.intro z150_2 (And.intro z150_3 (And.intro z150_4 (And.intro z150_5 (And.intro z150_6 (And.intro z150_7 (And.intro z150_8 (And.intro z150_9 (And.intro z150_10 (And.intro y150 (And.intro z151_0 (And.intro z151_1 (And.intro z151_2 (And.intro y151 (And.intro x152 x153)))))))))))))))))
        simp [bodyPost, results, Tryz.results132, go_sem, hz]
        have V0_149_154 := hide (Strs.keep V0_149.out (Kp.setLoc (T := [9]) (i := 0) (v := .int .i64 a149.kind) LB131_132_134_139_144_149.out (by decide)) (by decide))
        clear V0_149
        have V1_149_154 := hide (Terms.keep V1_149.out (Kp.setLoc (T := [9, 109]) (i := 0) (v := .int .i64 a149.kind) LB131_132_134_139_144_149.out (by decide)) (by decide) (by decide))
        clear V1_149
        have V2_149_154 := hide (Terms.keep V2_149.out (Kp.setLoc (T := [9, 109]) (i := 0) (v := .int .i64 a149.kind) LB131_132_134_139_144_149.out (by decide)) (by decide) (by decide))
        clear V2_149
        have LB131_132_134_139_144_149_154 := hide (loc_set (i := 0) (v := .int .i64 a149.kind) LB131_132_134_139_144_149.out)
        have LB134_139_144_149_154 := hide (loc_other (p := ⟨w.heap.size, 0, none⟩) (v := .int .i64 a149.kind) LB134_139_144_149.out (NE_1_0.out))
        clear LB131_132_134_139_144_149 LB134_139_144_149
        have H154 := hide (H149.out.setLoc Q131.out 0 (.int .i64 a149.kind))
        have F154 := hide (F149.out.setLoc G131.out 0 (.int .i64 a149.kind))
        clear H149 F149
        have V0_149_154_155 := hide (Strs.keep V0_149_154.out (Kp.setLoc (T := [9]) (i := 1) (v := .bool a149.lit.neg) LB131_132_134_139_144_149_154.out (by decide)) (by decide))
        clear V0_149_154
        have V1_149_154_155 := hide (Terms.keep V1_149_154.out (Kp.setLoc (T := [9, 109]) (i := 1) (v := .bool a149.lit.neg) LB131_132_134_139_144_149_154.out (by decide)) (by decide) (by decide))
        clear V1_149_154
        have V2_149_154_155 := hide (Terms.keep V2_149_154.out (Kp.setLoc (T := [9, 109]) (i := 1) (v := .bool a149.lit.neg) LB131_132_134_139_144_149_154.out (by decide)) (by decide) (by decide))
        clear V2_149_154
        have LB131_132_134_139_144_149_154_155 := hide (loc_set (i := 1) (v := .bool a149.lit.neg) LB131_132_134_139_144_149_154.out)
        have LB134_139_144_149_154_155 := hide (loc_other (p := ⟨w.heap.size, 1, none⟩) (v := .bool a149.lit.neg) LB134_139_144_149_154.out (NE_1_0.out))
        clear LB131_132_134_139_144_149_154 LB134_139_144_149_154
        have H155 := hide (H154.out.setLoc Q131.out 1 (.bool a149.lit.neg))
        have F155 := hide (F154.out.setLoc G131.out 1 (.bool a149.lit.neg))
        clear H154 F154
        have V0_149_154_155_156 := hide (Strs.keep V0_149_154_155.out (Kp.setLoc (T := [9]) (i := 2) (v := .string ⟨a149.lit.pred.toArray⟩) LB131_132_134_139_144_149_154_155.out (by decide)) (by decide))
        clear V0_149_154_155
        have V1_149_154_155_156 := hide (Terms.keep V1_149_154_155.out (Kp.setLoc (T := [9, 109]) (i := 2) (v := .string ⟨a149.lit.pred.toArray⟩) LB131_132_134_139_144_149_154_155.out (by decide)) (by decide) (by decide))
        clear V1_149_154_155
        have V2_149_154_155_156 := hide (Terms.keep V2_149_154_155.out (Kp.setLoc (T := [9, 109]) (i := 2) (v := .string ⟨a149.lit.pred.toArray⟩) LB131_132_134_139_144_149_154_155.out (by decide)) (by decide) (by decide))
        clear V2_149_154_155
        have LB131_132_134_139_144_149_154_155_156 := hide (loc_set (i := 2) (v := .string ⟨a149.lit.pred.toArray⟩) LB131_132_134_139_144_149_154_155.out)
        have LB134_139_144_149_154_155_156 := hide (loc_other (p := ⟨w.heap.size, 2, none⟩) (v := .string ⟨a149.lit.pred.toArray⟩) LB134_139_144_149_154_155.out (NE_1_0.out))
        clear LB131_132_134_139_144_149_154_155 LB134_139_144_149_154_155
        have H156 := hide (H155.out.setLoc Q131.out 2 (.string ⟨a149.lit.pred.toArray⟩))
        have F156 := hide (F155.out.setLoc G131.out 2 (.string ⟨a149.lit.pred.toArray⟩))
        clear H155 F155
        have V0_149_154_155_156_157 := hide (Strs.keep V0_149_154_155_156.out (Kp.setLoc (T := [9]) (i := 3) (v := .slice p0_149 a149.lit.args.length r0_149) LB131_132_134_139_144_149_154_155_156.out (by decide)) (by decide))
        clear V0_149_154_155_156
        have V1_149_154_155_156_157 := hide (Terms.keep V1_149_154_155_156.out (Kp.setLoc (T := [9, 109]) (i := 3) (v := .slice p0_149 a149.lit.args.length r0_149) LB131_132_134_139_144_149_154_155_156.out (by decide)) (by decide) (by decide))
        clear V1_149_154_155_156
        have V2_149_154_155_156_157 := hide (Terms.keep V2_149_154_155_156.out (Kp.setLoc (T := [9, 109]) (i := 3) (v := .slice p0_149 a149.lit.args.length r0_149) LB131_132_134_139_144_149_154_155_156.out (by decide)) (by decide) (by decide))
        clear V2_149_154_155_156
        have LB131_132_134_139_144_149_154_155_156_157 := hide (loc_set (i := 3) (v := .slice p0_149 a149.lit.args.length r0_149) LB131_132_134_139_144_149_154_155_156.out)
        have LB134_139_144_149_154_155_156_157 := hide (loc_other (p := ⟨w.heap.size, 3, none⟩) (v := .slice p0_149 a149.lit.args.length r0_149) LB134_139_144_149_154_155_156.out (NE_1_0.out))
        clear LB131_132_134_139_144_149_154_155_156 LB134_139_144_149_154_155_156
        have H157 := hide (H156.out.setLoc Q131.out 3 (.slice p0_149 a149.lit.args.length r0_149))
        have F157 := hide (F156.out.setLoc G131.out 3 (.slice p0_149 a149.lit.args.length r0_149))
        clear H156 F156
        have V0_149_154_155_156_157_158 := hide (Strs.keep V0_149_154_155_156_157.out (Kp.setLoc (T := [9]) (i := 4) (v := .bool a149.lit.hasValue) LB131_132_134_139_144_149_154_155_156_157.out (by decide)) (by decide))
        clear V0_149_154_155_156_157
        have V1_149_154_155_156_157_158 := hide (Terms.keep V1_149_154_155_156_157.out (Kp.setLoc (T := [9, 109]) (i := 4) (v := .bool a149.lit.hasValue) LB131_132_134_139_144_149_154_155_156_157.out (by decide)) (by decide) (by decide))
        clear V1_149_154_155_156_157
        have V2_149_154_155_156_157_158 := hide (Terms.keep V2_149_154_155_156_157.out (Kp.setLoc (T := [9, 109]) (i := 4) (v := .bool a149.lit.hasValue) LB131_132_134_139_144_149_154_155_156_157.out (by decide)) (by decide) (by decide))
        clear V2_149_154_155_156_157
        have LB131_132_134_139_144_149_154_155_156_157_158 := hide (loc_set (i := 4) (v := .bool a149.lit.hasValue) LB131_132_134_139_144_149_154_155_156_157.out)
        have LB134_139_144_149_154_155_156_157_158 := hide (loc_other (p := ⟨w.heap.size, 4, none⟩) (v := .bool a149.lit.hasValue) LB134_139_144_149_154_155_156_157.out (NE_1_0.out))
        clear LB131_132_134_139_144_149_154_155_156_157 LB134_139_144_149_154_155_156_157
        have H158 := hide (H157.out.setLoc Q131.out 4 (.bool a149.lit.hasValue))
        have F158 := hide (F157.out.setLoc G131.out 4 (.bool a149.lit.hasValue))
        clear H157 F157
        have V0_149_154_155_156_157_158_159 := hide (Strs.keep V0_149_154_155_156_157_158.out (Kp.setLoc (T := [9]) (i := 5) (v := .int .i64 a149.lit.value) LB131_132_134_139_144_149_154_155_156_157_158.out (by decide)) (by decide))
        clear V0_149_154_155_156_157_158
        have V1_149_154_155_156_157_158_159 := hide (Terms.keep V1_149_154_155_156_157_158.out (Kp.setLoc (T := [9, 109]) (i := 5) (v := .int .i64 a149.lit.value) LB131_132_134_139_144_149_154_155_156_157_158.out (by decide)) (by decide) (by decide))
        clear V1_149_154_155_156_157_158
        have V2_149_154_155_156_157_158_159 := hide (Terms.keep V2_149_154_155_156_157_158.out (Kp.setLoc (T := [9, 109]) (i := 5) (v := .int .i64 a149.lit.value) LB131_132_134_139_144_149_154_155_156_157_158.out (by decide)) (by decide) (by decide))
        clear V2_149_154_155_156_157_158
        have LB131_132_134_139_144_149_154_155_156_157_158_159 := hide (loc_set (i := 5) (v := .int .i64 a149.lit.value) LB131_132_134_139_144_149_154_155_156_157_158.out)
        have LB134_139_144_149_154_155_156_157_158_159 := hide (loc_other (p := ⟨w.heap.size, 5, none⟩) (v := .int .i64 a149.lit.value) LB134_139_144_149_154_155_156_157_158.out (NE_1_0.out))
        clear LB131_132_134_139_144_149_154_155_156_157_158 LB134_139_144_149_154_155_156_157_158
        have H159 := hide (H158.out.setLoc Q131.out 5 (.int .i64 a149.lit.value))
        have F159 := hide (F158.out.setLoc G131.out 5 (.int .i64 a149.lit.value))
        clear H158 F158
        have V0_149_154_155_156_157_158_159_160 := hide (Strs.keep V0_149_154_155_156_157_158_159.out (Kp.setLoc (T := [9]) (i := 6) (v := .slice p1_149 a149.guard.left.length r1_149) LB131_132_134_139_144_149_154_155_156_157_158_159.out (by decide)) (by decide))
        clear V0_149_154_155_156_157_158_159
        have V1_149_154_155_156_157_158_159_160 := hide (Terms.keep V1_149_154_155_156_157_158_159.out (Kp.setLoc (T := [9, 109]) (i := 6) (v := .slice p1_149 a149.guard.left.length r1_149) LB131_132_134_139_144_149_154_155_156_157_158_159.out (by decide)) (by decide) (by decide))
        clear V1_149_154_155_156_157_158_159
        have V2_149_154_155_156_157_158_159_160 := hide (Terms.keep V2_149_154_155_156_157_158_159.out (Kp.setLoc (T := [9, 109]) (i := 6) (v := .slice p1_149 a149.guard.left.length r1_149) LB131_132_134_139_144_149_154_155_156_157_158_159.out (by decide)) (by decide) (by decide))
        clear V2_149_154_155_156_157_158_159
        have LB131_132_134_139_144_149_154_155_156_157_158_159_160 := hide (loc_set (i := 6) (v := .slice p1_149 a149.guard.left.length r1_149) LB131_132_134_139_144_149_154_155_156_157_158_159.out)
        have LB134_139_144_149_154_155_156_157_158_159_160 := hide (loc_other (p := ⟨w.heap.size, 6, none⟩) (v := .slice p1_149 a149.guard.left.length r1_149) LB134_139_144_149_154_155_156_157_158_159.out (NE_1_0.out))
        clear LB131_132_134_139_144_149_154_155_156_157_158_159 LB134_139_144_149_154_155_156_157_158_159
        have H160 := hide (H159.out.setLoc Q131.out 6 (.slice p1_149 a149.guard.left.length r1_149))
        have F160 := hide (F159.out.setLoc G131.out 6 (.slice p1_149 a149.guard.left.length r1_149))
        clear H159 F159
        have V0_149_154_155_156_157_158_159_160_161 := hide (Strs.keep V0_149_154_155_156_157_158_159_160.out (Kp.setLoc (T := [9]) (i := 7) (v := .int .i64 a149.guard.op) LB131_132_134_139_144_149_154_155_156_157_158_159_160.out (by decide)) (by decide))
        clear V0_149_154_155_156_157_158_159_160
        have V1_149_154_155_156_157_158_159_160_161 := hide (Terms.keep V1_149_154_155_156_157_158_159_160.out (Kp.setLoc (T := [9, 109]) (i := 7) (v := .int .i64 a149.guard.op) LB131_132_134_139_144_149_154_155_156_157_158_159_160.out (by decide)) (by decide) (by decide))
        clear V1_149_154_155_156_157_158_159_160
        have V2_149_154_155_156_157_158_159_160_161 := hide (Terms.keep V2_149_154_155_156_157_158_159_160.out (Kp.setLoc (T := [9, 109]) (i := 7) (v := .int .i64 a149.guard.op) LB131_132_134_139_144_149_154_155_156_157_158_159_160.out (by decide)) (by decide) (by decide))
        clear V2_149_154_155_156_157_158_159_160
        have LB131_132_134_139_144_149_154_155_156_157_158_159_160_161 := hide (loc_set (i := 7) (v := .int .i64 a149.guard.op) LB131_132_134_139_144_149_154_155_156_157_158_159_160.out)
        have LB134_139_144_149_154_155_156_157_158_159_160_161 := hide (loc_other (p := ⟨w.heap.size, 7, none⟩) (v := .int .i64 a149.guard.op) LB134_139_144_149_154_155_156_157_158_159_160.out (NE_1_0.out))
        clear LB131_132_134_139_144_149_154_155_156_157_158_159_160 LB134_139_144_149_154_155_156_157_158_159_160
        have H161 := hide (H160.out.setLoc Q131.out 7 (.int .i64 a149.guard.op))
        have F161 := hide (F160.out.setLoc G131.out 7 (.int .i64 a149.guard.op))
        clear H160 F160
        have V0_149_154_155_156_157_158_159_160_161_162 := hide (Strs.keep V0_149_154_155_156_157_158_159_160_161.out (Kp.setLoc (T := [9]) (i := 8) (v := .slice p2_149 a149.guard.right.length r2_149) LB131_132_134_139_144_149_154_155_156_157_158_159_160_161.out (by decide)) (by decide))
        clear V0_149_154_155_156_157_158_159_160_161
        have V1_149_154_155_156_157_158_159_160_161_162 := hide (Terms.keep V1_149_154_155_156_157_158_159_160_161.out (Kp.setLoc (T := [9, 109]) (i := 8) (v := .slice p2_149 a149.guard.right.length r2_149) LB131_132_134_139_144_149_154_155_156_157_158_159_160_161.out (by decide)) (by decide) (by decide))
        clear V1_149_154_155_156_157_158_159_160_161
        have V2_149_154_155_156_157_158_159_160_161_162 := hide (Terms.keep V2_149_154_155_156_157_158_159_160_161.out (Kp.setLoc (T := [9, 109]) (i := 8) (v := .slice p2_149 a149.guard.right.length r2_149) LB131_132_134_139_144_149_154_155_156_157_158_159_160_161.out (by decide)) (by decide) (by decide))
        clear V2_149_154_155_156_157_158_159_160_161
        have LB131_132_134_139_144_149_154_155_156_157_158_159_160_161_162 := hide (loc_set (i := 8) (v := .slice p2_149 a149.guard.right.length r2_149) LB131_132_134_139_144_149_154_155_156_157_158_159_160_161.out)
        have LB134_139_144_149_154_155_156_157_158_159_160_161_162 := hide (loc_other (p := ⟨w.heap.size, 8, none⟩) (v := .slice p2_149 a149.guard.right.length r2_149) LB134_139_144_149_154_155_156_157_158_159_160_161.out (NE_1_0.out))
        clear LB131_132_134_139_144_149_154_155_156_157_158_159_160_161 LB134_139_144_149_154_155_156_157_158_159_160_161
        have H162 := hide (H161.out.setLoc Q131.out 8 (.slice p2_149 a149.guard.right.length r2_149))
        have F162 := hide (F161.out.setLoc G131.out 8 (.slice p2_149 a149.guard.right.length r2_149))
        clear H161 F161
        have V0_149_154_155_156_157_158_159_160_161_162_163 := hide (Strs.keep V0_149_154_155_156_157_158_159_160_161_162.out (Kp.setLoc (T := [9]) (i := 9) (v := .string ⟨a149.a.toArray⟩) LB131_132_134_139_144_149_154_155_156_157_158_159_160_161_162.out (by decide)) (by decide))
        clear V0_149_154_155_156_157_158_159_160_161_162
        have V1_149_154_155_156_157_158_159_160_161_162_163 := hide (Terms.keep V1_149_154_155_156_157_158_159_160_161_162.out (Kp.setLoc (T := [9, 109]) (i := 9) (v := .string ⟨a149.a.toArray⟩) LB131_132_134_139_144_149_154_155_156_157_158_159_160_161_162.out (by decide)) (by decide) (by decide))
        clear V1_149_154_155_156_157_158_159_160_161_162
        have V2_149_154_155_156_157_158_159_160_161_162_163 := hide (Terms.keep V2_149_154_155_156_157_158_159_160_161_162.out (Kp.setLoc (T := [9, 109]) (i := 9) (v := .string ⟨a149.a.toArray⟩) LB131_132_134_139_144_149_154_155_156_157_158_159_160_161_162.out (by decide)) (by decide) (by decide))
        clear V2_149_154_155_156_157_158_159_160_161_162
        have LB131_132_134_139_144_149_154_155_156_157_158_159_160_161_162_163 := hide (loc_set (i := 9) (v := .string ⟨a149.a.toArray⟩) LB131_132_134_139_144_149_154_155_156_157_158_159_160_161_162.out)
        have LB134_139_144_149_154_155_156_157_158_159_160_161_162_163 := hide (loc_other (p := ⟨w.heap.size, 9, none⟩) (v := .string ⟨a149.a.toArray⟩) LB134_139_144_149_154_155_156_157_158_159_160_161_162.out (NE_1_0.out))
        clear LB131_132_134_139_144_149_154_155_156_157_158_159_160_161_162 LB134_139_144_149_154_155_156_157_158_159_160_161_162
        have H163 := hide (H162.out.setLoc Q131.out 9 (.string ⟨a149.a.toArray⟩))
        have F163 := hide (F162.out.setLoc G131.out 9 (.string ⟨a149.a.toArray⟩))
        clear H162 F162
        have V0_149_154_155_156_157_158_159_160_161_162_163_164 := hide (Strs.keep V0_149_154_155_156_157_158_159_160_161_162_163.out (Kp.setLoc (T := [9]) (i := 10) (v := .string ⟨a149.b.toArray⟩) LB131_132_134_139_144_149_154_155_156_157_158_159_160_161_162_163.out (by decide)) (by decide))
        clear V0_149_154_155_156_157_158_159_160_161_162_163
        have V1_149_154_155_156_157_158_159_160_161_162_163_164 := hide (Terms.keep V1_149_154_155_156_157_158_159_160_161_162_163.out (Kp.setLoc (T := [9, 109]) (i := 10) (v := .string ⟨a149.b.toArray⟩) LB131_132_134_139_144_149_154_155_156_157_158_159_160_161_162_163.out (by decide)) (by decide) (by decide))
        clear V1_149_154_155_156_157_158_159_160_161_162_163
        have V2_149_154_155_156_157_158_159_160_161_162_163_164 := hide (Terms.keep V2_149_154_155_156_157_158_159_160_161_162_163.out (Kp.setLoc (T := [9, 109]) (i := 10) (v := .string ⟨a149.b.toArray⟩) LB131_132_134_139_144_149_154_155_156_157_158_159_160_161_162_163.out (by decide)) (by decide) (by decide))
        clear V2_149_154_155_156_157_158_159_160_161_162_163
        have LB131_132_134_139_144_149_154_155_156_157_158_159_160_161_162_163_164 := hide (loc_set (i := 10) (v := .string ⟨a149.b.toArray⟩) LB131_132_134_139_144_149_154_155_156_157_158_159_160_161_162_163.out)
        have LB134_139_144_149_154_155_156_157_158_159_160_161_162_163_164 := hide (loc_other (p := ⟨w.heap.size, 10, none⟩) (v := .string ⟨a149.b.toArray⟩) LB134_139_144_149_154_155_156_157_158_159_160_161_162_163.out (NE_1_0.out))
        clear LB131_132_134_139_144_149_154_155_156_157_158_159_160_161_162_163 LB134_139_144_149_154_155_156_157_158_159_160_161_162_163
        have H164 := hide (H163.out.setLoc Q131.out 10 (.string ⟨a149.b.toArray⟩))
        have F164 := hide (F163.out.setLoc G131.out 10 (.string ⟨a149.b.toArray⟩))
        clear H163 F163
        exact .of_ok HO149.out (⟨_, _, _, rfl, V0_149_154_155_156_157_158_159_160_161_162_163_164.out, V1_149_154_155_156_157_158_159_160_161_162_163_164.out, V2_149_154_155_156_157_158_159_160_161_162_163_164.out⟩) H164.out F164.out
      | false =>
        rw [hm] at CM
        have HO := hide (ite_f ho (by simp [hm]))
        have ho2 := ask_go HO.out
        have CN := hide (markCall L s.n (placeAt L N s.n) [123])
        cases hm2 : markAt (kt L) s.n [123] with
        | true =>
          rw [hm2] at CN
          clear HO
          have HO := hide (ite_t ho2 hm2)
          rw [hk] at CA0 CN
          clear ho ho2 hk hm hm2
          go_enter Tryz.func132, Tryz.ntmps132
          have B165 : Below _ _ ((w).alloc (.cells #[.int .i64 0, .bool false, .string ⟨#[]⟩, .slice none 0 0, .bool false, .int .i64 0, .slice none 0 0, .int .i64 0, .slice none 0 0, .string ⟨#[]⟩, .string ⟨#[]⟩] 107)) := (Below.refl _ _).alloc (Nat.le_refl _) _
          have Q165 : Hid (R < w.heap.size) := hide H.out.lt
          have G165 : Hid (w.heap.size ≤ w.heap.size) := hide F.out.size
          have LB165 := hide (heap_alloc_new (w) (.cells #[.int .i64 0, .bool false, .string ⟨#[]⟩, .slice none 0 0, .bool false, .int .i64 0, .slice none 0 0, .int .i64 0, .slice none 0 0, .string ⟨#[]⟩, .string ⟨#[]⟩] 107))
          have H165 := hide (H.out.below B165)
          have F165 := hide (F.out.trans (Fq.of_below B165))
          clear H F B165
          go_wp2_with fail
          refine (CA0.out _ H165.out).mono ?_
          rintro _ w166 ⟨rfl, hb⟩
          have LB165_166 := hide ((hb.block _ (loc_lt LB165.out)).trans LB165.out)
          clear LB165
          have H166 := hide (H165.out.below hb)
          have F166 := hide (F165.out.trans (Fq.of_below hb))
          clear hb H165 F165
          obtain ⟨z167_0, z167_1, z167_2, z167_3, z167_4, z167_5, z167_6, z167_7, z167_8, z167_9, z167_10, y167⟩ := row11 LB165_166.out
          have B168 : Below _ _ ((w166).alloc (.cells #[.int .i64 2, .string ⟨(tx (kt L) s.n).toArray⟩, .int .i64 (placeAt L N s.n)] 50)) := (Below.refl _ _).alloc (Nat.le_refl _) _
          have Q168 : Hid (R < w166.heap.size) := hide H166.out.lt
          have G168 : Hid (w.heap.size ≤ w166.heap.size) := hide F166.out.size
          have NE_0_1 : Hid (w.heap.size ≠ w166.heap.size) := hide (Nat.ne_of_lt (loc_lt LB165_166.out))
          have NE_1_0 : Hid (w166.heap.size ≠ w.heap.size) := hide (Nat.ne_of_gt (loc_lt LB165_166.out))
          have LB165_166_168 := hide ((B168.block _ (loc_lt LB165_166.out)).trans LB165_166.out)
          clear LB165_166
          have LB168 := hide (heap_alloc_new (w166) (.cells #[.int .i64 2, .string ⟨(tx (kt L) s.n).toArray⟩, .int .i64 (placeAt L N s.n)] 50))
          have H168 := hide (H166.out.below B168)
          have F168 := hide (F166.out.trans (Fq.of_below B168))
          clear H166 F166 B168
          obtain ⟨z169_0, z169_1, z169_2, z169_3, z169_4, z169_5, z169_6, z169_7, z169_8, z169_9, z169_10, y169⟩ := row11 LB165_166_168.out
          obtain ⟨z170_0, z170_1, z170_2, y170⟩ := row3 LB168.out
          have x171 := NE_0_1.out
          have x172 := NE_1_0.out
          go_wp2_with fail
          refine (ahead_any R L N s st _ H168.out 1 (by omega)).mono ?_
          rintro _ w173 ⟨rfl, hb⟩
          clear z167_0 z167_1 z167_2 z167_3 z167_4 z167_5 z167_6 z167_7 z167_8 z167_9 z167_10 y167 z169_0 z169_1 z169_2 z169_3 z169_4 z169_5 z169_6 z169_7 z169_8 z169_9 z169_10 y169 z170_0 z170_1 z170_2 y170 x171 x172
          have LB165_166_168_173 := hide ((hb.block _ (loc_lt LB165_166_168.out)).trans LB165_166_168.out)
          clear LB165_166_168
          have LB168_173 := hide ((hb.block _ (loc_lt LB168.out)).trans LB168.out)
          clear LB168
          have H173 := hide (H168.out.below hb)
          have F173 := hide (F168.out.trans (Fq.of_below hb))
          clear hb H168 F168
          obtain ⟨z174_0, z174_1, z174_2, z174_3, z174_4, z174_5, z174_6, z174_7, z174_8, z174_9, z174_10, y174⟩ := row11 LB165_166_168_173.out
          obtain ⟨z175_0, z175_1, z175_2, y175⟩ := row3 LB168_173.out
          have x176 := NE_0_1.out
          have x177 := NE_1_0.out
          go_wp2_with fail
          refine (CM.out _).mono ?_
          rintro _ w178 ⟨rfl, hb⟩
          clear z174_0 z174_1 z174_2 z174_3 z174_4 z174_5 z174_6 z174_7 z174_8 z174_9 z174_10 y174 z175_0 z175_1 z175_2 y175 x176 x177
          have LB165_166_168_173_178 := hide ((hb.block _ (loc_lt LB165_166_168_173.out)).trans LB165_166_168_173.out)
          clear LB165_166_168_173
          have LB168_173_178 := hide ((hb.block _ (loc_lt LB168_173.out)).trans LB168_173.out)
          clear LB168_173
          have H178 := hide (H173.out.below hb)
          have F178 := hide (F173.out.trans (Fq.of_below hb))
          clear hb H173 F173
          obtain ⟨z179_0, z179_1, z179_2, z179_3, z179_4, z179_5, z179_6, z179_7, z179_8, z179_9, z179_10, y179⟩ := row11 LB165_166_168_173_178.out
          obtain ⟨z180_0, z180_1, z180_2, y180⟩ := row3 LB168_173_178.out
          have x181 := NE_0_1.out
          have x182 := NE_1_0.out
          go_wp2_with fail
          refine (CN.out _).mono ?_
          rintro _ w183 ⟨rfl, hb⟩
          clear z179_0 z179_1 z179_2 z179_3 z179_4 z179_5 z179_6 z179_7 z179_8 z179_9 z179_10 y179 z180_0 z180_1 z180_2 y180 x181 x182
          have LB165_166_168_173_178_183 := hide ((hb.block _ (loc_lt LB165_166_168_173_178.out)).trans LB165_166_168_173_178.out)
          clear LB165_166_168_173_178
          have LB168_173_178_183 := hide ((hb.block _ (loc_lt LB168_173_178.out)).trans LB168_173_178.out)
          clear LB168_173_178
          have H183 := hide (H178.out.below hb)
          have F183 := hide (F178.out.trans (Fq.of_below hb))
          clear hb H178 F178
          obtain ⟨z184_0, z184_1, z184_2, z184_3, z184_4, z184_5, z184_6, z184_7, z184_8, z184_9, z184_10, y184⟩ := row11 LB165_166_168_173_178_183.out
          obtain ⟨z185_0, z185_1, z185_2, y185⟩ := row3 LB168_173_178_183.out
          have x186 := NE_0_1.out
          have x187 := NE_1_0.out
          have C188 := hide (guard_any R L N s st _ H183.out _ rfl)
          go_wp2_with fail
          refine C188.out.mono ?_
          intro e w188 he
          rcases he.split with ⟨a188, s188, v188, ho, rfl, hv, hR, hF⟩ | ⟨c, m, ho, rfl, hF⟩
          rotate_left 1
          · exact on_panic rfl (.of_bad (bind_no HO.out ho) (F183.out.trans hF))
          clear z184_0 z184_1 z184_2 z184_3 z184_4 z184_5 z184_6 z184_7 z184_8 z184_9 z184_10 y184 z185_0 z185_1 z185_2 y185 x186 x187
          have HO188 := hide (bind_go HO.out ho)
          have LB165_166_168_173_178_183_188 := hide (hF.loc LB165_166_168_173_178_183.out (Nat.ne_of_gt Q165.out))
          clear LB165_166_168_173_178_183
          have LB168_173_178_183_188 := hide (hF.loc LB168_173_178_183.out (Nat.ne_of_gt Q168.out))
          clear LB168_173_178_183
          have H188 := hide hR
          have F188 := hide (F183.out.trans hF)
          obtain ⟨lv188, rv188, rfl, hv0_188, hv1_188⟩ := hv
          obtain ⟨p0_188, r0_188, rfl⟩ := rows_form hv0_188
          have V0_188 := hide (Terms.mono hv0_188 fun g hg => Nat.le_trans F183.out.size hg)
          clear hv0_188
          obtain ⟨p1_188, r1_188, rfl⟩ := rows_form hv1_188
          have V1_188 := hide (Terms.mono hv1_188 fun g hg => Nat.le_trans F183.out.size hg)
          clear hv1_188
          clear he ho hR hF C188 H183 F183 HO
          obtain ⟨z189_0, z189_1, z189_2, z189_3, z189_4, z189_5, z189_6, z189_7, z189_8, z189_9, z189_10, y189⟩ := row11 LB165_166_168_173_178_183_188.out
          obtain ⟨z190_0, z190_1, z190_2, y190⟩ := row3 LB168_173_178_183_188.out
          have x191 := NE_0_1.out
          have x192 := NE_1_0.out
          go_wp2_with fail
          have hz := (And.intro z189_0 (And.intro z189_1 (And.intro z189_2 (And.intro z189_3 (And.intro z189_4 (And.intro z189_5 (And.intro z189_6 (And.intro z189_7 (And.intro z189_8 (And.intro z189_9 (And.intro z189_10 (And.intro y189 (And.intro z190_0 (And.intro z190_1 (And.intro z190_2 (And.intro y190 (And.intro x191 x192)))))))))))))))))
          simp [bodyPost, results, Tryz.results132, go_sem, hz]
          have V0_188_193 := hide (Terms.keep V0_188.out (Kp.setLoc (T := [9, 109]) (i := 0) (v := .int .i64 2) LB165_166_168_173_178_183_188.out (by decide)) (by decide) (by decide))
          clear V0_188
          have V1_188_193 := hide (Terms.keep V1_188.out (Kp.setLoc (T := [9, 109]) (i := 0) (v := .int .i64 2) LB165_166_168_173_178_183_188.out (by decide)) (by decide) (by decide))
          clear V1_188
          have LB165_166_168_173_178_183_188_193 := hide (loc_set (i := 0) (v := .int .i64 2) LB165_166_168_173_178_183_188.out)
          have LB168_173_178_183_188_193 := hide (loc_other (p := ⟨w.heap.size, 0, none⟩) (v := .int .i64 2) LB168_173_178_183_188.out (NE_1_0.out))
          clear LB165_166_168_173_178_183_188 LB168_173_178_183_188
          have H193 := hide (H188.out.setLoc Q165.out 0 (.int .i64 2))
          have F193 := hide (F188.out.setLoc G165.out 0 (.int .i64 2))
          clear H188 F188
          have V0_188_193_194 := hide (Terms.keep V0_188_193.out (Kp.setLoc (T := [9, 109]) (i := 1) (v := .bool false) LB165_166_168_173_178_183_188_193.out (by decide)) (by decide) (by decide))
          clear V0_188_193
          have V1_188_193_194 := hide (Terms.keep V1_188_193.out (Kp.setLoc (T := [9, 109]) (i := 1) (v := .bool false) LB165_166_168_173_178_183_188_193.out (by decide)) (by decide) (by decide))
          clear V1_188_193
          have LB165_166_168_173_178_183_188_193_194 := hide (loc_set (i := 1) (v := .bool false) LB165_166_168_173_178_183_188_193.out)
          have LB168_173_178_183_188_193_194 := hide (loc_other (p := ⟨w.heap.size, 1, none⟩) (v := .bool false) LB168_173_178_183_188_193.out (NE_1_0.out))
          clear LB165_166_168_173_178_183_188_193 LB168_173_178_183_188_193
          have H194 := hide (H193.out.setLoc Q165.out 1 (.bool false))
          have F194 := hide (F193.out.setLoc G165.out 1 (.bool false))
          clear H193 F193
          have V0_188_193_194_195 := hide (Terms.keep V0_188_193_194.out (Kp.setLoc (T := [9, 109]) (i := 2) (v := .string ⟨#[]⟩) LB165_166_168_173_178_183_188_193_194.out (by decide)) (by decide) (by decide))
          clear V0_188_193_194
          have V1_188_193_194_195 := hide (Terms.keep V1_188_193_194.out (Kp.setLoc (T := [9, 109]) (i := 2) (v := .string ⟨#[]⟩) LB165_166_168_173_178_183_188_193_194.out (by decide)) (by decide) (by decide))
          clear V1_188_193_194
          have LB165_166_168_173_178_183_188_193_194_195 := hide (loc_set (i := 2) (v := .string ⟨#[]⟩) LB165_166_168_173_178_183_188_193_194.out)
          have LB168_173_178_183_188_193_194_195 := hide (loc_other (p := ⟨w.heap.size, 2, none⟩) (v := .string ⟨#[]⟩) LB168_173_178_183_188_193_194.out (NE_1_0.out))
          clear LB165_166_168_173_178_183_188_193_194 LB168_173_178_183_188_193_194
          have H195 := hide (H194.out.setLoc Q165.out 2 (.string ⟨#[]⟩))
          have F195 := hide (F194.out.setLoc G165.out 2 (.string ⟨#[]⟩))
          clear H194 F194
          have V0_188_193_194_195_196 := hide (Terms.keep V0_188_193_194_195.out (Kp.setLoc (T := [9, 109]) (i := 3) (v := .slice none 0 0) LB165_166_168_173_178_183_188_193_194_195.out (by decide)) (by decide) (by decide))
          clear V0_188_193_194_195
          have V1_188_193_194_195_196 := hide (Terms.keep V1_188_193_194_195.out (Kp.setLoc (T := [9, 109]) (i := 3) (v := .slice none 0 0) LB165_166_168_173_178_183_188_193_194_195.out (by decide)) (by decide) (by decide))
          clear V1_188_193_194_195
          have LB165_166_168_173_178_183_188_193_194_195_196 := hide (loc_set (i := 3) (v := .slice none 0 0) LB165_166_168_173_178_183_188_193_194_195.out)
          have LB168_173_178_183_188_193_194_195_196 := hide (loc_other (p := ⟨w.heap.size, 3, none⟩) (v := .slice none 0 0) LB168_173_178_183_188_193_194_195.out (NE_1_0.out))
          clear LB165_166_168_173_178_183_188_193_194_195 LB168_173_178_183_188_193_194_195
          have H196 := hide (H195.out.setLoc Q165.out 3 (.slice none 0 0))
          have F196 := hide (F195.out.setLoc G165.out 3 (.slice none 0 0))
          clear H195 F195
          have V0_188_193_194_195_196_197 := hide (Terms.keep V0_188_193_194_195_196.out (Kp.setLoc (T := [9, 109]) (i := 4) (v := .bool false) LB165_166_168_173_178_183_188_193_194_195_196.out (by decide)) (by decide) (by decide))
          clear V0_188_193_194_195_196
          have V1_188_193_194_195_196_197 := hide (Terms.keep V1_188_193_194_195_196.out (Kp.setLoc (T := [9, 109]) (i := 4) (v := .bool false) LB165_166_168_173_178_183_188_193_194_195_196.out (by decide)) (by decide) (by decide))
          clear V1_188_193_194_195_196
          have LB165_166_168_173_178_183_188_193_194_195_196_197 := hide (loc_set (i := 4) (v := .bool false) LB165_166_168_173_178_183_188_193_194_195_196.out)
          have LB168_173_178_183_188_193_194_195_196_197 := hide (loc_other (p := ⟨w.heap.size, 4, none⟩) (v := .bool false) LB168_173_178_183_188_193_194_195_196.out (NE_1_0.out))
          clear LB165_166_168_173_178_183_188_193_194_195_196 LB168_173_178_183_188_193_194_195_196
          have H197 := hide (H196.out.setLoc Q165.out 4 (.bool false))
          have F197 := hide (F196.out.setLoc G165.out 4 (.bool false))
          clear H196 F196
          have V0_188_193_194_195_196_197_198 := hide (Terms.keep V0_188_193_194_195_196_197.out (Kp.setLoc (T := [9, 109]) (i := 5) (v := .int .i64 0) LB165_166_168_173_178_183_188_193_194_195_196_197.out (by decide)) (by decide) (by decide))
          clear V0_188_193_194_195_196_197
          have V1_188_193_194_195_196_197_198 := hide (Terms.keep V1_188_193_194_195_196_197.out (Kp.setLoc (T := [9, 109]) (i := 5) (v := .int .i64 0) LB165_166_168_173_178_183_188_193_194_195_196_197.out (by decide)) (by decide) (by decide))
          clear V1_188_193_194_195_196_197
          have LB165_166_168_173_178_183_188_193_194_195_196_197_198 := hide (loc_set (i := 5) (v := .int .i64 0) LB165_166_168_173_178_183_188_193_194_195_196_197.out)
          have LB168_173_178_183_188_193_194_195_196_197_198 := hide (loc_other (p := ⟨w.heap.size, 5, none⟩) (v := .int .i64 0) LB168_173_178_183_188_193_194_195_196_197.out (NE_1_0.out))
          clear LB165_166_168_173_178_183_188_193_194_195_196_197 LB168_173_178_183_188_193_194_195_196_197
          have H198 := hide (H197.out.setLoc Q165.out 5 (.int .i64 0))
          have F198 := hide (F197.out.setLoc G165.out 5 (.int .i64 0))
          clear H197 F197
          have V0_188_193_194_195_196_197_198_199 := hide (Terms.keep V0_188_193_194_195_196_197_198.out (Kp.setLoc (T := [9, 109]) (i := 6) (v := .slice p0_188 a188.left.length r0_188) LB165_166_168_173_178_183_188_193_194_195_196_197_198.out (by decide)) (by decide) (by decide))
          clear V0_188_193_194_195_196_197_198
          have V1_188_193_194_195_196_197_198_199 := hide (Terms.keep V1_188_193_194_195_196_197_198.out (Kp.setLoc (T := [9, 109]) (i := 6) (v := .slice p0_188 a188.left.length r0_188) LB165_166_168_173_178_183_188_193_194_195_196_197_198.out (by decide)) (by decide) (by decide))
          clear V1_188_193_194_195_196_197_198
          have LB165_166_168_173_178_183_188_193_194_195_196_197_198_199 := hide (loc_set (i := 6) (v := .slice p0_188 a188.left.length r0_188) LB165_166_168_173_178_183_188_193_194_195_196_197_198.out)
          have LB168_173_178_183_188_193_194_195_196_197_198_199 := hide (loc_other (p := ⟨w.heap.size, 6, none⟩) (v := .slice p0_188 a188.left.length r0_188) LB168_173_178_183_188_193_194_195_196_197_198.out (NE_1_0.out))
          clear LB165_166_168_173_178_183_188_193_194_195_196_197_198 LB168_173_178_183_188_193_194_195_196_197_198
          have H199 := hide (H198.out.setLoc Q165.out 6 (.slice p0_188 a188.left.length r0_188))
          have F199 := hide (F198.out.setLoc G165.out 6 (.slice p0_188 a188.left.length r0_188))
          clear H198 F198
          have V0_188_193_194_195_196_197_198_199_200 := hide (Terms.keep V0_188_193_194_195_196_197_198_199.out (Kp.setLoc (T := [9, 109]) (i := 7) (v := .int .i64 a188.op) LB165_166_168_173_178_183_188_193_194_195_196_197_198_199.out (by decide)) (by decide) (by decide))
          clear V0_188_193_194_195_196_197_198_199
          have V1_188_193_194_195_196_197_198_199_200 := hide (Terms.keep V1_188_193_194_195_196_197_198_199.out (Kp.setLoc (T := [9, 109]) (i := 7) (v := .int .i64 a188.op) LB165_166_168_173_178_183_188_193_194_195_196_197_198_199.out (by decide)) (by decide) (by decide))
          clear V1_188_193_194_195_196_197_198_199
          have LB165_166_168_173_178_183_188_193_194_195_196_197_198_199_200 := hide (loc_set (i := 7) (v := .int .i64 a188.op) LB165_166_168_173_178_183_188_193_194_195_196_197_198_199.out)
          have LB168_173_178_183_188_193_194_195_196_197_198_199_200 := hide (loc_other (p := ⟨w.heap.size, 7, none⟩) (v := .int .i64 a188.op) LB168_173_178_183_188_193_194_195_196_197_198_199.out (NE_1_0.out))
          clear LB165_166_168_173_178_183_188_193_194_195_196_197_198_199 LB168_173_178_183_188_193_194_195_196_197_198_199
          have H200 := hide (H199.out.setLoc Q165.out 7 (.int .i64 a188.op))
          have F200 := hide (F199.out.setLoc G165.out 7 (.int .i64 a188.op))
          clear H199 F199
          have V0_188_193_194_195_196_197_198_199_200_201 := hide (Terms.keep V0_188_193_194_195_196_197_198_199_200.out (Kp.setLoc (T := [9, 109]) (i := 8) (v := .slice p1_188 a188.right.length r1_188) LB165_166_168_173_178_183_188_193_194_195_196_197_198_199_200.out (by decide)) (by decide) (by decide))
          clear V0_188_193_194_195_196_197_198_199_200
          have V1_188_193_194_195_196_197_198_199_200_201 := hide (Terms.keep V1_188_193_194_195_196_197_198_199_200.out (Kp.setLoc (T := [9, 109]) (i := 8) (v := .slice p1_188 a188.right.length r1_188) LB165_166_168_173_178_183_188_193_194_195_196_197_198_199_200.out (by decide)) (by decide) (by decide))
          clear V1_188_193_194_195_196_197_198_199_200
          have LB165_166_168_173_178_183_188_193_194_195_196_197_198_199_200_201 := hide (loc_set (i := 8) (v := .slice p1_188 a188.right.length r1_188) LB165_166_168_173_178_183_188_193_194_195_196_197_198_199_200.out)
          have LB168_173_178_183_188_193_194_195_196_197_198_199_200_201 := hide (loc_other (p := ⟨w.heap.size, 8, none⟩) (v := .slice p1_188 a188.right.length r1_188) LB168_173_178_183_188_193_194_195_196_197_198_199_200.out (NE_1_0.out))
          clear LB165_166_168_173_178_183_188_193_194_195_196_197_198_199_200 LB168_173_178_183_188_193_194_195_196_197_198_199_200
          have H201 := hide (H200.out.setLoc Q165.out 8 (.slice p1_188 a188.right.length r1_188))
          have F201 := hide (F200.out.setLoc G165.out 8 (.slice p1_188 a188.right.length r1_188))
          clear H200 F200
          have V0_188_193_194_195_196_197_198_199_200_201_202 := hide (Terms.keep V0_188_193_194_195_196_197_198_199_200_201.out (Kp.setLoc (T := [9, 109]) (i := 9) (v := .string ⟨#[]⟩) LB165_166_168_173_178_183_188_193_194_195_196_197_198_199_200_201.out (by decide)) (by decide) (by decide))
          clear V0_188_193_194_195_196_197_198_199_200_201
          have V1_188_193_194_195_196_197_198_199_200_201_202 := hide (Terms.keep V1_188_193_194_195_196_197_198_199_200_201.out (Kp.setLoc (T := [9, 109]) (i := 9) (v := .string ⟨#[]⟩) LB165_166_168_173_178_183_188_193_194_195_196_197_198_199_200_201.out (by decide)) (by decide) (by decide))
          clear V1_188_193_194_195_196_197_198_199_200_201
          have LB165_166_168_173_178_183_188_193_194_195_196_197_198_199_200_201_202 := hide (loc_set (i := 9) (v := .string ⟨#[]⟩) LB165_166_168_173_178_183_188_193_194_195_196_197_198_199_200_201.out)
          have LB168_173_178_183_188_193_194_195_196_197_198_199_200_201_202 := hide (loc_other (p := ⟨w.heap.size, 9, none⟩) (v := .string ⟨#[]⟩) LB168_173_178_183_188_193_194_195_196_197_198_199_200_201.out (NE_1_0.out))
          clear LB165_166_168_173_178_183_188_193_194_195_196_197_198_199_200_201 LB168_173_178_183_188_193_194_195_196_197_198_199_200_201
          have H202 := hide (H201.out.setLoc Q165.out 9 (.string ⟨#[]⟩))
          have F202 := hide (F201.out.setLoc G165.out 9 (.string ⟨#[]⟩))
          clear H201 F201
          have V0_188_193_194_195_196_197_198_199_200_201_202_203 := hide (Terms.keep V0_188_193_194_195_196_197_198_199_200_201_202.out (Kp.setLoc (T := [9, 109]) (i := 10) (v := .string ⟨#[]⟩) LB165_166_168_173_178_183_188_193_194_195_196_197_198_199_200_201_202.out (by decide)) (by decide) (by decide))
          clear V0_188_193_194_195_196_197_198_199_200_201_202
          have V1_188_193_194_195_196_197_198_199_200_201_202_203 := hide (Terms.keep V1_188_193_194_195_196_197_198_199_200_201_202.out (Kp.setLoc (T := [9, 109]) (i := 10) (v := .string ⟨#[]⟩) LB165_166_168_173_178_183_188_193_194_195_196_197_198_199_200_201_202.out (by decide)) (by decide) (by decide))
          clear V1_188_193_194_195_196_197_198_199_200_201_202
          have LB165_166_168_173_178_183_188_193_194_195_196_197_198_199_200_201_202_203 := hide (loc_set (i := 10) (v := .string ⟨#[]⟩) LB165_166_168_173_178_183_188_193_194_195_196_197_198_199_200_201_202.out)
          have LB168_173_178_183_188_193_194_195_196_197_198_199_200_201_202_203 := hide (loc_other (p := ⟨w.heap.size, 10, none⟩) (v := .string ⟨#[]⟩) LB168_173_178_183_188_193_194_195_196_197_198_199_200_201_202.out (NE_1_0.out))
          clear LB165_166_168_173_178_183_188_193_194_195_196_197_198_199_200_201_202 LB168_173_178_183_188_193_194_195_196_197_198_199_200_201_202
          have H203 := hide (H202.out.setLoc Q165.out 10 (.string ⟨#[]⟩))
          have F203 := hide (F202.out.setLoc G165.out 10 (.string ⟨#[]⟩))
          clear H202 F202
          exact .of_ok HO188.out (⟨_, _, _, rfl, Rows.nil _ _ _ _ _, V0_188_193_194_195_196_197_198_199_200_201_202_203.out, V1_188_193_194_195_196_197_198_199_200_201_202_203.out⟩) H203.out F203.out
        | false =>
          rw [hm2] at CN
          clear HO
          have HO := hide (ite_f ho2 hm2)
          rw [hk] at CA0 CN
          clear ho ho2 hk hm hm2
          go_enter Tryz.func132, Tryz.ntmps132
          have B204 : Below _ _ ((w).alloc (.cells #[.int .i64 0, .bool false, .string ⟨#[]⟩, .slice none 0 0, .bool false, .int .i64 0, .slice none 0 0, .int .i64 0, .slice none 0 0, .string ⟨#[]⟩, .string ⟨#[]⟩] 107)) := (Below.refl _ _).alloc (Nat.le_refl _) _
          have Q204 : Hid (R < w.heap.size) := hide H.out.lt
          have G204 : Hid (w.heap.size ≤ w.heap.size) := hide F.out.size
          have LB204 := hide (heap_alloc_new (w) (.cells #[.int .i64 0, .bool false, .string ⟨#[]⟩, .slice none 0 0, .bool false, .int .i64 0, .slice none 0 0, .int .i64 0, .slice none 0 0, .string ⟨#[]⟩, .string ⟨#[]⟩] 107))
          have H204 := hide (H.out.below B204)
          have F204 := hide (F.out.trans (Fq.of_below B204))
          clear H F B204
          go_wp2_with fail
          refine (CA0.out _ H204.out).mono ?_
          rintro _ w205 ⟨rfl, hb⟩
          have LB204_205 := hide ((hb.block _ (loc_lt LB204.out)).trans LB204.out)
          clear LB204
          have H205 := hide (H204.out.below hb)
          have F205 := hide (F204.out.trans (Fq.of_below hb))
          clear hb H204 F204
          obtain ⟨z206_0, z206_1, z206_2, z206_3, z206_4, z206_5, z206_6, z206_7, z206_8, z206_9, z206_10, y206⟩ := row11 LB204_205.out
          have B207 : Below _ _ ((w205).alloc (.cells #[.int .i64 2, .string ⟨(tx (kt L) s.n).toArray⟩, .int .i64 (placeAt L N s.n)] 50)) := (Below.refl _ _).alloc (Nat.le_refl _) _
          have Q207 : Hid (R < w205.heap.size) := hide H205.out.lt
          have G207 : Hid (w.heap.size ≤ w205.heap.size) := hide F205.out.size
          have NE_0_1 : Hid (w.heap.size ≠ w205.heap.size) := hide (Nat.ne_of_lt (loc_lt LB204_205.out))
          have NE_1_0 : Hid (w205.heap.size ≠ w.heap.size) := hide (Nat.ne_of_gt (loc_lt LB204_205.out))
          have LB204_205_207 := hide ((B207.block _ (loc_lt LB204_205.out)).trans LB204_205.out)
          clear LB204_205
          have LB207 := hide (heap_alloc_new (w205) (.cells #[.int .i64 2, .string ⟨(tx (kt L) s.n).toArray⟩, .int .i64 (placeAt L N s.n)] 50))
          have H207 := hide (H205.out.below B207)
          have F207 := hide (F205.out.trans (Fq.of_below B207))
          clear H205 F205 B207
          obtain ⟨z208_0, z208_1, z208_2, z208_3, z208_4, z208_5, z208_6, z208_7, z208_8, z208_9, z208_10, y208⟩ := row11 LB204_205_207.out
          obtain ⟨z209_0, z209_1, z209_2, y209⟩ := row3 LB207.out
          have x210 := NE_0_1.out
          have x211 := NE_1_0.out
          go_wp2_with fail
          refine (ahead_any R L N s st _ H207.out 1 (by omega)).mono ?_
          rintro _ w212 ⟨rfl, hb⟩
          clear z206_0 z206_1 z206_2 z206_3 z206_4 z206_5 z206_6 z206_7 z206_8 z206_9 z206_10 y206 z208_0 z208_1 z208_2 z208_3 z208_4 z208_5 z208_6 z208_7 z208_8 z208_9 z208_10 y208 z209_0 z209_1 z209_2 y209 x210 x211
          have LB204_205_207_212 := hide ((hb.block _ (loc_lt LB204_205_207.out)).trans LB204_205_207.out)
          clear LB204_205_207
          have LB207_212 := hide ((hb.block _ (loc_lt LB207.out)).trans LB207.out)
          clear LB207
          have H212 := hide (H207.out.below hb)
          have F212 := hide (F207.out.trans (Fq.of_below hb))
          clear hb H207 F207
          obtain ⟨z213_0, z213_1, z213_2, z213_3, z213_4, z213_5, z213_6, z213_7, z213_8, z213_9, z213_10, y213⟩ := row11 LB204_205_207_212.out
          obtain ⟨z214_0, z214_1, z214_2, y214⟩ := row3 LB207_212.out
          have x215 := NE_0_1.out
          have x216 := NE_1_0.out
          go_wp2_with fail
          refine (CM.out _).mono ?_
          rintro _ w217 ⟨rfl, hb⟩
          clear z213_0 z213_1 z213_2 z213_3 z213_4 z213_5 z213_6 z213_7 z213_8 z213_9 z213_10 y213 z214_0 z214_1 z214_2 y214 x215 x216
          have LB204_205_207_212_217 := hide ((hb.block _ (loc_lt LB204_205_207_212.out)).trans LB204_205_207_212.out)
          clear LB204_205_207_212
          have LB207_212_217 := hide ((hb.block _ (loc_lt LB207_212.out)).trans LB207_212.out)
          clear LB207_212
          have H217 := hide (H212.out.below hb)
          have F217 := hide (F212.out.trans (Fq.of_below hb))
          clear hb H212 F212
          obtain ⟨z218_0, z218_1, z218_2, z218_3, z218_4, z218_5, z218_6, z218_7, z218_8, z218_9, z218_10, y218⟩ := row11 LB204_205_207_212_217.out
          obtain ⟨z219_0, z219_1, z219_2, y219⟩ := row3 LB207_212_217.out
          have x220 := NE_0_1.out
          have x221 := NE_1_0.out
          go_wp2_with fail
          refine (CN.out _).mono ?_
          rintro _ w222 ⟨rfl, hb⟩
          clear z218_0 z218_1 z218_2 z218_3 z218_4 z218_5 z218_6 z218_7 z218_8 z218_9 z218_10 y218 z219_0 z219_1 z219_2 y219 x220 x221
          have LB204_205_207_212_217_222 := hide ((hb.block _ (loc_lt LB204_205_207_212_217.out)).trans LB204_205_207_212_217.out)
          clear LB204_205_207_212_217
          have LB207_212_217_222 := hide ((hb.block _ (loc_lt LB207_212_217.out)).trans LB207_212_217.out)
          clear LB207_212_217
          have H222 := hide (H217.out.below hb)
          have F222 := hide (F217.out.trans (Fq.of_below hb))
          clear hb H217 F217
          obtain ⟨z223_0, z223_1, z223_2, z223_3, z223_4, z223_5, z223_6, z223_7, z223_8, z223_9, z223_10, y223⟩ := row11 LB204_205_207_212_217_222.out
          obtain ⟨z224_0, z224_1, z224_2, y224⟩ := row3 LB207_212_217_222.out
          have x225 := NE_0_1.out
          have x226 := NE_1_0.out
          have C227 := hide (literal_any R L N s st _ H222.out _ rfl)
          go_wp2_with fail
          refine C227.out.mono ?_
          intro e w227 he
          rcases he.split with ⟨a227, s227, v227, ho, rfl, hv, hR, hF⟩ | ⟨c, m, ho, rfl, hF⟩
          rotate_left 1
          · exact on_panic rfl (.of_bad (bind_no HO.out ho) (F222.out.trans hF))
          clear z223_0 z223_1 z223_2 z223_3 z223_4 z223_5 z223_6 z223_7 z223_8 z223_9 z223_10 y223 z224_0 z224_1 z224_2 y224 x225 x226
          have HO227 := hide (bind_go HO.out ho)
          have LB204_205_207_212_217_222_227 := hide (hF.loc LB204_205_207_212_217_222.out (Nat.ne_of_gt Q204.out))
          clear LB204_205_207_212_217_222
          have LB207_212_217_222_227 := hide (hF.loc LB207_212_217_222.out (Nat.ne_of_gt Q207.out))
          clear LB207_212_217_222
          have H227 := hide hR
          have F227 := hide (F222.out.trans hF)
          obtain ⟨av227, rfl, hv0_227⟩ := hv
          obtain ⟨p0_227, r0_227, rfl⟩ := rows_form hv0_227
          have V0_227 := hide (Strs.mono hv0_227 fun g hg => Nat.le_trans F222.out.size hg)
          clear hv0_227
          clear he ho hR hF C227 H222 F222 HO
          obtain ⟨z228_0, z228_1, z228_2, z228_3, z228_4, z228_5, z228_6, z228_7, z228_8, z228_9, z228_10, y228⟩ := row11 LB204_205_207_212_217_222_227.out
          obtain ⟨z229_0, z229_1, z229_2, y229⟩ := row3 LB207_212_217_222_227.out
          have x230 := NE_0_1.out
          have x231 := NE_1_0.out
          go_wp2_with fail
          have hz := (And.intro z228_0 (And.intro z228_1 (And.intro z228_2 (And.intro z228_3 (And.intro z228_4 (And.intro z228_5 (And.intro z228_6 (And.intro z228_7 (And.intro z228_8 (And.intro z228_9 (And.intro z228_10 (And.intro y228 (And.intro z229_0 (And.intro z229_1 (And.intro z229_2 (And.intro y229 (And.intro x230 x231)))))))))))))))))
          simp [bodyPost, results, Tryz.results132, go_sem, hz]
          have V0_227_232 := hide (Strs.keep V0_227.out (Kp.setLoc (T := [9]) (i := 0) (v := .int .i64 1) LB204_205_207_212_217_222_227.out (by decide)) (by decide))
          clear V0_227
          have LB204_205_207_212_217_222_227_232 := hide (loc_set (i := 0) (v := .int .i64 1) LB204_205_207_212_217_222_227.out)
          have LB207_212_217_222_227_232 := hide (loc_other (p := ⟨w.heap.size, 0, none⟩) (v := .int .i64 1) LB207_212_217_222_227.out (NE_1_0.out))
          clear LB204_205_207_212_217_222_227 LB207_212_217_222_227
          have H232 := hide (H227.out.setLoc Q204.out 0 (.int .i64 1))
          have F232 := hide (F227.out.setLoc G204.out 0 (.int .i64 1))
          clear H227 F227
          have V0_227_232_233 := hide (Strs.keep V0_227_232.out (Kp.setLoc (T := [9]) (i := 1) (v := .bool a227.neg) LB204_205_207_212_217_222_227_232.out (by decide)) (by decide))
          clear V0_227_232
          have LB204_205_207_212_217_222_227_232_233 := hide (loc_set (i := 1) (v := .bool a227.neg) LB204_205_207_212_217_222_227_232.out)
          have LB207_212_217_222_227_232_233 := hide (loc_other (p := ⟨w.heap.size, 1, none⟩) (v := .bool a227.neg) LB207_212_217_222_227_232.out (NE_1_0.out))
          clear LB204_205_207_212_217_222_227_232 LB207_212_217_222_227_232
          have H233 := hide (H232.out.setLoc Q204.out 1 (.bool a227.neg))
          have F233 := hide (F232.out.setLoc G204.out 1 (.bool a227.neg))
          clear H232 F232
          have V0_227_232_233_234 := hide (Strs.keep V0_227_232_233.out (Kp.setLoc (T := [9]) (i := 2) (v := .string ⟨a227.pred.toArray⟩) LB204_205_207_212_217_222_227_232_233.out (by decide)) (by decide))
          clear V0_227_232_233
          have LB204_205_207_212_217_222_227_232_233_234 := hide (loc_set (i := 2) (v := .string ⟨a227.pred.toArray⟩) LB204_205_207_212_217_222_227_232_233.out)
          have LB207_212_217_222_227_232_233_234 := hide (loc_other (p := ⟨w.heap.size, 2, none⟩) (v := .string ⟨a227.pred.toArray⟩) LB207_212_217_222_227_232_233.out (NE_1_0.out))
          clear LB204_205_207_212_217_222_227_232_233 LB207_212_217_222_227_232_233
          have H234 := hide (H233.out.setLoc Q204.out 2 (.string ⟨a227.pred.toArray⟩))
          have F234 := hide (F233.out.setLoc G204.out 2 (.string ⟨a227.pred.toArray⟩))
          clear H233 F233
          have V0_227_232_233_234_235 := hide (Strs.keep V0_227_232_233_234.out (Kp.setLoc (T := [9]) (i := 3) (v := .slice p0_227 a227.args.length r0_227) LB204_205_207_212_217_222_227_232_233_234.out (by decide)) (by decide))
          clear V0_227_232_233_234
          have LB204_205_207_212_217_222_227_232_233_234_235 := hide (loc_set (i := 3) (v := .slice p0_227 a227.args.length r0_227) LB204_205_207_212_217_222_227_232_233_234.out)
          have LB207_212_217_222_227_232_233_234_235 := hide (loc_other (p := ⟨w.heap.size, 3, none⟩) (v := .slice p0_227 a227.args.length r0_227) LB207_212_217_222_227_232_233_234.out (NE_1_0.out))
          clear LB204_205_207_212_217_222_227_232_233_234 LB207_212_217_222_227_232_233_234
          have H235 := hide (H234.out.setLoc Q204.out 3 (.slice p0_227 a227.args.length r0_227))
          have F235 := hide (F234.out.setLoc G204.out 3 (.slice p0_227 a227.args.length r0_227))
          clear H234 F234
          have V0_227_232_233_234_235_236 := hide (Strs.keep V0_227_232_233_234_235.out (Kp.setLoc (T := [9]) (i := 4) (v := .bool a227.hasValue) LB204_205_207_212_217_222_227_232_233_234_235.out (by decide)) (by decide))
          clear V0_227_232_233_234_235
          have LB204_205_207_212_217_222_227_232_233_234_235_236 := hide (loc_set (i := 4) (v := .bool a227.hasValue) LB204_205_207_212_217_222_227_232_233_234_235.out)
          have LB207_212_217_222_227_232_233_234_235_236 := hide (loc_other (p := ⟨w.heap.size, 4, none⟩) (v := .bool a227.hasValue) LB207_212_217_222_227_232_233_234_235.out (NE_1_0.out))
          clear LB204_205_207_212_217_222_227_232_233_234_235 LB207_212_217_222_227_232_233_234_235
          have H236 := hide (H235.out.setLoc Q204.out 4 (.bool a227.hasValue))
          have F236 := hide (F235.out.setLoc G204.out 4 (.bool a227.hasValue))
          clear H235 F235
          have V0_227_232_233_234_235_236_237 := hide (Strs.keep V0_227_232_233_234_235_236.out (Kp.setLoc (T := [9]) (i := 5) (v := .int .i64 a227.value) LB204_205_207_212_217_222_227_232_233_234_235_236.out (by decide)) (by decide))
          clear V0_227_232_233_234_235_236
          have LB204_205_207_212_217_222_227_232_233_234_235_236_237 := hide (loc_set (i := 5) (v := .int .i64 a227.value) LB204_205_207_212_217_222_227_232_233_234_235_236.out)
          have LB207_212_217_222_227_232_233_234_235_236_237 := hide (loc_other (p := ⟨w.heap.size, 5, none⟩) (v := .int .i64 a227.value) LB207_212_217_222_227_232_233_234_235_236.out (NE_1_0.out))
          clear LB204_205_207_212_217_222_227_232_233_234_235_236 LB207_212_217_222_227_232_233_234_235_236
          have H237 := hide (H236.out.setLoc Q204.out 5 (.int .i64 a227.value))
          have F237 := hide (F236.out.setLoc G204.out 5 (.int .i64 a227.value))
          clear H236 F236
          have V0_227_232_233_234_235_236_237_238 := hide (Strs.keep V0_227_232_233_234_235_236_237.out (Kp.setLoc (T := [9]) (i := 6) (v := .slice none 0 0) LB204_205_207_212_217_222_227_232_233_234_235_236_237.out (by decide)) (by decide))
          clear V0_227_232_233_234_235_236_237
          have LB204_205_207_212_217_222_227_232_233_234_235_236_237_238 := hide (loc_set (i := 6) (v := .slice none 0 0) LB204_205_207_212_217_222_227_232_233_234_235_236_237.out)
          have LB207_212_217_222_227_232_233_234_235_236_237_238 := hide (loc_other (p := ⟨w.heap.size, 6, none⟩) (v := .slice none 0 0) LB207_212_217_222_227_232_233_234_235_236_237.out (NE_1_0.out))
          clear LB204_205_207_212_217_222_227_232_233_234_235_236_237 LB207_212_217_222_227_232_233_234_235_236_237
          have H238 := hide (H237.out.setLoc Q204.out 6 (.slice none 0 0))
          have F238 := hide (F237.out.setLoc G204.out 6 (.slice none 0 0))
          clear H237 F237
          have V0_227_232_233_234_235_236_237_238_239 := hide (Strs.keep V0_227_232_233_234_235_236_237_238.out (Kp.setLoc (T := [9]) (i := 7) (v := .int .i64 0) LB204_205_207_212_217_222_227_232_233_234_235_236_237_238.out (by decide)) (by decide))
          clear V0_227_232_233_234_235_236_237_238
          have LB204_205_207_212_217_222_227_232_233_234_235_236_237_238_239 := hide (loc_set (i := 7) (v := .int .i64 0) LB204_205_207_212_217_222_227_232_233_234_235_236_237_238.out)
          have LB207_212_217_222_227_232_233_234_235_236_237_238_239 := hide (loc_other (p := ⟨w.heap.size, 7, none⟩) (v := .int .i64 0) LB207_212_217_222_227_232_233_234_235_236_237_238.out (NE_1_0.out))
          clear LB204_205_207_212_217_222_227_232_233_234_235_236_237_238 LB207_212_217_222_227_232_233_234_235_236_237_238
          have H239 := hide (H238.out.setLoc Q204.out 7 (.int .i64 0))
          have F239 := hide (F238.out.setLoc G204.out 7 (.int .i64 0))
          clear H238 F238
          have V0_227_232_233_234_235_236_237_238_239_240 := hide (Strs.keep V0_227_232_233_234_235_236_237_238_239.out (Kp.setLoc (T := [9]) (i := 8) (v := .slice none 0 0) LB204_205_207_212_217_222_227_232_233_234_235_236_237_238_239.out (by decide)) (by decide))
          clear V0_227_232_233_234_235_236_237_238_239
          have LB204_205_207_212_217_222_227_232_233_234_235_236_237_238_239_240 := hide (loc_set (i := 8) (v := .slice none 0 0) LB204_205_207_212_217_222_227_232_233_234_235_236_237_238_239.out)
          have LB207_212_217_222_227_232_233_234_235_236_237_238_239_240 := hide (loc_other (p := ⟨w.heap.size, 8, none⟩) (v := .slice none 0 0) LB207_212_217_222_227_232_233_234_235_236_237_238_239.out (NE_1_0.out))
          clear LB204_205_207_212_217_222_227_232_233_234_235_236_237_238_239 LB207_212_217_222_227_232_233_234_235_236_237_238_239
          have H240 := hide (H239.out.setLoc Q204.out 8 (.slice none 0 0))
          have F240 := hide (F239.out.setLoc G204.out 8 (.slice none 0 0))
          clear H239 F239
          have V0_227_232_233_234_235_236_237_238_239_240_241 := hide (Strs.keep V0_227_232_233_234_235_236_237_238_239_240.out (Kp.setLoc (T := [9]) (i := 9) (v := .string ⟨#[]⟩) LB204_205_207_212_217_222_227_232_233_234_235_236_237_238_239_240.out (by decide)) (by decide))
          clear V0_227_232_233_234_235_236_237_238_239_240
          have LB204_205_207_212_217_222_227_232_233_234_235_236_237_238_239_240_241 := hide (loc_set (i := 9) (v := .string ⟨#[]⟩) LB204_205_207_212_217_222_227_232_233_234_235_236_237_238_239_240.out)
          have LB207_212_217_222_227_232_233_234_235_236_237_238_239_240_241 := hide (loc_other (p := ⟨w.heap.size, 9, none⟩) (v := .string ⟨#[]⟩) LB207_212_217_222_227_232_233_234_235_236_237_238_239_240.out (NE_1_0.out))
          clear LB204_205_207_212_217_222_227_232_233_234_235_236_237_238_239_240 LB207_212_217_222_227_232_233_234_235_236_237_238_239_240
          have H241 := hide (H240.out.setLoc Q204.out 9 (.string ⟨#[]⟩))
          have F241 := hide (F240.out.setLoc G204.out 9 (.string ⟨#[]⟩))
          clear H240 F240
          have V0_227_232_233_234_235_236_237_238_239_240_241_242 := hide (Strs.keep V0_227_232_233_234_235_236_237_238_239_240_241.out (Kp.setLoc (T := [9]) (i := 10) (v := .string ⟨#[]⟩) LB204_205_207_212_217_222_227_232_233_234_235_236_237_238_239_240_241.out (by decide)) (by decide))
          clear V0_227_232_233_234_235_236_237_238_239_240_241
          have LB204_205_207_212_217_222_227_232_233_234_235_236_237_238_239_240_241_242 := hide (loc_set (i := 10) (v := .string ⟨#[]⟩) LB204_205_207_212_217_222_227_232_233_234_235_236_237_238_239_240_241.out)
          have LB207_212_217_222_227_232_233_234_235_236_237_238_239_240_241_242 := hide (loc_other (p := ⟨w.heap.size, 10, none⟩) (v := .string ⟨#[]⟩) LB207_212_217_222_227_232_233_234_235_236_237_238_239_240_241.out (NE_1_0.out))
          clear LB204_205_207_212_217_222_227_232_233_234_235_236_237_238_239_240_241 LB207_212_217_222_227_232_233_234_235_236_237_238_239_240_241
          have H242 := hide (H241.out.setLoc Q204.out 10 (.string ⟨#[]⟩))
          have F242 := hide (F241.out.setLoc G204.out 10 (.string ⟨#[]⟩))
          clear H241 F241
          exact .of_ok HO227.out (⟨_, _, _, rfl, V0_227_232_233_234_235_236_237_238_239_240_241_242.out, Rows.nil _ _ _ _ _, Rows.nil _ _ _ _ _⟩) H242.out F242.out
    · have HO := hide (ite_f ho (by simp [hk1, hk2]))
      have ho2 := ask_go HO.out
      have CN := hide (markCall L s.n (placeAt L N s.n) [123])
      cases hm2 : markAt (kt L) s.n [123] with
      | true =>
        rw [hm2] at CN
        clear HO
        have HO := hide (ite_t ho2 hm2)
        have hk1' : ¬ ((kd (kt L) s.n : Nat) : Int) = 1 := by omega
        have hk2' : ¬ ((kd (kt L) s.n : Nat) : Int) = 2 := by omega
        clear ho ho2 hk1 hk2 hm2
        go_enter Tryz.func132, Tryz.ntmps132
        have B243 : Below _ _ ((w).alloc (.cells #[.int .i64 0, .bool false, .string ⟨#[]⟩, .slice none 0 0, .bool false, .int .i64 0, .slice none 0 0, .int .i64 0, .slice none 0 0, .string ⟨#[]⟩, .string ⟨#[]⟩] 107)) := (Below.refl _ _).alloc (Nat.le_refl _) _
        have Q243 : Hid (R < w.heap.size) := hide H.out.lt
        have G243 : Hid (w.heap.size ≤ w.heap.size) := hide F.out.size
        have LB243 := hide (heap_alloc_new (w) (.cells #[.int .i64 0, .bool false, .string ⟨#[]⟩, .slice none 0 0, .bool false, .int .i64 0, .slice none 0 0, .int .i64 0, .slice none 0 0, .string ⟨#[]⟩, .string ⟨#[]⟩] 107))
        have H243 := hide (H.out.below B243)
        have F243 := hide (F.out.trans (Fq.of_below B243))
        clear H F B243
        go_wp2_with fail
        refine (CA0.out _ H243.out).mono ?_
        rintro _ w244 ⟨rfl, hb⟩
        have LB243_244 := hide ((hb.block _ (loc_lt LB243.out)).trans LB243.out)
        clear LB243
        have H244 := hide (H243.out.below hb)
        have F244 := hide (F243.out.trans (Fq.of_below hb))
        clear hb H243 F243
        obtain ⟨z245_0, z245_1, z245_2, z245_3, z245_4, z245_5, z245_6, z245_7, z245_8, z245_9, z245_10, y245⟩ := row11 LB243_244.out
        have B246 : Below _ _ ((w244).alloc (.cells #[.int .i64 (kd (kt L) s.n), .string ⟨(tx (kt L) s.n).toArray⟩, .int .i64 (placeAt L N s.n)] 50)) := (Below.refl _ _).alloc (Nat.le_refl _) _
        have Q246 : Hid (R < w244.heap.size) := hide H244.out.lt
        have G246 : Hid (w.heap.size ≤ w244.heap.size) := hide F244.out.size
        have NE_0_1 : Hid (w.heap.size ≠ w244.heap.size) := hide (Nat.ne_of_lt (loc_lt LB243_244.out))
        have NE_1_0 : Hid (w244.heap.size ≠ w.heap.size) := hide (Nat.ne_of_gt (loc_lt LB243_244.out))
        have LB243_244_246 := hide ((B246.block _ (loc_lt LB243_244.out)).trans LB243_244.out)
        clear LB243_244
        have LB246 := hide (heap_alloc_new (w244) (.cells #[.int .i64 (kd (kt L) s.n), .string ⟨(tx (kt L) s.n).toArray⟩, .int .i64 (placeAt L N s.n)] 50))
        have H246 := hide (H244.out.below B246)
        have F246 := hide (F244.out.trans (Fq.of_below B246))
        clear H244 F244 B246
        obtain ⟨z247_0, z247_1, z247_2, z247_3, z247_4, z247_5, z247_6, z247_7, z247_8, z247_9, z247_10, y247⟩ := row11 LB243_244_246.out
        obtain ⟨z248_0, z248_1, z248_2, y248⟩ := row3 LB246.out
        have x249 := NE_0_1.out
        have x250 := NE_1_0.out
        go_wp2_with fail
        refine (CN.out _).mono ?_
        rintro _ w251 ⟨rfl, hb⟩
        clear z245_0 z245_1 z245_2 z245_3 z245_4 z245_5 z245_6 z245_7 z245_8 z245_9 z245_10 y245 z247_0 z247_1 z247_2 z247_3 z247_4 z247_5 z247_6 z247_7 z247_8 z247_9 z247_10 y247 z248_0 z248_1 z248_2 y248 x249 x250
        have LB243_244_246_251 := hide ((hb.block _ (loc_lt LB243_244_246.out)).trans LB243_244_246.out)
        clear LB243_244_246
        have LB246_251 := hide ((hb.block _ (loc_lt LB246.out)).trans LB246.out)
        clear LB246
        have H251 := hide (H246.out.below hb)
        have F251 := hide (F246.out.trans (Fq.of_below hb))
        clear hb H246 F246
        obtain ⟨z252_0, z252_1, z252_2, z252_3, z252_4, z252_5, z252_6, z252_7, z252_8, z252_9, z252_10, y252⟩ := row11 LB243_244_246_251.out
        obtain ⟨z253_0, z253_1, z253_2, y253⟩ := row3 LB246_251.out
        have x254 := NE_0_1.out
        have x255 := NE_1_0.out
        have C256 := hide (guard_any R L N s st _ H251.out _ rfl)
        go_wp2_with fail
        refine C256.out.mono ?_
        intro e w256 he
        rcases he.split with ⟨a256, s256, v256, ho, rfl, hv, hR, hF⟩ | ⟨c, m, ho, rfl, hF⟩
        rotate_left 1
        · exact on_panic rfl (.of_bad (bind_no HO.out ho) (F251.out.trans hF))
        clear z252_0 z252_1 z252_2 z252_3 z252_4 z252_5 z252_6 z252_7 z252_8 z252_9 z252_10 y252 z253_0 z253_1 z253_2 y253 x254 x255
        have HO256 := hide (bind_go HO.out ho)
        have LB243_244_246_251_256 := hide (hF.loc LB243_244_246_251.out (Nat.ne_of_gt Q243.out))
        clear LB243_244_246_251
        have LB246_251_256 := hide (hF.loc LB246_251.out (Nat.ne_of_gt Q246.out))
        clear LB246_251
        have H256 := hide hR
        have F256 := hide (F251.out.trans hF)
        obtain ⟨lv256, rv256, rfl, hv0_256, hv1_256⟩ := hv
        obtain ⟨p0_256, r0_256, rfl⟩ := rows_form hv0_256
        have V0_256 := hide (Terms.mono hv0_256 fun g hg => Nat.le_trans F251.out.size hg)
        clear hv0_256
        obtain ⟨p1_256, r1_256, rfl⟩ := rows_form hv1_256
        have V1_256 := hide (Terms.mono hv1_256 fun g hg => Nat.le_trans F251.out.size hg)
        clear hv1_256
        clear he ho hR hF C256 H251 F251 HO
        obtain ⟨z257_0, z257_1, z257_2, z257_3, z257_4, z257_5, z257_6, z257_7, z257_8, z257_9, z257_10, y257⟩ := row11 LB243_244_246_251_256.out
        obtain ⟨z258_0, z258_1, z258_2, y258⟩ := row3 LB246_251_256.out
        have x259 := NE_0_1.out
        have x260 := NE_1_0.out
        go_wp2_with fail
        have hz := (And.intro z257_0 (And.intro z257_1 (And.intro z257_2 (And.intro z257_3 (And.intro z257_4 (And.intro z257_5 (And.intro z257_6 (And.intro z257_7 (And.intro z257_8 (And.intro z257_9 (And.intro z257_10 (And.intro y257 (And.intro z258_0 (And.intro z258_1 (And.intro z258_2 (And.intro y258 (And.intro x259 x260)))))))))))))))))
        simp [bodyPost, results, Tryz.results132, go_sem, hz]
        have V0_256_261 := hide (Terms.keep V0_256.out (Kp.setLoc (T := [9, 109]) (i := 0) (v := .int .i64 2) LB243_244_246_251_256.out (by decide)) (by decide) (by decide))
        clear V0_256
        have V1_256_261 := hide (Terms.keep V1_256.out (Kp.setLoc (T := [9, 109]) (i := 0) (v := .int .i64 2) LB243_244_246_251_256.out (by decide)) (by decide) (by decide))
        clear V1_256
        have LB243_244_246_251_256_261 := hide (loc_set (i := 0) (v := .int .i64 2) LB243_244_246_251_256.out)
        have LB246_251_256_261 := hide (loc_other (p := ⟨w.heap.size, 0, none⟩) (v := .int .i64 2) LB246_251_256.out (NE_1_0.out))
        clear LB243_244_246_251_256 LB246_251_256
        have H261 := hide (H256.out.setLoc Q243.out 0 (.int .i64 2))
        have F261 := hide (F256.out.setLoc G243.out 0 (.int .i64 2))
        clear H256 F256
        have V0_256_261_262 := hide (Terms.keep V0_256_261.out (Kp.setLoc (T := [9, 109]) (i := 1) (v := .bool false) LB243_244_246_251_256_261.out (by decide)) (by decide) (by decide))
        clear V0_256_261
        have V1_256_261_262 := hide (Terms.keep V1_256_261.out (Kp.setLoc (T := [9, 109]) (i := 1) (v := .bool false) LB243_244_246_251_256_261.out (by decide)) (by decide) (by decide))
        clear V1_256_261
        have LB243_244_246_251_256_261_262 := hide (loc_set (i := 1) (v := .bool false) LB243_244_246_251_256_261.out)
        have LB246_251_256_261_262 := hide (loc_other (p := ⟨w.heap.size, 1, none⟩) (v := .bool false) LB246_251_256_261.out (NE_1_0.out))
        clear LB243_244_246_251_256_261 LB246_251_256_261
        have H262 := hide (H261.out.setLoc Q243.out 1 (.bool false))
        have F262 := hide (F261.out.setLoc G243.out 1 (.bool false))
        clear H261 F261
        have V0_256_261_262_263 := hide (Terms.keep V0_256_261_262.out (Kp.setLoc (T := [9, 109]) (i := 2) (v := .string ⟨#[]⟩) LB243_244_246_251_256_261_262.out (by decide)) (by decide) (by decide))
        clear V0_256_261_262
        have V1_256_261_262_263 := hide (Terms.keep V1_256_261_262.out (Kp.setLoc (T := [9, 109]) (i := 2) (v := .string ⟨#[]⟩) LB243_244_246_251_256_261_262.out (by decide)) (by decide) (by decide))
        clear V1_256_261_262
        have LB243_244_246_251_256_261_262_263 := hide (loc_set (i := 2) (v := .string ⟨#[]⟩) LB243_244_246_251_256_261_262.out)
        have LB246_251_256_261_262_263 := hide (loc_other (p := ⟨w.heap.size, 2, none⟩) (v := .string ⟨#[]⟩) LB246_251_256_261_262.out (NE_1_0.out))
        clear LB243_244_246_251_256_261_262 LB246_251_256_261_262
        have H263 := hide (H262.out.setLoc Q243.out 2 (.string ⟨#[]⟩))
        have F263 := hide (F262.out.setLoc G243.out 2 (.string ⟨#[]⟩))
        clear H262 F262
        have V0_256_261_262_263_264 := hide (Terms.keep V0_256_261_262_263.out (Kp.setLoc (T := [9, 109]) (i := 3) (v := .slice none 0 0) LB243_244_246_251_256_261_262_263.out (by decide)) (by decide) (by decide))
        clear V0_256_261_262_263
        have V1_256_261_262_263_264 := hide (Terms.keep V1_256_261_262_263.out (Kp.setLoc (T := [9, 109]) (i := 3) (v := .slice none 0 0) LB243_244_246_251_256_261_262_263.out (by decide)) (by decide) (by decide))
        clear V1_256_261_262_263
        have LB243_244_246_251_256_261_262_263_264 := hide (loc_set (i := 3) (v := .slice none 0 0) LB243_244_246_251_256_261_262_263.out)
        have LB246_251_256_261_262_263_264 := hide (loc_other (p := ⟨w.heap.size, 3, none⟩) (v := .slice none 0 0) LB246_251_256_261_262_263.out (NE_1_0.out))
        clear LB243_244_246_251_256_261_262_263 LB246_251_256_261_262_263
        have H264 := hide (H263.out.setLoc Q243.out 3 (.slice none 0 0))
        have F264 := hide (F263.out.setLoc G243.out 3 (.slice none 0 0))
        clear H263 F263
        have V0_256_261_262_263_264_265 := hide (Terms.keep V0_256_261_262_263_264.out (Kp.setLoc (T := [9, 109]) (i := 4) (v := .bool false) LB243_244_246_251_256_261_262_263_264.out (by decide)) (by decide) (by decide))
        clear V0_256_261_262_263_264
        have V1_256_261_262_263_264_265 := hide (Terms.keep V1_256_261_262_263_264.out (Kp.setLoc (T := [9, 109]) (i := 4) (v := .bool false) LB243_244_246_251_256_261_262_263_264.out (by decide)) (by decide) (by decide))
        clear V1_256_261_262_263_264
        have LB243_244_246_251_256_261_262_263_264_265 := hide (loc_set (i := 4) (v := .bool false) LB243_244_246_251_256_261_262_263_264.out)
        have LB246_251_256_261_262_263_264_265 := hide (loc_other (p := ⟨w.heap.size, 4, none⟩) (v := .bool false) LB246_251_256_261_262_263_264.out (NE_1_0.out))
        clear LB243_244_246_251_256_261_262_263_264 LB246_251_256_261_262_263_264
        have H265 := hide (H264.out.setLoc Q243.out 4 (.bool false))
        have F265 := hide (F264.out.setLoc G243.out 4 (.bool false))
        clear H264 F264
        have V0_256_261_262_263_264_265_266 := hide (Terms.keep V0_256_261_262_263_264_265.out (Kp.setLoc (T := [9, 109]) (i := 5) (v := .int .i64 0) LB243_244_246_251_256_261_262_263_264_265.out (by decide)) (by decide) (by decide))
        clear V0_256_261_262_263_264_265
        have V1_256_261_262_263_264_265_266 := hide (Terms.keep V1_256_261_262_263_264_265.out (Kp.setLoc (T := [9, 109]) (i := 5) (v := .int .i64 0) LB243_244_246_251_256_261_262_263_264_265.out (by decide)) (by decide) (by decide))
        clear V1_256_261_262_263_264_265
        have LB243_244_246_251_256_261_262_263_264_265_266 := hide (loc_set (i := 5) (v := .int .i64 0) LB243_244_246_251_256_261_262_263_264_265.out)
        have LB246_251_256_261_262_263_264_265_266 := hide (loc_other (p := ⟨w.heap.size, 5, none⟩) (v := .int .i64 0) LB246_251_256_261_262_263_264_265.out (NE_1_0.out))
        clear LB243_244_246_251_256_261_262_263_264_265 LB246_251_256_261_262_263_264_265
        have H266 := hide (H265.out.setLoc Q243.out 5 (.int .i64 0))
        have F266 := hide (F265.out.setLoc G243.out 5 (.int .i64 0))
        clear H265 F265
        have V0_256_261_262_263_264_265_266_267 := hide (Terms.keep V0_256_261_262_263_264_265_266.out (Kp.setLoc (T := [9, 109]) (i := 6) (v := .slice p0_256 a256.left.length r0_256) LB243_244_246_251_256_261_262_263_264_265_266.out (by decide)) (by decide) (by decide))
        clear V0_256_261_262_263_264_265_266
        have V1_256_261_262_263_264_265_266_267 := hide (Terms.keep V1_256_261_262_263_264_265_266.out (Kp.setLoc (T := [9, 109]) (i := 6) (v := .slice p0_256 a256.left.length r0_256) LB243_244_246_251_256_261_262_263_264_265_266.out (by decide)) (by decide) (by decide))
        clear V1_256_261_262_263_264_265_266
        have LB243_244_246_251_256_261_262_263_264_265_266_267 := hide (loc_set (i := 6) (v := .slice p0_256 a256.left.length r0_256) LB243_244_246_251_256_261_262_263_264_265_266.out)
        have LB246_251_256_261_262_263_264_265_266_267 := hide (loc_other (p := ⟨w.heap.size, 6, none⟩) (v := .slice p0_256 a256.left.length r0_256) LB246_251_256_261_262_263_264_265_266.out (NE_1_0.out))
        clear LB243_244_246_251_256_261_262_263_264_265_266 LB246_251_256_261_262_263_264_265_266
        have H267 := hide (H266.out.setLoc Q243.out 6 (.slice p0_256 a256.left.length r0_256))
        have F267 := hide (F266.out.setLoc G243.out 6 (.slice p0_256 a256.left.length r0_256))
        clear H266 F266
        have V0_256_261_262_263_264_265_266_267_268 := hide (Terms.keep V0_256_261_262_263_264_265_266_267.out (Kp.setLoc (T := [9, 109]) (i := 7) (v := .int .i64 a256.op) LB243_244_246_251_256_261_262_263_264_265_266_267.out (by decide)) (by decide) (by decide))
        clear V0_256_261_262_263_264_265_266_267
        have V1_256_261_262_263_264_265_266_267_268 := hide (Terms.keep V1_256_261_262_263_264_265_266_267.out (Kp.setLoc (T := [9, 109]) (i := 7) (v := .int .i64 a256.op) LB243_244_246_251_256_261_262_263_264_265_266_267.out (by decide)) (by decide) (by decide))
        clear V1_256_261_262_263_264_265_266_267
        have LB243_244_246_251_256_261_262_263_264_265_266_267_268 := hide (loc_set (i := 7) (v := .int .i64 a256.op) LB243_244_246_251_256_261_262_263_264_265_266_267.out)
        have LB246_251_256_261_262_263_264_265_266_267_268 := hide (loc_other (p := ⟨w.heap.size, 7, none⟩) (v := .int .i64 a256.op) LB246_251_256_261_262_263_264_265_266_267.out (NE_1_0.out))
        clear LB243_244_246_251_256_261_262_263_264_265_266_267 LB246_251_256_261_262_263_264_265_266_267
        have H268 := hide (H267.out.setLoc Q243.out 7 (.int .i64 a256.op))
        have F268 := hide (F267.out.setLoc G243.out 7 (.int .i64 a256.op))
        clear H267 F267
        have V0_256_261_262_263_264_265_266_267_268_269 := hide (Terms.keep V0_256_261_262_263_264_265_266_267_268.out (Kp.setLoc (T := [9, 109]) (i := 8) (v := .slice p1_256 a256.right.length r1_256) LB243_244_246_251_256_261_262_263_264_265_266_267_268.out (by decide)) (by decide) (by decide))
        clear V0_256_261_262_263_264_265_266_267_268
        have V1_256_261_262_263_264_265_266_267_268_269 := hide (Terms.keep V1_256_261_262_263_264_265_266_267_268.out (Kp.setLoc (T := [9, 109]) (i := 8) (v := .slice p1_256 a256.right.length r1_256) LB243_244_246_251_256_261_262_263_264_265_266_267_268.out (by decide)) (by decide) (by decide))
        clear V1_256_261_262_263_264_265_266_267_268
        have LB243_244_246_251_256_261_262_263_264_265_266_267_268_269 := hide (loc_set (i := 8) (v := .slice p1_256 a256.right.length r1_256) LB243_244_246_251_256_261_262_263_264_265_266_267_268.out)
        have LB246_251_256_261_262_263_264_265_266_267_268_269 := hide (loc_other (p := ⟨w.heap.size, 8, none⟩) (v := .slice p1_256 a256.right.length r1_256) LB246_251_256_261_262_263_264_265_266_267_268.out (NE_1_0.out))
        clear LB243_244_246_251_256_261_262_263_264_265_266_267_268 LB246_251_256_261_262_263_264_265_266_267_268
        have H269 := hide (H268.out.setLoc Q243.out 8 (.slice p1_256 a256.right.length r1_256))
        have F269 := hide (F268.out.setLoc G243.out 8 (.slice p1_256 a256.right.length r1_256))
        clear H268 F268
        have V0_256_261_262_263_264_265_266_267_268_269_270 := hide (Terms.keep V0_256_261_262_263_264_265_266_267_268_269.out (Kp.setLoc (T := [9, 109]) (i := 9) (v := .string ⟨#[]⟩) LB243_244_246_251_256_261_262_263_264_265_266_267_268_269.out (by decide)) (by decide) (by decide))
        clear V0_256_261_262_263_264_265_266_267_268_269
        have V1_256_261_262_263_264_265_266_267_268_269_270 := hide (Terms.keep V1_256_261_262_263_264_265_266_267_268_269.out (Kp.setLoc (T := [9, 109]) (i := 9) (v := .string ⟨#[]⟩) LB243_244_246_251_256_261_262_263_264_265_266_267_268_269.out (by decide)) (by decide) (by decide))
        clear V1_256_261_262_263_264_265_266_267_268_269
        have LB243_244_246_251_256_261_262_263_264_265_266_267_268_269_270 := hide (loc_set (i := 9) (v := .string ⟨#[]⟩) LB243_244_246_251_256_261_262_263_264_265_266_267_268_269.out)
        have LB246_251_256_261_262_263_264_265_266_267_268_269_270 := hide (loc_other (p := ⟨w.heap.size, 9, none⟩) (v := .string ⟨#[]⟩) LB246_251_256_261_262_263_264_265_266_267_268_269.out (NE_1_0.out))
        clear LB243_244_246_251_256_261_262_263_264_265_266_267_268_269 LB246_251_256_261_262_263_264_265_266_267_268_269
        have H270 := hide (H269.out.setLoc Q243.out 9 (.string ⟨#[]⟩))
        have F270 := hide (F269.out.setLoc G243.out 9 (.string ⟨#[]⟩))
        clear H269 F269
        have V0_256_261_262_263_264_265_266_267_268_269_270_271 := hide (Terms.keep V0_256_261_262_263_264_265_266_267_268_269_270.out (Kp.setLoc (T := [9, 109]) (i := 10) (v := .string ⟨#[]⟩) LB243_244_246_251_256_261_262_263_264_265_266_267_268_269_270.out (by decide)) (by decide) (by decide))
        clear V0_256_261_262_263_264_265_266_267_268_269_270
        have V1_256_261_262_263_264_265_266_267_268_269_270_271 := hide (Terms.keep V1_256_261_262_263_264_265_266_267_268_269_270.out (Kp.setLoc (T := [9, 109]) (i := 10) (v := .string ⟨#[]⟩) LB243_244_246_251_256_261_262_263_264_265_266_267_268_269_270.out (by decide)) (by decide) (by decide))
        clear V1_256_261_262_263_264_265_266_267_268_269_270
        have LB243_244_246_251_256_261_262_263_264_265_266_267_268_269_270_271 := hide (loc_set (i := 10) (v := .string ⟨#[]⟩) LB243_244_246_251_256_261_262_263_264_265_266_267_268_269_270.out)
        have LB246_251_256_261_262_263_264_265_266_267_268_269_270_271 := hide (loc_other (p := ⟨w.heap.size, 10, none⟩) (v := .string ⟨#[]⟩) LB246_251_256_261_262_263_264_265_266_267_268_269_270.out (NE_1_0.out))
        clear LB243_244_246_251_256_261_262_263_264_265_266_267_268_269_270 LB246_251_256_261_262_263_264_265_266_267_268_269_270
        have H271 := hide (H270.out.setLoc Q243.out 10 (.string ⟨#[]⟩))
        have F271 := hide (F270.out.setLoc G243.out 10 (.string ⟨#[]⟩))
        clear H270 F270
        exact .of_ok HO256.out (⟨_, _, _, rfl, Rows.nil _ _ _ _ _, V0_256_261_262_263_264_265_266_267_268_269_270_271.out, V1_256_261_262_263_264_265_266_267_268_269_270_271.out⟩) H271.out F271.out
      | false =>
        rw [hm2] at CN
        clear HO
        have HO := hide (ite_f ho2 hm2)
        have hk1' : ¬ ((kd (kt L) s.n : Nat) : Int) = 1 := by omega
        have hk2' : ¬ ((kd (kt L) s.n : Nat) : Int) = 2 := by omega
        clear ho ho2 hk1 hk2 hm2
        go_enter Tryz.func132, Tryz.ntmps132
        have B272 : Below _ _ ((w).alloc (.cells #[.int .i64 0, .bool false, .string ⟨#[]⟩, .slice none 0 0, .bool false, .int .i64 0, .slice none 0 0, .int .i64 0, .slice none 0 0, .string ⟨#[]⟩, .string ⟨#[]⟩] 107)) := (Below.refl _ _).alloc (Nat.le_refl _) _
        have Q272 : Hid (R < w.heap.size) := hide H.out.lt
        have G272 : Hid (w.heap.size ≤ w.heap.size) := hide F.out.size
        have LB272 := hide (heap_alloc_new (w) (.cells #[.int .i64 0, .bool false, .string ⟨#[]⟩, .slice none 0 0, .bool false, .int .i64 0, .slice none 0 0, .int .i64 0, .slice none 0 0, .string ⟨#[]⟩, .string ⟨#[]⟩] 107))
        have H272 := hide (H.out.below B272)
        have F272 := hide (F.out.trans (Fq.of_below B272))
        clear H F B272
        go_wp2_with fail
        refine (CA0.out _ H272.out).mono ?_
        rintro _ w273 ⟨rfl, hb⟩
        have LB272_273 := hide ((hb.block _ (loc_lt LB272.out)).trans LB272.out)
        clear LB272
        have H273 := hide (H272.out.below hb)
        have F273 := hide (F272.out.trans (Fq.of_below hb))
        clear hb H272 F272
        obtain ⟨z274_0, z274_1, z274_2, z274_3, z274_4, z274_5, z274_6, z274_7, z274_8, z274_9, z274_10, y274⟩ := row11 LB272_273.out
        have B275 : Below _ _ ((w273).alloc (.cells #[.int .i64 (kd (kt L) s.n), .string ⟨(tx (kt L) s.n).toArray⟩, .int .i64 (placeAt L N s.n)] 50)) := (Below.refl _ _).alloc (Nat.le_refl _) _
        have Q275 : Hid (R < w273.heap.size) := hide H273.out.lt
        have G275 : Hid (w.heap.size ≤ w273.heap.size) := hide F273.out.size
        have NE_0_1 : Hid (w.heap.size ≠ w273.heap.size) := hide (Nat.ne_of_lt (loc_lt LB272_273.out))
        have NE_1_0 : Hid (w273.heap.size ≠ w.heap.size) := hide (Nat.ne_of_gt (loc_lt LB272_273.out))
        have LB272_273_275 := hide ((B275.block _ (loc_lt LB272_273.out)).trans LB272_273.out)
        clear LB272_273
        have LB275 := hide (heap_alloc_new (w273) (.cells #[.int .i64 (kd (kt L) s.n), .string ⟨(tx (kt L) s.n).toArray⟩, .int .i64 (placeAt L N s.n)] 50))
        have H275 := hide (H273.out.below B275)
        have F275 := hide (F273.out.trans (Fq.of_below B275))
        clear H273 F273 B275
        obtain ⟨z276_0, z276_1, z276_2, z276_3, z276_4, z276_5, z276_6, z276_7, z276_8, z276_9, z276_10, y276⟩ := row11 LB272_273_275.out
        obtain ⟨z277_0, z277_1, z277_2, y277⟩ := row3 LB275.out
        have x278 := NE_0_1.out
        have x279 := NE_1_0.out
        go_wp2_with fail
        refine (CN.out _).mono ?_
        rintro _ w280 ⟨rfl, hb⟩
        clear z274_0 z274_1 z274_2 z274_3 z274_4 z274_5 z274_6 z274_7 z274_8 z274_9 z274_10 y274 z276_0 z276_1 z276_2 z276_3 z276_4 z276_5 z276_6 z276_7 z276_8 z276_9 z276_10 y276 z277_0 z277_1 z277_2 y277 x278 x279
        have LB272_273_275_280 := hide ((hb.block _ (loc_lt LB272_273_275.out)).trans LB272_273_275.out)
        clear LB272_273_275
        have LB275_280 := hide ((hb.block _ (loc_lt LB275.out)).trans LB275.out)
        clear LB275
        have H280 := hide (H275.out.below hb)
        have F280 := hide (F275.out.trans (Fq.of_below hb))
        clear hb H275 F275
        obtain ⟨z281_0, z281_1, z281_2, z281_3, z281_4, z281_5, z281_6, z281_7, z281_8, z281_9, z281_10, y281⟩ := row11 LB272_273_275_280.out
        obtain ⟨z282_0, z282_1, z282_2, y282⟩ := row3 LB275_280.out
        have x283 := NE_0_1.out
        have x284 := NE_1_0.out
        have C285 := hide (literal_any R L N s st _ H280.out _ rfl)
        go_wp2_with fail
        refine C285.out.mono ?_
        intro e w285 he
        rcases he.split with ⟨a285, s285, v285, ho, rfl, hv, hR, hF⟩ | ⟨c, m, ho, rfl, hF⟩
        rotate_left 1
        · exact on_panic rfl (.of_bad (bind_no HO.out ho) (F280.out.trans hF))
        clear z281_0 z281_1 z281_2 z281_3 z281_4 z281_5 z281_6 z281_7 z281_8 z281_9 z281_10 y281 z282_0 z282_1 z282_2 y282 x283 x284
        have HO285 := hide (bind_go HO.out ho)
        have LB272_273_275_280_285 := hide (hF.loc LB272_273_275_280.out (Nat.ne_of_gt Q272.out))
        clear LB272_273_275_280
        have LB275_280_285 := hide (hF.loc LB275_280.out (Nat.ne_of_gt Q275.out))
        clear LB275_280
        have H285 := hide hR
        have F285 := hide (F280.out.trans hF)
        obtain ⟨av285, rfl, hv0_285⟩ := hv
        obtain ⟨p0_285, r0_285, rfl⟩ := rows_form hv0_285
        have V0_285 := hide (Strs.mono hv0_285 fun g hg => Nat.le_trans F280.out.size hg)
        clear hv0_285
        clear he ho hR hF C285 H280 F280 HO
        obtain ⟨z286_0, z286_1, z286_2, z286_3, z286_4, z286_5, z286_6, z286_7, z286_8, z286_9, z286_10, y286⟩ := row11 LB272_273_275_280_285.out
        obtain ⟨z287_0, z287_1, z287_2, y287⟩ := row3 LB275_280_285.out
        have x288 := NE_0_1.out
        have x289 := NE_1_0.out
        go_wp2_with fail
        have hz := (And.intro z286_0 (And.intro z286_1 (And.intro z286_2 (And.intro z286_3 (And.intro z286_4 (And.intro z286_5 (And.intro z286_6 (And.intro z286_7 (And.intro z286_8 (And.intro z286_9 (And.intro z286_10 (And.intro y286 (And.intro z287_0 (And.intro z287_1 (And.intro z287_2 (And.intro y287 (And.intro x288 x289)))))))))))))))))
        simp [bodyPost, results, Tryz.results132, go_sem, hz]
        have V0_285_290 := hide (Strs.keep V0_285.out (Kp.setLoc (T := [9]) (i := 0) (v := .int .i64 1) LB272_273_275_280_285.out (by decide)) (by decide))
        clear V0_285
        have LB272_273_275_280_285_290 := hide (loc_set (i := 0) (v := .int .i64 1) LB272_273_275_280_285.out)
        have LB275_280_285_290 := hide (loc_other (p := ⟨w.heap.size, 0, none⟩) (v := .int .i64 1) LB275_280_285.out (NE_1_0.out))
        clear LB272_273_275_280_285 LB275_280_285
        have H290 := hide (H285.out.setLoc Q272.out 0 (.int .i64 1))
        have F290 := hide (F285.out.setLoc G272.out 0 (.int .i64 1))
        clear H285 F285
        have V0_285_290_291 := hide (Strs.keep V0_285_290.out (Kp.setLoc (T := [9]) (i := 1) (v := .bool a285.neg) LB272_273_275_280_285_290.out (by decide)) (by decide))
        clear V0_285_290
        have LB272_273_275_280_285_290_291 := hide (loc_set (i := 1) (v := .bool a285.neg) LB272_273_275_280_285_290.out)
        have LB275_280_285_290_291 := hide (loc_other (p := ⟨w.heap.size, 1, none⟩) (v := .bool a285.neg) LB275_280_285_290.out (NE_1_0.out))
        clear LB272_273_275_280_285_290 LB275_280_285_290
        have H291 := hide (H290.out.setLoc Q272.out 1 (.bool a285.neg))
        have F291 := hide (F290.out.setLoc G272.out 1 (.bool a285.neg))
        clear H290 F290
        have V0_285_290_291_292 := hide (Strs.keep V0_285_290_291.out (Kp.setLoc (T := [9]) (i := 2) (v := .string ⟨a285.pred.toArray⟩) LB272_273_275_280_285_290_291.out (by decide)) (by decide))
        clear V0_285_290_291
        have LB272_273_275_280_285_290_291_292 := hide (loc_set (i := 2) (v := .string ⟨a285.pred.toArray⟩) LB272_273_275_280_285_290_291.out)
        have LB275_280_285_290_291_292 := hide (loc_other (p := ⟨w.heap.size, 2, none⟩) (v := .string ⟨a285.pred.toArray⟩) LB275_280_285_290_291.out (NE_1_0.out))
        clear LB272_273_275_280_285_290_291 LB275_280_285_290_291
        have H292 := hide (H291.out.setLoc Q272.out 2 (.string ⟨a285.pred.toArray⟩))
        have F292 := hide (F291.out.setLoc G272.out 2 (.string ⟨a285.pred.toArray⟩))
        clear H291 F291
        have V0_285_290_291_292_293 := hide (Strs.keep V0_285_290_291_292.out (Kp.setLoc (T := [9]) (i := 3) (v := .slice p0_285 a285.args.length r0_285) LB272_273_275_280_285_290_291_292.out (by decide)) (by decide))
        clear V0_285_290_291_292
        have LB272_273_275_280_285_290_291_292_293 := hide (loc_set (i := 3) (v := .slice p0_285 a285.args.length r0_285) LB272_273_275_280_285_290_291_292.out)
        have LB275_280_285_290_291_292_293 := hide (loc_other (p := ⟨w.heap.size, 3, none⟩) (v := .slice p0_285 a285.args.length r0_285) LB275_280_285_290_291_292.out (NE_1_0.out))
        clear LB272_273_275_280_285_290_291_292 LB275_280_285_290_291_292
        have H293 := hide (H292.out.setLoc Q272.out 3 (.slice p0_285 a285.args.length r0_285))
        have F293 := hide (F292.out.setLoc G272.out 3 (.slice p0_285 a285.args.length r0_285))
        clear H292 F292
        have V0_285_290_291_292_293_294 := hide (Strs.keep V0_285_290_291_292_293.out (Kp.setLoc (T := [9]) (i := 4) (v := .bool a285.hasValue) LB272_273_275_280_285_290_291_292_293.out (by decide)) (by decide))
        clear V0_285_290_291_292_293
        have LB272_273_275_280_285_290_291_292_293_294 := hide (loc_set (i := 4) (v := .bool a285.hasValue) LB272_273_275_280_285_290_291_292_293.out)
        have LB275_280_285_290_291_292_293_294 := hide (loc_other (p := ⟨w.heap.size, 4, none⟩) (v := .bool a285.hasValue) LB275_280_285_290_291_292_293.out (NE_1_0.out))
        clear LB272_273_275_280_285_290_291_292_293 LB275_280_285_290_291_292_293
        have H294 := hide (H293.out.setLoc Q272.out 4 (.bool a285.hasValue))
        have F294 := hide (F293.out.setLoc G272.out 4 (.bool a285.hasValue))
        clear H293 F293
        have V0_285_290_291_292_293_294_295 := hide (Strs.keep V0_285_290_291_292_293_294.out (Kp.setLoc (T := [9]) (i := 5) (v := .int .i64 a285.value) LB272_273_275_280_285_290_291_292_293_294.out (by decide)) (by decide))
        clear V0_285_290_291_292_293_294
        have LB272_273_275_280_285_290_291_292_293_294_295 := hide (loc_set (i := 5) (v := .int .i64 a285.value) LB272_273_275_280_285_290_291_292_293_294.out)
        have LB275_280_285_290_291_292_293_294_295 := hide (loc_other (p := ⟨w.heap.size, 5, none⟩) (v := .int .i64 a285.value) LB275_280_285_290_291_292_293_294.out (NE_1_0.out))
        clear LB272_273_275_280_285_290_291_292_293_294 LB275_280_285_290_291_292_293_294
        have H295 := hide (H294.out.setLoc Q272.out 5 (.int .i64 a285.value))
        have F295 := hide (F294.out.setLoc G272.out 5 (.int .i64 a285.value))
        clear H294 F294
        have V0_285_290_291_292_293_294_295_296 := hide (Strs.keep V0_285_290_291_292_293_294_295.out (Kp.setLoc (T := [9]) (i := 6) (v := .slice none 0 0) LB272_273_275_280_285_290_291_292_293_294_295.out (by decide)) (by decide))
        clear V0_285_290_291_292_293_294_295
        have LB272_273_275_280_285_290_291_292_293_294_295_296 := hide (loc_set (i := 6) (v := .slice none 0 0) LB272_273_275_280_285_290_291_292_293_294_295.out)
        have LB275_280_285_290_291_292_293_294_295_296 := hide (loc_other (p := ⟨w.heap.size, 6, none⟩) (v := .slice none 0 0) LB275_280_285_290_291_292_293_294_295.out (NE_1_0.out))
        clear LB272_273_275_280_285_290_291_292_293_294_295 LB275_280_285_290_291_292_293_294_295
        have H296 := hide (H295.out.setLoc Q272.out 6 (.slice none 0 0))
        have F296 := hide (F295.out.setLoc G272.out 6 (.slice none 0 0))
        clear H295 F295
        have V0_285_290_291_292_293_294_295_296_297 := hide (Strs.keep V0_285_290_291_292_293_294_295_296.out (Kp.setLoc (T := [9]) (i := 7) (v := .int .i64 0) LB272_273_275_280_285_290_291_292_293_294_295_296.out (by decide)) (by decide))
        clear V0_285_290_291_292_293_294_295_296
        have LB272_273_275_280_285_290_291_292_293_294_295_296_297 := hide (loc_set (i := 7) (v := .int .i64 0) LB272_273_275_280_285_290_291_292_293_294_295_296.out)
        have LB275_280_285_290_291_292_293_294_295_296_297 := hide (loc_other (p := ⟨w.heap.size, 7, none⟩) (v := .int .i64 0) LB275_280_285_290_291_292_293_294_295_296.out (NE_1_0.out))
        clear LB272_273_275_280_285_290_291_292_293_294_295_296 LB275_280_285_290_291_292_293_294_295_296
        have H297 := hide (H296.out.setLoc Q272.out 7 (.int .i64 0))
        have F297 := hide (F296.out.setLoc G272.out 7 (.int .i64 0))
        clear H296 F296
        have V0_285_290_291_292_293_294_295_296_297_298 := hide (Strs.keep V0_285_290_291_292_293_294_295_296_297.out (Kp.setLoc (T := [9]) (i := 8) (v := .slice none 0 0) LB272_273_275_280_285_290_291_292_293_294_295_296_297.out (by decide)) (by decide))
        clear V0_285_290_291_292_293_294_295_296_297
        have LB272_273_275_280_285_290_291_292_293_294_295_296_297_298 := hide (loc_set (i := 8) (v := .slice none 0 0) LB272_273_275_280_285_290_291_292_293_294_295_296_297.out)
        have LB275_280_285_290_291_292_293_294_295_296_297_298 := hide (loc_other (p := ⟨w.heap.size, 8, none⟩) (v := .slice none 0 0) LB275_280_285_290_291_292_293_294_295_296_297.out (NE_1_0.out))
        clear LB272_273_275_280_285_290_291_292_293_294_295_296_297 LB275_280_285_290_291_292_293_294_295_296_297
        have H298 := hide (H297.out.setLoc Q272.out 8 (.slice none 0 0))
        have F298 := hide (F297.out.setLoc G272.out 8 (.slice none 0 0))
        clear H297 F297
        have V0_285_290_291_292_293_294_295_296_297_298_299 := hide (Strs.keep V0_285_290_291_292_293_294_295_296_297_298.out (Kp.setLoc (T := [9]) (i := 9) (v := .string ⟨#[]⟩) LB272_273_275_280_285_290_291_292_293_294_295_296_297_298.out (by decide)) (by decide))
        clear V0_285_290_291_292_293_294_295_296_297_298
        have LB272_273_275_280_285_290_291_292_293_294_295_296_297_298_299 := hide (loc_set (i := 9) (v := .string ⟨#[]⟩) LB272_273_275_280_285_290_291_292_293_294_295_296_297_298.out)
        have LB275_280_285_290_291_292_293_294_295_296_297_298_299 := hide (loc_other (p := ⟨w.heap.size, 9, none⟩) (v := .string ⟨#[]⟩) LB275_280_285_290_291_292_293_294_295_296_297_298.out (NE_1_0.out))
        clear LB272_273_275_280_285_290_291_292_293_294_295_296_297_298 LB275_280_285_290_291_292_293_294_295_296_297_298
        have H299 := hide (H298.out.setLoc Q272.out 9 (.string ⟨#[]⟩))
        have F299 := hide (F298.out.setLoc G272.out 9 (.string ⟨#[]⟩))
        clear H298 F298
        have V0_285_290_291_292_293_294_295_296_297_298_299_300 := hide (Strs.keep V0_285_290_291_292_293_294_295_296_297_298_299.out (Kp.setLoc (T := [9]) (i := 10) (v := .string ⟨#[]⟩) LB272_273_275_280_285_290_291_292_293_294_295_296_297_298_299.out (by decide)) (by decide))
        clear V0_285_290_291_292_293_294_295_296_297_298_299
        have LB272_273_275_280_285_290_291_292_293_294_295_296_297_298_299_300 := hide (loc_set (i := 10) (v := .string ⟨#[]⟩) LB272_273_275_280_285_290_291_292_293_294_295_296_297_298_299.out)
        have LB275_280_285_290_291_292_293_294_295_296_297_298_299_300 := hide (loc_other (p := ⟨w.heap.size, 10, none⟩) (v := .string ⟨#[]⟩) LB275_280_285_290_291_292_293_294_295_296_297_298_299.out (NE_1_0.out))
        clear LB272_273_275_280_285_290_291_292_293_294_295_296_297_298_299 LB275_280_285_290_291_292_293_294_295_296_297_298_299
        have H300 := hide (H299.out.setLoc Q272.out 10 (.string ⟨#[]⟩))
        have F300 := hide (F299.out.setLoc G272.out 10 (.string ⟨#[]⟩))
        clear H299 F299
        exact .of_ok HO285.out (⟨_, _, _, rfl, V0_285_290_291_292_293_294_295_296_297_298_299_300.out, Rows.nil _ _ _ _ _, Rows.nil _ _ _ _ _⟩) H300.out F300.out

end
end Go.Proofs.YthnjmfkiohgkkaaGreatDoor.Sy
