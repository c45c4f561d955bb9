/- Brackets; a literal. By program. -/
import Derived.Test.YthnjmfkiohgkkaaGreatDoorAddAll
namespace Go.Proofs.YthnjmfkiohgkkaaGreatDoor.Sy
open Go.RowKit

section
variable (R : Nat) (L : List Tok) (N : Nat) (s : RS) (st : St9) (w : World)

set_option maxRecDepth 100000 in
set_option maxHeartbeats 1600000 in
theorem brackets_name (h : Rd R L N s st w) (o : Out (List Bytes)) (ho : bracketsM (kt L) (nameM (kt L)) s = o) :
    Calls Tryz.prog 150 #[.pointer (some ⟨R, 0, none⟩), .func (.func 72) #[.pointer (some ⟨R, 0, none⟩)] #[]] w (Ends R L N st w (Strs (New w)) o) := by
  have HO := hide ho
  have H := hide h
  have F := hide (Fq.refl R w)
  clear h ho
  go_enter Tryz.func150, Tryz.ntmps150
  have C1 := hide (hasMark_any R L N s st _ [40] H.out _ rfl)
  go_wp2_with fail
  refine C1.out.mono ?_
  intro e w1 he
  rcases he.split with ⟨a1, s1, v1, ho, rfl, hv, hR, hF⟩ | ⟨c, m, ho, rfl, hF⟩
  rotate_left 1
  · exact on_panic rfl (.of_bad (bind_no HO.out ho) (F.out.trans hF))
  have HO1 := hide (bind_go HO.out ho)
  have H1 := hide hR
  have F1 := hide (F.out.trans hF)
  cases hv
  clear he ho hR hF C1 H F HO
  cases a1 with
  | false =>
    have HO := hide (ite_f HO1.out rfl)
    go_wp2_with fail
    go_ret
    exact .of_ok HO.out (Rows.nil _ _ _ _ _) H1.out F1.out
  | true =>
    have HO := hide (ite_t HO1.out rfl)
    have C2 := hide (list_string_name R L N s1 st _ (nameM (kt L)) (fun s w h => name_any R L N s st w h _ rfl) (commaM (kt L)) (fun s w h => comma_any R L N s st w h _ rfl) (fun s a u => eats_name _ s a u) (fun s u => hasMark_eats) 4 H1.out _ rfl)
    go_wp2_with fail
    refine C2.out.mono ?_
    intro e w2 he
    rcases he.split with ⟨a2, s2, v2, ho, rfl, hv, hR, hF⟩ | ⟨c, m, ho, rfl, hF⟩
    rotate_left 1
    · exact on_panic rfl (.of_bad (bind_no HO.out ho) (F1.out.trans hF))
    have HO2 := hide (bind_go HO.out ho)
    have H2 := hide hR
    have F2 := hide (F1.out.trans hF)
    obtain ⟨p2, r2, rfl⟩ := rows_form hv
    have V2 := hide (Strs.mono hv fun g hg => Nat.le_trans F1.out.size hg)
    clear hv
    clear he ho hR hF C2 H1 F1 HO
    have C3 := hide (wantMark_any R L N s2 st _ [41] H2.out _ rfl)
    go_wp2_with fail
    refine C3.out.mono ?_
    intro e w3 he
    rcases he.split with ⟨a3, s3, v3, ho, rfl, hv, hR, hF⟩ | ⟨c, m, ho, rfl, hF⟩
    rotate_left 1
    · exact on_panic rfl (.of_bad (bind_no HO2.out ho) (F2.out.trans hF))
    have HO3 := hide (bind_go HO2.out ho)
    have V2_3 := hide (Strs.keep V2.out (Kp.of_fq (T := [9]) hF H2.out (by decide)) (by decide))
    clear V2
    have H3 := hide hR
    have F3 := hide (F2.out.trans hF)
    cases hv
    clear he ho hR hF C3 H2 F2 HO2
    go_wp2_with fail
    go_ret
    exact .of_ok HO3.out V2_3.out H3.out F3.out

set_option maxRecDepth 100000 in
set_option maxHeartbeats 1600000 in
theorem brackets_arg (h : Rd R L N s st w) (o : Out (List Bytes)) (ho : bracketsM (kt L) (argM (kt L)) s = o) :
    Calls Tryz.prog 150 #[.pointer (some ⟨R, 0, none⟩), .func (.func 159) #[.pointer (some ⟨R, 0, none⟩)] #[]] w (Ends R L N st w (Strs (New w)) o) := by
  have HO := hide ho
  have H := hide h
  have F := hide (Fq.refl R w)
  clear h ho
  go_enter Tryz.func150, Tryz.ntmps150
  have C4 := hide (hasMark_any R L N s st _ [40] H.out _ rfl)
  go_wp2_with fail
  refine C4.out.mono ?_
  intro e w4 he
  rcases he.split with ⟨a4, s4, v4, ho, rfl, hv, hR, hF⟩ | ⟨c, m, ho, rfl, hF⟩
  rotate_left 1
  · exact on_panic rfl (.of_bad (bind_no HO.out ho) (F.out.trans hF))
  have HO4 := hide (bind_go HO.out ho)
  have H4 := hide hR
  have F4 := hide (F.out.trans hF)
  cases hv
  clear he ho hR hF C4 H F HO
  cases a4 with
  | false =>
    have HO := hide (ite_f HO4.out rfl)
    go_wp2_with fail
    go_ret
    exact .of_ok HO.out (Rows.nil _ _ _ _ _) H4.out F4.out
  | true =>
    have HO := hide (ite_t HO4.out rfl)
    have C5 := hide (list_string_arg R L N s4 st _ (argM (kt L)) (fun s w h => arg_any R L N s st w h _ rfl) (commaM (kt L)) (fun s w h => comma_any R L N s st w h _ rfl) (fun s a u => eats_arg _ s a u) (fun s u => hasMark_eats) 4 H4.out _ rfl)
    go_wp2_with fail
    refine C5.out.mono ?_
    intro e w5 he
    rcases he.split with ⟨a5, s5, v5, ho, rfl, hv, hR, hF⟩ | ⟨c, m, ho, rfl, hF⟩
    rotate_left 1
    · exact on_panic rfl (.of_bad (bind_no HO.out ho) (F4.out.trans hF))
    have HO5 := hide (bind_go HO.out ho)
    have H5 := hide hR
    have F5 := hide (F4.out.trans hF)
    obtain ⟨p5, r5, rfl⟩ := rows_form hv
    have V5 := hide (Strs.mono hv fun g hg => Nat.le_trans F4.out.size hg)
    clear hv
    clear he ho hR hF C5 H4 F4 HO
    have C6 := hide (wantMark_any R L N s5 st _ [41] H5.out _ rfl)
    go_wp2_with fail
    refine C6.out.mono ?_
    intro e w6 he
    rcases he.split with ⟨a6, s6, v6, ho, rfl, hv, hR, hF⟩ | ⟨c, m, ho, rfl, hF⟩
    rotate_left 1
    · exact on_panic rfl (.of_bad (bind_no HO5.out ho) (F5.out.trans hF))
    have HO6 := hide (bind_go HO5.out ho)
    have V5_6 := hide (Strs.keep V5.out (Kp.of_fq (T := [9]) hF H5.out (by decide)) (by decide))
    clear V5
    have H6 := hide hR
    have F6 := hide (F5.out.trans hF)
    cases hv
    clear he ho hR hF C6 H5 F5 HO5
    go_wp2_with fail
    go_ret
    exact .of_ok HO6.out V5_6.out H6.out F6.out

set_option maxRecDepth 100000 in
set_option maxHeartbeats 1600000 in
theorem literal_any (h : Rd R L N s st w) (o : Out LitM) (ho : literalM FN (kt L) s = o) :
    Calls Tryz.prog 134 #[.pointer (some ⟨R, 0, none⟩)] w (Ends R L N st w (vLit (New w)) o) := by
  have HO := hide ho
  have H := hide h
  have F := hide (Fq.refl R w)
  clear h ho
  go_enter Tryz.func134, Tryz.ntmps134
  have B7 : Below _ _ ((w).alloc (.cells #[.bool false, .string ⟨#[]⟩, .slice none 0 0, .bool false, .int .i64 0] 98)) := (Below.refl _ _).alloc (Nat.le_refl _) _
  have Q7 : Hid (R < w.heap.size) := hide H.out.lt
  have G7 : Hid (w.heap.size ≤ w.heap.size) := hide F.out.size
  have LB7 := hide (heap_alloc_new (w) (.cells #[.bool false, .string ⟨#[]⟩, .slice none 0 0, .bool false, .int .i64 0] 98))
  have H7 := hide (H.out.below B7)
  have F7 := hide (F.out.trans (Fq.of_below B7))
  clear H F B7
  have C8 := hide (hasMark_any R L N s st _ [45] H7.out _ rfl)
  go_wp2_with fail
  refine C8.out.mono ?_
  intro e w8 he
  rcases he.split with ⟨a8, s8, v8, ho, rfl, hv, hR, hF⟩ | ⟨c, m, ho, rfl, hF⟩
  rotate_left 1
  · exact on_panic rfl (.of_bad (bind_no HO.out ho) (F7.out.trans hF))
  have HO8 := hide (bind_go HO.out ho)
  have LB7_8 := hide (hF.loc LB7.out (Nat.ne_of_gt Q7.out))
  clear LB7
  have H8 := hide hR
  have F8 := hide (F7.out.trans hF)
  cases hv
  clear he ho hR hF C8 H7 F7 HO
  obtain ⟨z9_0, z9_1, z9_2, z9_3, z9_4, y9⟩ := row5 LB7_8.out
  have B10 : Below _ _ ((w8).alloc (.cells #[.bool a8, .string ⟨#[]⟩, .slice none 0 0, .bool false, .int .i64 0] 98)) := (Below.refl _ _).alloc (Nat.le_refl _) _
  have Q10 : Hid (R < w8.heap.size) := hide H8.out.lt
  have G10 : Hid (w.heap.size ≤ w8.heap.size) := hide F8.out.size
  have NE_0_1 : Hid (w.heap.size ≠ w8.heap.size) := hide (Nat.ne_of_lt (loc_lt LB7_8.out))
  have NE_1_0 : Hid (w8.heap.size ≠ w.heap.size) := hide (Nat.ne_of_gt (loc_lt LB7_8.out))
  have LB7_8_10 := hide ((B10.block _ (loc_lt LB7_8.out)).trans LB7_8.out)
  clear LB7_8
  have LB10 := hide (heap_alloc_new (w8) (.cells #[.bool a8, .string ⟨#[]⟩, .slice none 0 0, .bool false, .int .i64 0] 98))
  have H10 := hide (H8.out.below B10)
  have F10 := hide (F8.out.trans (Fq.of_below B10))
  clear H8 F8 B10
  have C11 := hide (name_any R L N s8 st _ H10.out _ rfl)
  go_wp2_with fail
  refine C11.out.mono ?_
  intro e w11 he
  rcases he.split with ⟨a11, s11, v11, ho, rfl, hv, hR, hF⟩ | ⟨c, m, ho, rfl, hF⟩
  rotate_left 1
  · exact on_panic rfl (.of_bad (bind_no HO8.out ho) (F10.out.trans hF))
  clear z9_0 z9_1 z9_2 z9_3 z9_4 y9
  have HO11 := hide (bind_go HO8.out ho)
  have LB7_8_10_11 := hide (hF.loc LB7_8_10.out (Nat.ne_of_gt Q7.out))
  clear LB7_8_10
  have LB10_11 := hide (hF.loc LB10.out (Nat.ne_of_gt Q10.out))
  clear LB10
  have H11 := hide hR
  have F11 := hide (F10.out.trans hF)
  cases hv
  clear he ho hR hF C11 H10 F10 HO8
  obtain ⟨z12_0, z12_1, z12_2, z12_3, z12_4, y12⟩ := row5 LB7_8_10_11.out
  obtain ⟨z13_0, z13_1, z13_2, z13_3, z13_4, y13⟩ := row5 LB10_11.out
  have x14 := NE_0_1.out
  have x15 := NE_1_0.out
  have LB7_8_10_11_16 := hide (loc_other (p := ⟨w8.heap.size, 1, none⟩) (v := .string ⟨a11.toArray⟩) LB7_8_10_11.out (NE_0_1.out))
  have LB10_11_16 := hide (loc_set (i := 1) (v := .string ⟨a11.toArray⟩) LB10_11.out)
  clear LB7_8_10_11 LB10_11
  have H16 := hide (H11.out.setLoc Q10.out 1 (.string ⟨a11.toArray⟩))
  have F16 := hide (F11.out.setLoc G10.out 1 (.string ⟨a11.toArray⟩))
  clear H11 F11
  have C17 := hide (brackets_arg R L N s11 st _ H16.out _ rfl)
  go_wp2_with fail
  refine C17.out.mono ?_
  intro e w17 he
  rcases he.split with ⟨a17, s17, v17, ho, rfl, hv, hR, hF⟩ | ⟨c, m, ho, rfl, hF⟩
  rotate_left 1
  · exact on_panic rfl (.of_bad (bind_no HO11.out ho) (F16.out.trans hF))
  clear z12_0 z12_1 z12_2 z12_3 z12_4 y12 z13_0 z13_1 z13_2 z13_3 z13_4 y13 x14 x15
  have HO17 := hide (bind_go HO11.out ho)
  have LB7_8_10_11_16_17 := hide (hF.loc LB7_8_10_11_16.out (Nat.ne_of_gt Q7.out))
  clear LB7_8_10_11_16
  have LB10_11_16_17 := hide (hF.loc LB10_11_16.out (Nat.ne_of_gt Q10.out))
  clear LB10_11_16
  have H17 := hide hR
  have F17 := hide (F16.out.trans hF)
  obtain ⟨p17, r17, rfl⟩ := rows_form hv
  have V17 := hide (Strs.mono hv fun g hg => Nat.le_trans F16.out.size hg)
  clear hv
  clear he ho hR hF C17 H16 F16 HO11
  obtain ⟨z18_0, z18_1, z18_2, z18_3, z18_4, y18⟩ := row5 LB7_8_10_11_16_17.out
  obtain ⟨z19_0, z19_1, z19_2, z19_3, z19_4, y19⟩ := row5 LB10_11_16_17.out
  have x20 := NE_0_1.out
  have x21 := NE_1_0.out
  have V17_22 := hide (Strs.keep V17.out (Kp.setLoc (T := [9]) (i := 2) (v := .slice p17 a17.length r17) LB10_11_16_17.out (by decide)) (by decide))
  clear V17
  have LB7_8_10_11_16_17_22 := hide (loc_other (p := ⟨w8.heap.size, 2, none⟩) (v := .slice p17 a17.length r17) LB7_8_10_11_16_17.out (NE_0_1.out))
  have LB10_11_16_17_22 := hide (loc_set (i := 2) (v := .slice p17 a17.length r17) LB10_11_16_17.out)
  clear LB7_8_10_11_16_17 LB10_11_16_17
  have H22 := hide (H17.out.setLoc Q10.out 2 (.slice p17 a17.length r17))
  have F22 := hide (F17.out.setLoc G10.out 2 (.slice p17 a17.length r17))
  clear H17 F17
  have C23 := hide (hasMark_any R L N s17 st _ [61] H22.out _ rfl)
  go_wp2_with fail
  refine C23.out.mono ?_
  intro e w23 he
  rcases he.split with ⟨a23, s23, v23, ho, rfl, hv, hR, hF⟩ | ⟨c, m, ho, rfl, hF⟩
  rotate_left 1
  · exact on_panic rfl (.of_bad (bind_no HO17.out ho) (F22.out.trans hF))
  clear z18_0 z18_1 z18_2 z18_3 z18_4 y18 z19_0 z19_1 z19_2 z19_3 z19_4 y19 x20 x21
  have HO23 := hide (bind_go HO17.out ho)
  have LB7_8_10_11_16_17_22_23 := hide (hF.loc LB7_8_10_11_16_17_22.out (Nat.ne_of_gt Q7.out))
  clear LB7_8_10_11_16_17_22
  have LB10_11_16_17_22_23 := hide (hF.loc LB10_11_16_17_22.out (Nat.ne_of_gt Q10.out))
  clear LB10_11_16_17_22
  have V17_22_23 := hide (Strs.keep V17_22.out (Kp.of_fq (T := [9]) hF H22.out (by decide)) (by decide))
  clear V17_22
  have H23 := hide hR
  have F23 := hide (F22.out.trans hF)
  cases hv
  clear he ho hR hF C23 H22 F22 HO17
  obtain ⟨z24_0, z24_1, z24_2, z24_3, z24_4, y24⟩ := row5 LB7_8_10_11_16_17_22_23.out
  obtain ⟨z25_0, z25_1, z25_2, z25_3, z25_4, y25⟩ := row5 LB10_11_16_17_22_23.out
  have x26 := NE_0_1.out
  have x27 := NE_1_0.out
  cases a23 with
  | false =>
    have HO := hide (ite_f HO23.out rfl)
    go_wp2_with fail
    have hz := (And.intro z24_0 (And.intro z24_1 (And.intro z24_2 (And.intro z24_3 (And.intro z24_4 (And.intro y24 (And.intro z25_0 (And.intro z25_1 (And.intro z25_2 (And.intro z25_3 (And.intro z25_4 (And.intro y25 (And.intro x26 x27)))))))))))))
    simp [bodyPost, results, Tryz.results134, go_sem, hz]
    have V17_22_23_28 := hide (Strs.keep V17_22_23.out (Kp.setLoc (T := [9]) (i := 0) (v := .bool a8) LB7_8_10_11_16_17_22_23.out (by decide)) (by decide))
    clear V17_22_23
    have LB7_8_10_11_16_17_22_23_28 := hide (loc_set (i := 0) (v := .bool a8) LB7_8_10_11_16_17_22_23.out)
    have LB10_11_16_17_22_23_28 := hide (loc_other (p := ⟨w.heap.size, 0, none⟩) (v := .bool a8) LB10_11_16_17_22_23.out (NE_1_0.out))
    clear LB7_8_10_11_16_17_22_23 LB10_11_16_17_22_23
    have H28 := hide (H23.out.setLoc Q7.out 0 (.bool a8))
    have F28 := hide (F23.out.setLoc G7.out 0 (.bool a8))
    clear H23 F23
    have V17_22_23_28_29 := hide (Strs.keep V17_22_23_28.out (Kp.setLoc (T := [9]) (i := 1) (v := .string ⟨a11.toArray⟩) LB7_8_10_11_16_17_22_23_28.out (by decide)) (by decide))
    clear V17_22_23_28
    have LB7_8_10_11_16_17_22_23_28_29 := hide (loc_set (i := 1) (v := .string ⟨a11.toArray⟩) LB7_8_10_11_16_17_22_23_28.out)
    have LB10_11_16_17_22_23_28_29 := hide (loc_other (p := ⟨w.heap.size, 1, none⟩) (v := .string ⟨a11.toArray⟩) LB10_11_16_17_22_23_28.out (NE_1_0.out))
    clear LB7_8_10_11_16_17_22_23_28 LB10_11_16_17_22_23_28
    have H29 := hide (H28.out.setLoc Q7.out 1 (.string ⟨a11.toArray⟩))
    have F29 := hide (F28.out.setLoc G7.out 1 (.string ⟨a11.toArray⟩))
    clear H28 F28
    have V17_22_23_28_29_30 := hide (Strs.keep V17_22_23_28_29.out (Kp.setLoc (T := [9]) (i := 2) (v := .slice p17 a17.length r17) LB7_8_10_11_16_17_22_23_28_29.out (by decide)) (by decide))
    clear V17_22_23_28_29
    have LB7_8_10_11_16_17_22_23_28_29_30 := hide (loc_set (i := 2) (v := .slice p17 a17.length r17) LB7_8_10_11_16_17_22_23_28_29.out)
    have LB10_11_16_17_22_23_28_29_30 := hide (loc_other (p := ⟨w.heap.size, 2, none⟩) (v := .slice p17 a17.length r17) LB10_11_16_17_22_23_28_29.out (NE_1_0.out))
    clear LB7_8_10_11_16_17_22_23_28_29 LB10_11_16_17_22_23_28_29
    have H30 := hide (H29.out.setLoc Q7.out 2 (.slice p17 a17.length r17))
    have F30 := hide (F29.out.setLoc G7.out 2 (.slice p17 a17.length r17))
    clear H29 F29
    have V17_22_23_28_29_30_31 := hide (Strs.keep V17_22_23_28_29_30.out (Kp.setLoc (T := [9]) (i := 3) (v := .bool false) LB7_8_10_11_16_17_22_23_28_29_30.out (by decide)) (by decide))
    clear V17_22_23_28_29_30
    have LB7_8_10_11_16_17_22_23_28_29_30_31 := hide (loc_set (i := 3) (v := .bool false) LB7_8_10_11_16_17_22_23_28_29_30.out)
    have LB10_11_16_17_22_23_28_29_30_31 := hide (loc_other (p := ⟨w.heap.size, 3, none⟩) (v := .bool false) LB10_11_16_17_22_23_28_29_30.out (NE_1_0.out))
    clear LB7_8_10_11_16_17_22_23_28_29_30 LB10_11_16_17_22_23_28_29_30
    have H31 := hide (H30.out.setLoc Q7.out 3 (.bool false))
    have F31 := hide (F30.out.setLoc G7.out 3 (.bool false))
    clear H30 F30
    have V17_22_23_28_29_30_31_32 := hide (Strs.keep V17_22_23_28_29_30_31.out (Kp.setLoc (T := [9]) (i := 4) (v := .int .i64 0) LB7_8_10_11_16_17_22_23_28_29_30_31.out (by decide)) (by decide))
    clear V17_22_23_28_29_30_31
    have LB7_8_10_11_16_17_22_23_28_29_30_31_32 := hide (loc_set (i := 4) (v := .int .i64 0) LB7_8_10_11_16_17_22_23_28_29_30_31.out)
    have LB10_11_16_17_22_23_28_29_30_31_32 := hide (loc_other (p := ⟨w.heap.size, 4, none⟩) (v := .int .i64 0) LB10_11_16_17_22_23_28_29_30_31.out (NE_1_0.out))
    clear LB7_8_10_11_16_17_22_23_28_29_30_31 LB10_11_16_17_22_23_28_29_30_31
    have H32 := hide (H31.out.setLoc Q7.out 4 (.int .i64 0))
    have F32 := hide (F31.out.setLoc G7.out 4 (.int .i64 0))
    clear H31 F31
    exact .of_ok HO.out (⟨_, rfl, V17_22_23_28_29_30_31_32.out⟩) H32.out F32.out
  | true =>
    have HO := hide (ite_t HO23.out rfl)
    have V17_22_23_33 := hide (Strs.keep V17_22_23.out (Kp.setLoc (T := [9]) (i := 3) (v := .bool true) LB10_11_16_17_22_23.out (by decide)) (by decide))
    clear V17_22_23
    have LB7_8_10_11_16_17_22_23_33 := hide (loc_other (p := ⟨w8.heap.size, 3, none⟩) (v := .bool true) LB7_8_10_11_16_17_22_23.out (NE_0_1.out))
    have LB10_11_16_17_22_23_33 := hide (loc_set (i := 3) (v := .bool true) LB10_11_16_17_22_23.out)
    clear LB7_8_10_11_16_17_22_23 LB10_11_16_17_22_23
    have H33 := hide (H23.out.setLoc Q10.out 3 (.bool true))
    have F33 := hide (F23.out.setLoc G10.out 3 (.bool true))
    clear H23 F23
    have C34 := hide (money_any R L N s23 st _ H33.out _ rfl)
    go_wp2_with fail
    refine C34.out.mono ?_
    intro e w34 he
    rcases he.split with ⟨a34, s34, v34, ho, rfl, hv, hR, hF⟩ | ⟨c, m, ho, rfl, hF⟩
    rotate_left 1
    · exact on_panic rfl (.of_bad (bind_no HO.out ho) (F33.out.trans hF))
    clear z24_0 z24_1 z24_2 z24_3 z24_4 y24 z25_0 z25_1 z25_2 z25_3 z25_4 y25 x26 x27
    have HO34 := hide (bind_go HO.out ho)
    have LB7_8_10_11_16_17_22_23_33_34 := hide (hF.loc LB7_8_10_11_16_17_22_23_33.out (Nat.ne_of_gt Q7.out))
    clear LB7_8_10_11_16_17_22_23_33
    have LB10_11_16_17_22_23_33_34 := hide (hF.loc LB10_11_16_17_22_23_33.out (Nat.ne_of_gt Q10.out))
    clear LB10_11_16_17_22_23_33
    have V17_22_23_33_34 := hide (Strs.keep V17_22_23_33.out (Kp.of_fq (T := [9]) hF H33.out (by decide)) (by decide))
    clear V17_22_23_33
    have H34 := hide hR
    have F34 := hide (F33.out.trans hF)
    cases hv
    clear he ho hR hF C34 H33 F33 HO
    obtain ⟨z35_0, z35_1, z35_2, z35_3, z35_4, y35⟩ := row5 LB7_8_10_11_16_17_22_23_33_34.out
    obtain ⟨z36_0, z36_1, z36_2, z36_3, z36_4, y36⟩ := row5 LB10_11_16_17_22_23_33_34.out
    have x37 := NE_0_1.out
    have x38 := NE_1_0.out
    have V17_22_23_33_34_39 := hide (Strs.keep V17_22_23_33_34.out (Kp.setLoc (T := [9]) (i := 4) (v := .int .i64 a34) LB10_11_16_17_22_23_33_34.out (by decide)) (by decide))
    clear V17_22_23_33_34
    have LB7_8_10_11_16_17_22_23_33_34_39 := hide (loc_other (p := ⟨w8.heap.size, 4, none⟩) (v := .int .i64 a34) LB7_8_10_11_16_17_22_23_33_34.out (NE_0_1.out))
    have LB10_11_16_17_22_23_33_34_39 := hide (loc_set (i := 4) (v := .int .i64 a34) LB10_11_16_17_22_23_33_34.out)
    clear LB7_8_10_11_16_17_22_23_33_34 LB10_11_16_17_22_23_33_34
    have H39 := hide (H34.out.setLoc Q10.out 4 (.int .i64 a34))
    have F39 := hide (F34.out.setLoc G10.out 4 (.int .i64 a34))
    clear H34 F34
    go_wp2_with fail
    have hz := (And.intro z35_0 (And.intro z35_1 (And.intro z35_2 (And.intro z35_3 (And.intro z35_4 (And.intro y35 (And.intro z36_0 (And.intro z36_1 (And.intro z36_2 (And.intro z36_3 (And.intro z36_4 (And.intro y36 (And.intro x37 x38)))))))))))))
    simp [bodyPost, results, Tryz.results134, go_sem, hz]
    have V17_22_23_33_34_39_40 := hide (Strs.keep V17_22_23_33_34_39.out (Kp.setLoc (T := [9]) (i := 0) (v := .bool a8) LB7_8_10_11_16_17_22_23_33_34_39.out (by decide)) (by decide))
    clear V17_22_23_33_34_39
    have LB7_8_10_11_16_17_22_23_33_34_39_40 := hide (loc_set (i := 0) (v := .bool a8) LB7_8_10_11_16_17_22_23_33_34_39.out)
    have LB10_11_16_17_22_23_33_34_39_40 := hide (loc_other (p := ⟨w.heap.size, 0, none⟩) (v := .bool a8) LB10_11_16_17_22_23_33_34_39.out (NE_1_0.out))
    clear LB7_8_10_11_16_17_22_23_33_34_39 LB10_11_16_17_22_23_33_34_39
    have H40 := hide (H39.out.setLoc Q7.out 0 (.bool a8))
    have F40 := hide (F39.out.setLoc G7.out 0 (.bool a8))
    clear H39 F39
    have V17_22_23_33_34_39_40_41 := hide (Strs.keep V17_22_23_33_34_39_40.out (Kp.setLoc (T := [9]) (i := 1) (v := .string ⟨a11.toArray⟩) LB7_8_10_11_16_17_22_23_33_34_39_40.out (by decide)) (by decide))
    clear V17_22_23_33_34_39_40
    have LB7_8_10_11_16_17_22_23_33_34_39_40_41 := hide (loc_set (i := 1) (v := .string ⟨a11.toArray⟩) LB7_8_10_11_16_17_22_23_33_34_39_40.out)
    have LB10_11_16_17_22_23_33_34_39_40_41 := hide (loc_other (p := ⟨w.heap.size, 1, none⟩) (v := .string ⟨a11.toArray⟩) LB10_11_16_17_22_23_33_34_39_40.out (NE_1_0.out))
    clear LB7_8_10_11_16_17_22_23_33_34_39_40 LB10_11_16_17_22_23_33_34_39_40
    have H41 := hide (H40.out.setLoc Q7.out 1 (.string ⟨a11.toArray⟩))
    have F41 := hide (F40.out.setLoc G7.out 1 (.string ⟨a11.toArray⟩))
    clear H40 F40
    have V17_22_23_33_34_39_40_41_42 := hide (Strs.keep V17_22_23_33_34_39_40_41.out (Kp.setLoc (T := [9]) (i := 2) (v := .slice p17 a17.length r17) LB7_8_10_11_16_17_22_23_33_34_39_40_41.out (by decide)) (by decide))
    clear V17_22_23_33_34_39_40_41
    have LB7_8_10_11_16_17_22_23_33_34_39_40_41_42 := hide (loc_set (i := 2) (v := .slice p17 a17.length r17) LB7_8_10_11_16_17_22_23_33_34_39_40_41.out)
    have LB10_11_16_17_22_23_33_34_39_40_41_42 := hide (loc_other (p := ⟨w.heap.size, 2, none⟩) (v := .slice p17 a17.length r17) LB10_11_16_17_22_23_33_34_39_40_41.out (NE_1_0.out))
    clear LB7_8_10_11_16_17_22_23_33_34_39_40_41 LB10_11_16_17_22_23_33_34_39_40_41
    have H42 := hide (H41.out.setLoc Q7.out 2 (.slice p17 a17.length r17))
    have F42 := hide (F41.out.setLoc G7.out 2 (.slice p17 a17.length r17))
    clear H41 F41
    have V17_22_23_33_34_39_40_41_42_43 := hide (Strs.keep V17_22_23_33_34_39_40_41_42.out (Kp.setLoc (T := [9]) (i := 3) (v := .bool true) LB7_8_10_11_16_17_22_23_33_34_39_40_41_42.out (by decide)) (by decide))
    clear V17_22_23_33_34_39_40_41_42
    have LB7_8_10_11_16_17_22_23_33_34_39_40_41_42_43 := hide (loc_set (i := 3) (v := .bool true) LB7_8_10_11_16_17_22_23_33_34_39_40_41_42.out)
    have LB10_11_16_17_22_23_33_34_39_40_41_42_43 := hide (loc_other (p := ⟨w.heap.size, 3, none⟩) (v := .bool true) LB10_11_16_17_22_23_33_34_39_40_41_42.out (NE_1_0.out))
    clear LB7_8_10_11_16_17_22_23_33_34_39_40_41_42 LB10_11_16_17_22_23_33_34_39_40_41_42
    have H43 := hide (H42.out.setLoc Q7.out 3 (.bool true))
    have F43 := hide (F42.out.setLoc G7.out 3 (.bool true))
    clear H42 F42
    have V17_22_23_33_34_39_40_41_42_43_44 := hide (Strs.keep V17_22_23_33_34_39_40_41_42_43.out (Kp.setLoc (T := [9]) (i := 4) (v := .int .i64 a34) LB7_8_10_11_16_17_22_23_33_34_39_40_41_42_43.out (by decide)) (by decide))
    clear V17_22_23_33_34_39_40_41_42_43
    have LB7_8_10_11_16_17_22_23_33_34_39_40_41_42_43_44 := hide (loc_set (i := 4) (v := .int .i64 a34) LB7_8_10_11_16_17_22_23_33_34_39_40_41_42_43.out)
    have LB10_11_16_17_22_23_33_34_39_40_41_42_43_44 := hide (loc_other (p := ⟨w.heap.size, 4, none⟩) (v := .int .i64 a34) LB10_11_16_17_22_23_33_34_39_40_41_42_43.out (NE_1_0.out))
    clear LB7_8_10_11_16_17_22_23_33_34_39_40_41_42_43 LB10_11_16_17_22_23_33_34_39_40_41_42_43
    have H44 := hide (H43.out.setLoc Q7.out 4 (.int .i64 a34))
    have F44 := hide (F43.out.setLoc G7.out 4 (.int .i64 a34))
    clear H43 F43
    exact .of_ok HO34.out (⟨_, rfl, V17_22_23_33_34_39_40_41_42_43_44.out⟩) H44.out F44.out

end
end Go.Proofs.YthnjmfkiohgkkaaGreatDoor.Sy
