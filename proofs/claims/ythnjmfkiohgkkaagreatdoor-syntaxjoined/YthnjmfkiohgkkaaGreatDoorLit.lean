/- Brackets; a literal. By program. -/
import Derived.Test.YthnjmfkiohgkkaaGreatDoorAddAll
namespace Go.Proofs.YthnjmfkiohgkkaaGreatDoor.Sy
open Go.RowKit

section
variable (R : Nat) (L : List Tok) (N : Nat) (s : RS) (st : St9) (w : World)

set_option maxRecDepth 100000 in
set_option maxHeartbeats 1600000 in
theorem brackets_name (h : Rd R L N s st w) (o : Out (List Bytes)) (ho : bracketsM (kt L) (nameM (kt L)) s = o) :
    Calls Tryz.prog 150 #[.pointer (some ⟨R, 0, none⟩), .func (.func 72) #[.pointer (some ⟨R, 0, none⟩)] #[]] w (Ends R L N st w (Strs (New w)) o) := by
  have HO := hide ho
  have H := hide h
  have F := hide (Fq.refl R w)
  clear h ho
  go_enter Tryz.func150, Tryz.ntmps150
  have C1 := hide (hasMark_any R L N s st _ [40] H.out _ rfl)
  go_wp2_with fail
  refine C1.out.mono ?_
  intro e w1 he
  rcases he.split with ⟨a1, s1, v1, ho, rfl, hv, hR, hF⟩ | ⟨c, m, ho, rfl, hF⟩
  rotate_left 1
  · exact on_panic rfl (.of_bad (bind_no HO.out ho) (F.out.trans hF))
  have HO1 := hide (bind_go HO.out ho)
  have H1 := hide hR
  have F1 := hide (F.out.trans hF)
  cases hv
  clear he ho hR hF C1 H F HO
  cases a1 with
  | false =>
    have HO := hide (ite_f HO1.out rfl)
    go_wp2_with fail
    go_ret
    exact .of_ok HO.out (Rows.nil _ _ _ _ _) H1.out F1.out
  | true =>
    have HO := hide (ite_t HO1.out rfl)
    have C2 := hide (list_string_name R L N s1 st _ (nameM (kt L)) (fun s w h => name_any R L N s st w h _ rfl) (commaM (kt L)) (fun s w h => comma_any R L N s st w h _ rfl) (fun s a u => eats_name _ s a u) (fun s u => hasMark_eats) 4 H1.out _ rfl)
    go_wp2_with fail
    refine C2.out.mono ?_
    intro e w2 he
    rcases he.split with ⟨a2, s2, v2, ho, rfl, hv, hR, hF⟩ | ⟨c, m, ho, rfl, hF⟩
    rotate_left 1
    · exact on_panic rfl (.of_bad (bind_no HO.out ho) (F1.out.trans hF))
    have HO2 := hide (bind_go HO.out ho)
    have H2 := hide hR
    have F2 := hide (F1.out.trans hF)
    obtain ⟨p2, r2, rfl⟩ := rows_form hv
    have V2 := hide (Strs.mono hv fun g hg => Nat.le_trans F1.out.size hg)
    clear hv
    clear he ho hR hF C2 H1 F1 HO
    have C3 := hide (wantMark_any R L N s2 st _ [41] H2.out _ rfl)
    go_wp2_with fail
    refine C3.out.mono ?_
    intro e w3 he
    rcases he.split with ⟨a3, s3, v3, ho, rfl, hv, hR, hF⟩ | ⟨c, m, ho, rfl, hF⟩
    rotate_left 1
    · exact on_panic rfl (.of_bad (bind_no HO2.out ho) (F2.out.trans hF))
    have HO3 := hide (bind_go HO2.out ho)
    have q0 := hide (Strs.keep V2.out (Kp.of_fq (T := [9]) hF H2.out (by decide)) (by decide))
    clear V2
    have H3 := hide hR
    have F3 := hide (F2.out.trans hF)
    cases hv
    clear he ho hR hF C3 H2 F2 HO2
    go_wp2_with fail
    go_ret
    exact .of_ok HO3.out q0.out H3.out F3.out

set_option maxRecDepth 100000 in
set_option maxHeartbeats 1600000 in
theorem brackets_arg (h : Rd R L N s st w) (o : Out (List Bytes)) (ho : bracketsM (kt L) (argM (kt L)) s = o) :
    Calls Tryz.prog 150 #[.pointer (some ⟨R, 0, none⟩), .func (.func 159) #[.pointer (some ⟨R, 0, none⟩)] #[]] w (Ends R L N st w (Strs (New w)) o) := by
  have HO := hide ho
  have H := hide h
  have F := hide (Fq.refl R w)
  clear h ho
  go_enter Tryz.func150, Tryz.ntmps150
  have C4 := hide (hasMark_any R L N s st _ [40] H.out _ rfl)
  go_wp2_with fail
  refine C4.out.mono ?_
  intro e w4 he
  rcases he.split with ⟨a4, s4, v4, ho, rfl, hv, hR, hF⟩ | ⟨c, m, ho, rfl, hF⟩
  rotate_left 1
  · exact on_panic rfl (.of_bad (bind_no HO.out ho) (F.out.trans hF))
  have HO4 := hide (bind_go HO.out ho)
  have H4 := hide hR
  have F4 := hide (F.out.trans hF)
  cases hv
  clear he ho hR hF C4 H F HO
  cases a4 with
  | false =>
    have HO := hide (ite_f HO4.out rfl)
    go_wp2_with fail
    go_ret
    exact .of_ok HO.out (Rows.nil _ _ _ _ _) H4.out F4.out
  | true =>
    have HO := hide (ite_t HO4.out rfl)
    have C5 := hide (list_string_arg R L N s4 st _ (argM (kt L)) (fun s w h => arg_any R L N s st w h _ rfl) (commaM (kt L)) (fun s w h => comma_any R L N s st w h _ rfl) (fun s a u => eats_arg _ s a u) (fun s u => hasMark_eats) 4 H4.out _ rfl)
    go_wp2_with fail
    refine C5.out.mono ?_
    intro e w5 he
    rcases he.split with ⟨a5, s5, v5, ho, rfl, hv, hR, hF⟩ | ⟨c, m, ho, rfl, hF⟩
    rotate_left 1
    · exact on_panic rfl (.of_bad (bind_no HO.out ho) (F4.out.trans hF))
    have HO5 := hide (bind_go HO.out ho)
    have H5 := hide hR
    have F5 := hide (F4.out.trans hF)
    obtain ⟨p5, r5, rfl⟩ := rows_form hv
    have V5 := hide (Strs.mono hv fun g hg => Nat.le_trans F4.out.size hg)
    clear hv
    clear he ho hR hF C5 H4 F4 HO
    have C6 := hide (wantMark_any R L N s5 st _ [41] H5.out _ rfl)
    go_wp2_with fail
    refine C6.out.mono ?_
    intro e w6 he
    rcases he.split with ⟨a6, s6, v6, ho, rfl, hv, hR, hF⟩ | ⟨c, m, ho, rfl, hF⟩
    rotate_left 1
    · exact on_panic rfl (.of_bad (bind_no HO5.out ho) (F5.out.trans hF))
    have HO6 := hide (bind_go HO5.out ho)
    have q0 := hide (Strs.keep V5.out (Kp.of_fq (T := [9]) hF H5.out (by decide)) (by decide))
    clear V5
    have H6 := hide hR
    have F6 := hide (F5.out.trans hF)
    cases hv
    clear he ho hR hF C6 H5 F5 HO5
    go_wp2_with fail
    go_ret
    exact .of_ok HO6.out q0.out H6.out F6.out

set_option maxRecDepth 100000 in
set_option maxHeartbeats 1600000 in
theorem literal_any (h : Rd R L N s st w) (o : Out LitM) (ho : literalM FN (kt L) s = o) :
    Calls Tryz.prog 134 #[.pointer (some ⟨R, 0, none⟩)] w (Ends R L N st w (vLit (New w)) o) := by
  have HO := hide ho
  have H := hide h
  have F := hide (Fq.refl R w)
  clear h ho
  go_enter Tryz.func134, Tryz.ntmps134
  have B7 : Below _ _ ((w).alloc (.cells #[.bool false, .string ⟨#[]⟩, .slice none 0 0, .bool false, .int .i64 0] 98)) := (Below.refl _ _).alloc (Nat.le_refl _) _
  have Q7 : Hid (R < w.heap.size) := hide H.out.lt
  have G7 : Hid (w.heap.size ≤ w.heap.size) := hide F.out.size
  have LB7 := hide (heap_alloc_new (w) (.cells #[.bool false, .string ⟨#[]⟩, .slice none 0 0, .bool false, .int .i64 0] 98))
  have H7 := hide (H.out.below B7)
  have F7 := hide (F.out.trans (Fq.of_below B7))
  clear H F B7
  have C8 := hide (hasMark_any R L N s st _ [45] H7.out _ rfl)
  go_wp2_with fail
  refine C8.out.mono ?_
  intro e w8 he
  rcases he.split with ⟨a8, s8, v8, ho, rfl, hv, hR, hF⟩ | ⟨c, m, ho, rfl, hF⟩
  rotate_left 1
  · exact on_panic rfl (.of_bad (bind_no HO.out ho) (F7.out.trans hF))
  have HO8 := hide (bind_go HO.out ho)
  have q0 := hide (hF.loc LB7.out (Nat.ne_of_gt Q7.out))
  clear LB7
  have H8 := hide hR
  have F8 := hide (F7.out.trans hF)
  cases hv
  clear he ho hR hF C8 H7 F7 HO
  obtain ⟨q1, q2, q3, q4, q5, y9⟩ := row5 q0.out
  have B10 : Below _ _ ((w8).alloc (.cells #[.bool a8, .string ⟨#[]⟩, .slice none 0 0, .bool false, .int .i64 0] 98)) := (Below.refl _ _).alloc (Nat.le_refl _) _
  have Q10 : Hid (R < w8.heap.size) := hide H8.out.lt
  have G10 : Hid (w.heap.size ≤ w8.heap.size) := hide F8.out.size
  have q6 : Hid (w.heap.size ≠ w8.heap.size) := hide (Nat.ne_of_lt (loc_lt q0.out))
  have q7 : Hid (w8.heap.size ≠ w.heap.size) := hide (Nat.ne_of_gt (loc_lt q0.out))
  have q8 := hide ((B10.block _ (loc_lt q0.out)).trans q0.out)
  clear q0
  have LB10 := hide (heap_alloc_new (w8) (.cells #[.bool a8, .string ⟨#[]⟩, .slice none 0 0, .bool false, .int .i64 0] 98))
  have H10 := hide (H8.out.below B10)
  have F10 := hide (F8.out.trans (Fq.of_below B10))
  clear H8 F8 B10
  have C11 := hide (name_any R L N s8 st _ H10.out _ rfl)
  go_wp2_with fail
  refine C11.out.mono ?_
  intro e w11 he
  rcases he.split with ⟨a11, s11, v11, ho, rfl, hv, hR, hF⟩ | ⟨c, m, ho, rfl, hF⟩
  rotate_left 1
  · exact on_panic rfl (.of_bad (bind_no HO8.out ho) (F10.out.trans hF))
  clear q1 q2 q3 q4 q5 y9
  have HO11 := hide (bind_go HO8.out ho)
  have q9 := hide (hF.loc q8.out (Nat.ne_of_gt Q7.out))
  clear q8
  have qa := hide (hF.loc LB10.out (Nat.ne_of_gt Q10.out))
  clear LB10
  have H11 := hide hR
  have F11 := hide (F10.out.trans hF)
  cases hv
  clear he ho hR hF C11 H10 F10 HO8
  obtain ⟨qb, qc, qd, qe, qf, y12⟩ := row5 q9.out
  obtain ⟨qg, qh, qi, qj, qk, y13⟩ := row5 qa.out
  have x14 := q6.out
  have x15 := q7.out
  have ql := hide (loc_other (p := ⟨w8.heap.size, 1, none⟩) (v := .string ⟨a11.toArray⟩) q9.out (q6.out))
  have qm := hide (loc_set (i := 1) (v := .string ⟨a11.toArray⟩) qa.out)
  clear q9 qa
  have H16 := hide (H11.out.setLoc Q10.out 1 (.string ⟨a11.toArray⟩))
  have F16 := hide (F11.out.setLoc G10.out 1 (.string ⟨a11.toArray⟩))
  clear H11 F11
  have C17 := hide (brackets_arg R L N s11 st _ H16.out _ rfl)
  go_wp2_with fail
  refine C17.out.mono ?_
  intro e w17 he
  rcases he.split with ⟨a17, s17, v17, ho, rfl, hv, hR, hF⟩ | ⟨c, m, ho, rfl, hF⟩
  rotate_left 1
  · exact on_panic rfl (.of_bad (bind_no HO11.out ho) (F16.out.trans hF))
  clear qb qc qd qe qf y12 qg qh qi qj qk y13 x14 x15
  have HO17 := hide (bind_go HO11.out ho)
  have qn := hide (hF.loc ql.out (Nat.ne_of_gt Q7.out))
  clear ql
  have qo := hide (hF.loc qm.out (Nat.ne_of_gt Q10.out))
  clear qm
  have H17 := hide hR
  have F17 := hide (F16.out.trans hF)
  obtain ⟨p17, r17, rfl⟩ := rows_form hv
  have V17 := hide (Strs.mono hv fun g hg => Nat.le_trans F16.out.size hg)
  clear hv
  clear he ho hR hF C17 H16 F16 HO11
  obtain ⟨qp, qq, qr, qs, qt, y18⟩ := row5 qn.out
  obtain ⟨qu, qv, qw, qx, qy, y19⟩ := row5 qo.out
  have x20 := q6.out
  have x21 := q7.out
  have qz := hide (Strs.keep V17.out (Kp.setLoc (T := [9]) (i := 2) (v := .slice p17 a17.length r17) qo.out (by decide)) (by decide))
  clear V17
  have qA := hide (loc_other (p := ⟨w8.heap.size, 2, none⟩) (v := .slice p17 a17.length r17) qn.out (q6.out))
  have qB := hide (loc_set (i := 2) (v := .slice p17 a17.length r17) qo.out)
  clear qn qo
  have H22 := hide (H17.out.setLoc Q10.out 2 (.slice p17 a17.length r17))
  have F22 := hide (F17.out.setLoc G10.out 2 (.slice p17 a17.length r17))
  clear H17 F17
  have C23 := hide (hasMark_any R L N s17 st _ [61] H22.out _ rfl)
  go_wp2_with fail
  refine C23.out.mono ?_
  intro e w23 he
  rcases he.split with ⟨a23, s23, v23, ho, rfl, hv, hR, hF⟩ | ⟨c, m, ho, rfl, hF⟩
  rotate_left 1
  · exact on_panic rfl (.of_bad (bind_no HO17.out ho) (F22.out.trans hF))
  clear qp qq qr qs qt y18 qu qv qw qx qy y19 x20 x21
  have HO23 := hide (bind_go HO17.out ho)
  have qC := hide (hF.loc qA.out (Nat.ne_of_gt Q7.out))
  clear qA
  have qD := hide (hF.loc qB.out (Nat.ne_of_gt Q10.out))
  clear qB
  have qE := hide (Strs.keep qz.out (Kp.of_fq (T := [9]) hF H22.out (by decide)) (by decide))
  clear qz
  have H23 := hide hR
  have F23 := hide (F22.out.trans hF)
  cases hv
  clear he ho hR hF C23 H22 F22 HO17
  obtain ⟨qF, qG, qH, qI, qJ, y24⟩ := row5 qC.out
  obtain ⟨qK, qL, qM, qN, qO, y25⟩ := row5 qD.out
  have x26 := q6.out
  have x27 := q7.out
  cases a23 with
  | false =>
    have HO := hide (ite_f HO23.out rfl)
    go_wp2_with fail
    have hz := (And.intro qF (And.intro qG (And.intro qH (And.intro qI (And.intro qJ (And.intro y24 (And.intro qK (And.intro qL (And.intro qM (And.intro qN (And.intro qO (And.intro y25 (And.intro x26 x27)))))))))))))
    simp [bodyPost, results, Tryz.results134, go_sem, hz]
    have qP := hide (Strs.keep qE.out (Kp.setLoc (T := [9]) (i := 0) (v := .bool a8) qC.out (by decide)) (by decide))
    clear qE
    have qQ := hide (loc_set (i := 0) (v := .bool a8) qC.out)
    have qR := hide (loc_other (p := ⟨w.heap.size, 0, none⟩) (v := .bool a8) qD.out (q7.out))
    clear qC qD
    have H28 := hide (H23.out.setLoc Q7.out 0 (.bool a8))
    have F28 := hide (F23.out.setLoc G7.out 0 (.bool a8))
    clear H23 F23
    have qS := hide (Strs.keep qP.out (Kp.setLoc (T := [9]) (i := 1) (v := .string ⟨a11.toArray⟩) qQ.out (by decide)) (by decide))
    clear qP
    have qT := hide (loc_set (i := 1) (v := .string ⟨a11.toArray⟩) qQ.out)
    have qU := hide (loc_other (p := ⟨w.heap.size, 1, none⟩) (v := .string ⟨a11.toArray⟩) qR.out (q7.out))
    clear qQ qR
    have H29 := hide (H28.out.setLoc Q7.out 1 (.string ⟨a11.toArray⟩))
    have F29 := hide (F28.out.setLoc G7.out 1 (.string ⟨a11.toArray⟩))
    clear H28 F28
    have qV := hide (Strs.keep qS.out (Kp.setLoc (T := [9]) (i := 2) (v := .slice p17 a17.length r17) qT.out (by decide)) (by decide))
    clear qS
    have qW := hide (loc_set (i := 2) (v := .slice p17 a17.length r17) qT.out)
    have qX := hide (loc_other (p := ⟨w.heap.size, 2, none⟩) (v := .slice p17 a17.length r17) qU.out (q7.out))
    clear qT qU
    have H30 := hide (H29.out.setLoc Q7.out 2 (.slice p17 a17.length r17))
    have F30 := hide (F29.out.setLoc G7.out 2 (.slice p17 a17.length r17))
    clear H29 F29
    have qY := hide (Strs.keep qV.out (Kp.setLoc (T := [9]) (i := 3) (v := .bool false) qW.out (by decide)) (by decide))
    clear qV
    have qZ := hide (loc_set (i := 3) (v := .bool false) qW.out)
    have q10 := hide (loc_other (p := ⟨w.heap.size, 3, none⟩) (v := .bool false) qX.out (q7.out))
    clear qW qX
    have H31 := hide (H30.out.setLoc Q7.out 3 (.bool false))
    have F31 := hide (F30.out.setLoc G7.out 3 (.bool false))
    clear H30 F30
    have q11 := hide (Strs.keep qY.out (Kp.setLoc (T := [9]) (i := 4) (v := .int .i64 0) qZ.out (by decide)) (by decide))
    clear qY
    have q12 := hide (loc_set (i := 4) (v := .int .i64 0) qZ.out)
    have q13 := hide (loc_other (p := ⟨w.heap.size, 4, none⟩) (v := .int .i64 0) q10.out (q7.out))
    clear qZ q10
    have H32 := hide (H31.out.setLoc Q7.out 4 (.int .i64 0))
    have F32 := hide (F31.out.setLoc G7.out 4 (.int .i64 0))
    clear H31 F31
    exact .of_ok HO.out (⟨_, rfl, q11.out⟩) H32.out F32.out
  | true =>
    have HO := hide (ite_t HO23.out rfl)
    have q14 := hide (Strs.keep qE.out (Kp.setLoc (T := [9]) (i := 3) (v := .bool true) qD.out (by decide)) (by decide))
    clear qE
    have q15 := hide (loc_other (p := ⟨w8.heap.size, 3, none⟩) (v := .bool true) qC.out (q6.out))
    have q16 := hide (loc_set (i := 3) (v := .bool true) qD.out)
    clear qC qD
    have H33 := hide (H23.out.setLoc Q10.out 3 (.bool true))
    have F33 := hide (F23.out.setLoc G10.out 3 (.bool true))
    clear H23 F23
    have C34 := hide (money_any R L N s23 st _ H33.out _ rfl)
    go_wp2_with fail
    refine C34.out.mono ?_
    intro e w34 he
    rcases he.split with ⟨a34, s34, v34, ho, rfl, hv, hR, hF⟩ | ⟨c, m, ho, rfl, hF⟩
    rotate_left 1
    · exact on_panic rfl (.of_bad (bind_no HO.out ho) (F33.out.trans hF))
    clear qF qG qH qI qJ y24 qK qL qM qN qO y25 x26 x27
    have HO34 := hide (bind_go HO.out ho)
    have q17 := hide (hF.loc q15.out (Nat.ne_of_gt Q7.out))
    clear q15
    have q18 := hide (hF.loc q16.out (Nat.ne_of_gt Q10.out))
    clear q16
    have q19 := hide (Strs.keep q14.out (Kp.of_fq (T := [9]) hF H33.out (by decide)) (by decide))
    clear q14
    have H34 := hide hR
    have F34 := hide (F33.out.trans hF)
    cases hv
    clear he ho hR hF C34 H33 F33 HO
    obtain ⟨q1a, q1b, q1c, q1d, q1e, y35⟩ := row5 q17.out
    obtain ⟨q1f, q1g, q1h, q1i, q1j, y36⟩ := row5 q18.out
    have x37 := q6.out
    have x38 := q7.out
    have q1k := hide (Strs.keep q19.out (Kp.setLoc (T := [9]) (i := 4) (v := .int .i64 a34) q18.out (by decide)) (by decide))
    clear q19
    have q1l := hide (loc_other (p := ⟨w8.heap.size, 4, none⟩) (v := .int .i64 a34) q17.out (q6.out))
    have q1m := hide (loc_set (i := 4) (v := .int .i64 a34) q18.out)
    clear q17 q18
    have H39 := hide (H34.out.setLoc Q10.out 4 (.int .i64 a34))
    have F39 := hide (F34.out.setLoc G10.out 4 (.int .i64 a34))
    clear H34 F34
    go_wp2_with fail
    have hz := (And.intro q1a (And.intro q1b (And.intro q1c (And.intro q1d (And.intro q1e (And.intro y35 (And.intro q1f (And.intro q1g (And.intro q1h (And.intro q1i (And.intro q1j (And.intro y36 (And.intro x37 x38)))))))))))))
    simp [bodyPost, results, Tryz.results134, go_sem, hz]
    have q1n := hide (Strs.keep q1k.out (Kp.setLoc (T := [9]) (i := 0) (v := .bool a8) q1l.out (by decide)) (by decide))
    clear q1k
    have q1o := hide (loc_set (i := 0) (v := .bool a8) q1l.out)
    have q1p := hide (loc_other (p := ⟨w.heap.size, 0, none⟩) (v := .bool a8) q1m.out (q7.out))
    clear q1l q1m
    have H40 := hide (H39.out.setLoc Q7.out 0 (.bool a8))
    have F40 := hide (F39.out.setLoc G7.out 0 (.bool a8))
    clear H39 F39
    have q1q := hide (Strs.keep q1n.out (Kp.setLoc (T := [9]) (i := 1) (v := .string ⟨a11.toArray⟩) q1o.out (by decide)) (by decide))
    clear q1n
    have q1r := hide (loc_set (i := 1) (v := .string ⟨a11.toArray⟩) q1o.out)
    have q1s := hide (loc_other (p := ⟨w.heap.size, 1, none⟩) (v := .string ⟨a11.toArray⟩) q1p.out (q7.out))
    clear q1o q1p
    have H41 := hide (H40.out.setLoc Q7.out 1 (.string ⟨a11.toArray⟩))
    have F41 := hide (F40.out.setLoc G7.out 1 (.string ⟨a11.toArray⟩))
    clear H40 F40
    have q1t := hide (Strs.keep q1q.out (Kp.setLoc (T := [9]) (i := 2) (v := .slice p17 a17.length r17) q1r.out (by decide)) (by decide))
    clear q1q
    have q1u := hide (loc_set (i := 2) (v := .slice p17 a17.length r17) q1r.out)
    have q1v := hide (loc_other (p := ⟨w.heap.size, 2, none⟩) (v := .slice p17 a17.length r17) q1s.out (q7.out))
    clear q1r q1s
    have H42 := hide (H41.out.setLoc Q7.out 2 (.slice p17 a17.length r17))
    have F42 := hide (F41.out.setLoc G7.out 2 (.slice p17 a17.length r17))
    clear H41 F41
    have q1w := hide (Strs.keep q1t.out (Kp.setLoc (T := [9]) (i := 3) (v := .bool true) q1u.out (by decide)) (by decide))
    clear q1t
    have q1x := hide (loc_set (i := 3) (v := .bool true) q1u.out)
    have q1y := hide (loc_other (p := ⟨w.heap.size, 3, none⟩) (v := .bool true) q1v.out (q7.out))
    clear q1u q1v
    have H43 := hide (H42.out.setLoc Q7.out 3 (.bool true))
    have F43 := hide (F42.out.setLoc G7.out 3 (.bool true))
    clear H42 F42
    have q1z := hide (Strs.keep q1w.out (Kp.setLoc (T := [9]) (i := 4) (v := .int .i64 a34) q1x.out (by decide)) (by decide))
    clear q1w
    have q1A := hide (loc_set (i := 4) (v := .int .i64 a34) q1x.out)
    have q1B := hide (loc_other (p := ⟨w.heap.size, 4, none⟩) (v := .int .i64 a34) q1y.out (q7.out))
    clear q1x q1y
    have H44 := hide (H43.out.setLoc Q7.out 4 (.int .i64 a34))
    have F44 := hide (F43.out.setLoc G7.out 4 (.int .i64 a34))
    clear H43 F43
    exact .of_ok HO34.out (⟨_, rfl, q1z.out⟩) H44.out F44.out

end
end Go.Proofs.YthnjmfkiohgkkaaGreatDoor.Sy
