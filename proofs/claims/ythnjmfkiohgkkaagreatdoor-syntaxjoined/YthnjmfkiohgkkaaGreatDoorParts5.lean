/- Predicates, classes, sources, exceptions, totals. By program. -/
import Derived.Test.YthnjmfkiohgkkaaGreatDoorLit
namespace Go.Proofs.YthnjmfkiohgkkaaGreatDoor.Sy
open Go.RowKit

section
variable (R : Nat) (L : List Tok) (N : Nat) (s : RS) (st : St9) (w : World)

set_option maxRecDepth 100000 in
set_option maxHeartbeats 1600000 in
theorem pred_any (sort : Nat) (h : Rd R L N s st w) (o : Out PredM) (ho : predM (kt L) sort s = o) :
    Calls Tryz.prog 124 #[.pointer (some ⟨R, 0, none⟩), .int .i64 sort] w (Ends R L N st w (vPred (New w)) o) := by
  have HO := hide ho
  have H := hide h
  have F := hide (Fq.refl R w)
  clear h ho
  go_enter Tryz.func124, Tryz.ntmps124
  have B1 : Below _ _ ((w).alloc (.cells #[.string ⟨#[]⟩, .int .i64 0, .slice none 0 0, .slice none 0 0] 92)) := (Below.refl _ _).alloc (Nat.le_refl _) _
  have Q1 : Hid (R < w.heap.size) := hide H.out.lt
  have G1 : Hid (w.heap.size ≤ w.heap.size) := hide F.out.size
  have LB1 := hide (heap_alloc_new (w) (.cells #[.string ⟨#[]⟩, .int .i64 0, .slice none 0 0, .slice none 0 0] 92))
  have H1 := hide (H.out.below B1)
  have F1 := hide (F.out.trans (Fq.of_below B1))
  clear H F B1
  have C2 := hide (name_any R L N s st _ H1.out _ rfl)
  go_wp2_with fail
  refine C2.out.mono ?_
  intro e w2 he
  rcases he.split with ⟨a2, s2, v2, ho, rfl, hv, hR, hF⟩ | ⟨c, m, ho, rfl, hF⟩
  rotate_left 1
  · exact on_panic rfl (.of_bad (bind_no HO.out ho) (F1.out.trans hF))
  have HO2 := hide (bind_go HO.out ho)
  have q0 := hide (hF.loc LB1.out (Nat.ne_of_gt Q1.out))
  clear LB1
  have H2 := hide hR
  have F2 := hide (F1.out.trans hF)
  cases hv
  clear he ho hR hF C2 H1 F1 HO
  obtain ⟨q1, q2, q3, q4, y3⟩ := row4 q0.out
  have C4 := hide (brackets_name R L N s2 st _ H2.out _ rfl)
  go_wp2_with fail
  refine C4.out.mono ?_
  intro e w4 he
  rcases he.split with ⟨a4, s4, v4, ho, rfl, hv, hR, hF⟩ | ⟨c, m, ho, rfl, hF⟩
  rotate_left 1
  · exact on_panic rfl (.of_bad (bind_no HO2.out ho) (F2.out.trans hF))
  clear q1 q2 q3 q4 y3
  have HO4 := hide (bind_go HO2.out ho)
  have q5 := hide (hF.loc q0.out (Nat.ne_of_gt Q1.out))
  clear q0
  have H4 := hide hR
  have F4 := hide (F2.out.trans hF)
  obtain ⟨p4, r4, rfl⟩ := rows_form hv
  have V4 := hide (Strs.mono hv fun g hg => Nat.le_trans F2.out.size hg)
  clear hv
  clear he ho hR hF C4 H2 F2 HO2
  obtain ⟨q6, q7, q8, q9, y5⟩ := row4 q5.out
  go_wp2_with fail
  have hz := (And.intro q6 (And.intro q7 (And.intro q8 (And.intro q9 y5))))
  simp [bodyPost, results, Tryz.results124, go_sem, hz]
  have qa := hide (Strs.keep V4.out (Kp.setLoc (T := [9]) (i := 0) (v := .string ⟨a2.toArray⟩) q5.out (by decide)) (by decide))
  clear V4
  have qb := hide (loc_set (i := 0) (v := .string ⟨a2.toArray⟩) q5.out)
  clear q5
  have H6 := hide (H4.out.setLoc Q1.out 0 (.string ⟨a2.toArray⟩))
  have F6 := hide (F4.out.setLoc G1.out 0 (.string ⟨a2.toArray⟩))
  clear H4 F4
  have qc := hide (Strs.keep qa.out (Kp.setLoc (T := [9]) (i := 1) (v := .int .i64 sort) qb.out (by decide)) (by decide))
  clear qa
  have qd := hide (loc_set (i := 1) (v := .int .i64 sort) qb.out)
  clear qb
  have H7 := hide (H6.out.setLoc Q1.out 1 (.int .i64 sort))
  have F7 := hide (F6.out.setLoc G1.out 1 (.int .i64 sort))
  clear H6 F6
  have qe := hide (Strs.keep qc.out (Kp.setLoc (T := [9]) (i := 2) (v := .slice p4 a4.length r4) qd.out (by decide)) (by decide))
  clear qc
  have qf := hide (loc_set (i := 2) (v := .slice p4 a4.length r4) qd.out)
  clear qd
  have H8 := hide (H7.out.setLoc Q1.out 2 (.slice p4 a4.length r4))
  have F8 := hide (F7.out.setLoc G1.out 2 (.slice p4 a4.length r4))
  clear H7 F7
  have qg := hide (Strs.keep qe.out (Kp.setLoc (T := [9]) (i := 3) (v := .slice none 0 0) qf.out (by decide)) (by decide))
  clear qe
  have qh := hide (loc_set (i := 3) (v := .slice none 0 0) qf.out)
  clear qf
  have H9 := hide (H8.out.setLoc Q1.out 3 (.slice none 0 0))
  have F9 := hide (F8.out.setLoc G1.out 3 (.slice none 0 0))
  clear H8 F8
  exact .of_ok HO4.out (⟨_, _, rfl, qg.out, Rows.nil _ _ _ _ _⟩) H9.out F9.out

set_option maxRecDepth 100000 in
set_option maxHeartbeats 1600000 in
theorem plain_any (h : Rd R L N s st w) (o : Out PredM) (ho : predM (kt L) 1 s = o) :
    Calls Tryz.prog 75 #[.pointer (some ⟨R, 0, none⟩)] w (Ends R L N st w (vPred (New w)) o) := by
  have HO := hide ho
  have H := hide h
  have F := hide (Fq.refl R w)
  clear h ho
  go_enter Tryz.func75, Tryz.ntmps75
  have B10 : Below _ _ ((w).alloc (.cells #[.string ⟨#[]⟩, .int .i64 0, .slice none 0 0, .slice none 0 0] 92)) := (Below.refl _ _).alloc (Nat.le_refl _) _
  have Q10 : Hid (R < w.heap.size) := hide H.out.lt
  have G10 : Hid (w.heap.size ≤ w.heap.size) := hide F.out.size
  have LB10 := hide (heap_alloc_new (w) (.cells #[.string ⟨#[]⟩, .int .i64 0, .slice none 0 0, .slice none 0 0] 92))
  have H10 := hide (H.out.below B10)
  have F10 := hide (F.out.trans (Fq.of_below B10))
  clear H F B10
  have C11 := hide (pred_any R L N s st _ 1 H10.out _ rfl)
  go_wp2_with fail
  refine C11.out.mono ?_
  intro e w11 he
  rcases he.split with ⟨a11, s11, v11, ho, rfl, hv, hR, hF⟩ | ⟨c, m, ho, rfl, hF⟩
  rotate_left 1
  · exact on_panic rfl (.of_bad (ho.symm.trans HO.out) (F10.out.trans hF))
  have HO11 := hide (ho.symm.trans HO.out)
  have q0 := hide (hF.loc LB10.out (Nat.ne_of_gt Q10.out))
  clear LB10
  have H11 := hide hR
  have F11 := hide (F10.out.trans hF)
  obtain ⟨kv11, vv11, rfl, q1, q2⟩ := hv
  obtain ⟨q3, q4, rfl⟩ := rows_form q1
  have q5 := hide (Strs.mono q1 fun g hg => Nat.le_trans F10.out.size hg)
  clear q1
  obtain ⟨q6, q7, rfl⟩ := rows_form q2
  have q8 := hide (Moneys.mono q2 fun g hg => Nat.le_trans F10.out.size hg)
  clear q2
  clear he ho hR hF C11 H10 F10 HO
  obtain ⟨q9, qa, qb, qc, y12⟩ := row4 q0.out
  go_wp2_with fail
  have hz := (And.intro q9 (And.intro qa (And.intro qb (And.intro qc y12))))
  simp [bodyPost, results, Tryz.results75, go_sem, hz]
  have qd := hide (Strs.keep q5.out (Kp.setLoc (T := [9]) (i := 0) (v := .string ⟨a11.name.toArray⟩) q0.out (by decide)) (by decide))
  clear q5
  have qe := hide (Moneys.keep q8.out (Kp.setLoc (T := [93]) (i := 0) (v := .string ⟨a11.name.toArray⟩) q0.out (by decide)) (by decide))
  clear q8
  have qf := hide (loc_set (i := 0) (v := .string ⟨a11.name.toArray⟩) q0.out)
  clear q0
  have H13 := hide (H11.out.setLoc Q10.out 0 (.string ⟨a11.name.toArray⟩))
  have F13 := hide (F11.out.setLoc G10.out 0 (.string ⟨a11.name.toArray⟩))
  clear H11 F11
  have qg := hide (Strs.keep qd.out (Kp.setLoc (T := [9]) (i := 1) (v := .int .i64 a11.sort) qf.out (by decide)) (by decide))
  clear qd
  have qh := hide (Moneys.keep qe.out (Kp.setLoc (T := [93]) (i := 1) (v := .int .i64 a11.sort) qf.out (by decide)) (by decide))
  clear qe
  have qi := hide (loc_set (i := 1) (v := .int .i64 a11.sort) qf.out)
  clear qf
  have H14 := hide (H13.out.setLoc Q10.out 1 (.int .i64 a11.sort))
  have F14 := hide (F13.out.setLoc G10.out 1 (.int .i64 a11.sort))
  clear H13 F13
  have qj := hide (Strs.keep qg.out (Kp.setLoc (T := [9]) (i := 2) (v := .slice q3 a11.kinds.length q4) qi.out (by decide)) (by decide))
  clear qg
  have qk := hide (Moneys.keep qh.out (Kp.setLoc (T := [93]) (i := 2) (v := .slice q3 a11.kinds.length q4) qi.out (by decide)) (by decide))
  clear qh
  have ql := hide (loc_set (i := 2) (v := .slice q3 a11.kinds.length q4) qi.out)
  clear qi
  have H15 := hide (H14.out.setLoc Q10.out 2 (.slice q3 a11.kinds.length q4))
  have F15 := hide (F14.out.setLoc G10.out 2 (.slice q3 a11.kinds.length q4))
  clear H14 F14
  have qm := hide (Strs.keep qj.out (Kp.setLoc (T := [9]) (i := 3) (v := .slice q6 a11.values.length q7) ql.out (by decide)) (by decide))
  clear qj
  have qn := hide (Moneys.keep qk.out (Kp.setLoc (T := [93]) (i := 3) (v := .slice q6 a11.values.length q7) ql.out (by decide)) (by decide))
  clear qk
  have qo := hide (loc_set (i := 3) (v := .slice q6 a11.values.length q7) ql.out)
  clear ql
  have H16 := hide (H15.out.setLoc Q10.out 3 (.slice q6 a11.values.length q7))
  have F16 := hide (F15.out.setLoc G10.out 3 (.slice q6 a11.values.length q7))
  clear H15 F15
  exact .of_ok HO11.out (⟨_, _, rfl, qm.out, qn.out⟩) H16.out F16.out

set_option maxRecDepth 100000 in
set_option maxHeartbeats 1600000 in
theorem number_any (h : Rd R L N s st w) (o : Out PredM) (ho : predM (kt L) 2 s = o) :
    Calls Tryz.prog 76 #[.pointer (some ⟨R, 0, none⟩)] w (Ends R L N st w (vPred (New w)) o) := by
  have HO := hide ho
  have H := hide h
  have F := hide (Fq.refl R w)
  clear h ho
  go_enter Tryz.func76, Tryz.ntmps76
  have B17 : Below _ _ ((w).alloc (.cells #[.string ⟨#[]⟩, .int .i64 0, .slice none 0 0, .slice none 0 0] 92)) := (Below.refl _ _).alloc (Nat.le_refl _) _
  have Q17 : Hid (R < w.heap.size) := hide H.out.lt
  have G17 : Hid (w.heap.size ≤ w.heap.size) := hide F.out.size
  have LB17 := hide (heap_alloc_new (w) (.cells #[.string ⟨#[]⟩, .int .i64 0, .slice none 0 0, .slice none 0 0] 92))
  have H17 := hide (H.out.below B17)
  have F17 := hide (F.out.trans (Fq.of_below B17))
  clear H F B17
  have C18 := hide (pred_any R L N s st _ 2 H17.out _ rfl)
  go_wp2_with fail
  refine C18.out.mono ?_
  intro e w18 he
  rcases he.split with ⟨a18, s18, v18, ho, rfl, hv, hR, hF⟩ | ⟨c, m, ho, rfl, hF⟩
  rotate_left 1
  · exact on_panic rfl (.of_bad (ho.symm.trans HO.out) (F17.out.trans hF))
  have HO18 := hide (ho.symm.trans HO.out)
  have q0 := hide (hF.loc LB17.out (Nat.ne_of_gt Q17.out))
  clear LB17
  have H18 := hide hR
  have F18 := hide (F17.out.trans hF)
  obtain ⟨kv18, vv18, rfl, q1, q2⟩ := hv
  obtain ⟨q3, q4, rfl⟩ := rows_form q1
  have q5 := hide (Strs.mono q1 fun g hg => Nat.le_trans F17.out.size hg)
  clear q1
  obtain ⟨q6, q7, rfl⟩ := rows_form q2
  have q8 := hide (Moneys.mono q2 fun g hg => Nat.le_trans F17.out.size hg)
  clear q2
  clear he ho hR hF C18 H17 F17 HO
  obtain ⟨q9, qa, qb, qc, y19⟩ := row4 q0.out
  go_wp2_with fail
  have hz := (And.intro q9 (And.intro qa (And.intro qb (And.intro qc y19))))
  simp [bodyPost, results, Tryz.results76, go_sem, hz]
  have qd := hide (Strs.keep q5.out (Kp.setLoc (T := [9]) (i := 0) (v := .string ⟨a18.name.toArray⟩) q0.out (by decide)) (by decide))
  clear q5
  have qe := hide (Moneys.keep q8.out (Kp.setLoc (T := [93]) (i := 0) (v := .string ⟨a18.name.toArray⟩) q0.out (by decide)) (by decide))
  clear q8
  have qf := hide (loc_set (i := 0) (v := .string ⟨a18.name.toArray⟩) q0.out)
  clear q0
  have H20 := hide (H18.out.setLoc Q17.out 0 (.string ⟨a18.name.toArray⟩))
  have F20 := hide (F18.out.setLoc G17.out 0 (.string ⟨a18.name.toArray⟩))
  clear H18 F18
  have qg := hide (Strs.keep qd.out (Kp.setLoc (T := [9]) (i := 1) (v := .int .i64 a18.sort) qf.out (by decide)) (by decide))
  clear qd
  have qh := hide (Moneys.keep qe.out (Kp.setLoc (T := [93]) (i := 1) (v := .int .i64 a18.sort) qf.out (by decide)) (by decide))
  clear qe
  have qi := hide (loc_set (i := 1) (v := .int .i64 a18.sort) qf.out)
  clear qf
  have H21 := hide (H20.out.setLoc Q17.out 1 (.int .i64 a18.sort))
  have F21 := hide (F20.out.setLoc G17.out 1 (.int .i64 a18.sort))
  clear H20 F20
  have qj := hide (Strs.keep qg.out (Kp.setLoc (T := [9]) (i := 2) (v := .slice q3 a18.kinds.length q4) qi.out (by decide)) (by decide))
  clear qg
  have qk := hide (Moneys.keep qh.out (Kp.setLoc (T := [93]) (i := 2) (v := .slice q3 a18.kinds.length q4) qi.out (by decide)) (by decide))
  clear qh
  have ql := hide (loc_set (i := 2) (v := .slice q3 a18.kinds.length q4) qi.out)
  clear qi
  have H22 := hide (H21.out.setLoc Q17.out 2 (.slice q3 a18.kinds.length q4))
  have F22 := hide (F21.out.setLoc G17.out 2 (.slice q3 a18.kinds.length q4))
  clear H21 F21
  have qm := hide (Strs.keep qj.out (Kp.setLoc (T := [9]) (i := 3) (v := .slice q6 a18.values.length q7) ql.out (by decide)) (by decide))
  clear qj
  have qn := hide (Moneys.keep qk.out (Kp.setLoc (T := [93]) (i := 3) (v := .slice q6 a18.values.length q7) ql.out (by decide)) (by decide))
  clear qk
  have qo := hide (loc_set (i := 3) (v := .slice q6 a18.values.length q7) ql.out)
  clear ql
  have H23 := hide (H22.out.setLoc Q17.out 3 (.slice q6 a18.values.length q7))
  have F23 := hide (F22.out.setLoc G17.out 3 (.slice q6 a18.values.length q7))
  clear H22 F22
  exact .of_ok HO18.out (⟨_, _, rfl, qm.out, qn.out⟩) H23.out F23.out

set_option maxRecDepth 100000 in
set_option maxHeartbeats 1600000 in
theorem amountPred_any (h : Rd R L N s st w) (o : Out PredM) (ho : amountPredM FN (kt L) s = o) :
    Calls Tryz.prog 77 #[.pointer (some ⟨R, 0, none⟩)] w (Ends R L N st w (vPred (New w)) o) := by
  have HO := hide ho
  have H := hide h
  have F := hide (Fq.refl R w)
  clear h ho
  go_enter Tryz.func77, Tryz.ntmps77
  have B24 : Below _ _ ((w).alloc (.cells #[.string ⟨#[]⟩, .int .i64 0, .slice none 0 0, .slice none 0 0] 92)) := (Below.refl _ _).alloc (Nat.le_refl _) _
  have Q24 : Hid (R < w.heap.size) := hide H.out.lt
  have G24 : Hid (w.heap.size ≤ w.heap.size) := hide F.out.size
  have LB24 := hide (heap_alloc_new (w) (.cells #[.string ⟨#[]⟩, .int .i64 0, .slice none 0 0, .slice none 0 0] 92))
  have H24 := hide (H.out.below B24)
  have F24 := hide (F.out.trans (Fq.of_below B24))
  clear H F B24
  have C25 := hide (pred_any R L N s st _ 3 H24.out _ rfl)
  go_wp2_with fail
  refine C25.out.mono ?_
  intro e w25 he
  rcases he.split with ⟨a25, s25, v25, ho, rfl, hv, hR, hF⟩ | ⟨c, m, ho, rfl, hF⟩
  rotate_left 1
  · exact on_panic rfl (.of_bad (bind_no HO.out ho) (F24.out.trans hF))
  have HO25 := hide (bind_go HO.out ho)
  have q0 := hide (hF.loc LB24.out (Nat.ne_of_gt Q24.out))
  clear LB24
  have H25 := hide hR
  have F25 := hide (F24.out.trans hF)
  obtain ⟨kv25, vv25, rfl, q1, q2⟩ := hv
  obtain ⟨q3, q4, rfl⟩ := rows_form q1
  have q5 := hide (Strs.mono q1 fun g hg => Nat.le_trans F24.out.size hg)
  clear q1
  obtain ⟨q6, q7, rfl⟩ := rows_form q2
  have q8 := hide (Moneys.mono q2 fun g hg => Nat.le_trans F24.out.size hg)
  clear q2
  clear he ho hR hF C25 H24 F24 HO
  obtain ⟨q9, qa, qb, qc, y26⟩ := row4 q0.out
  have B27 : Below _ _ ((w25).alloc (.cells #[.string ⟨a25.name.toArray⟩, .int .i64 a25.sort, .slice q3 a25.kinds.length q4, .slice q6 a25.values.length q7] 92)) := (Below.refl _ _).alloc (Nat.le_refl _) _
  have Q27 : Hid (R < w25.heap.size) := hide H25.out.lt
  have G27 : Hid (w.heap.size ≤ w25.heap.size) := hide F25.out.size
  have qd : Hid (w.heap.size ≠ w25.heap.size) := hide (Nat.ne_of_lt (loc_lt q0.out))
  have qe : Hid (w25.heap.size ≠ w.heap.size) := hide (Nat.ne_of_gt (loc_lt q0.out))
  have qf := hide ((B27.block _ (loc_lt q0.out)).trans q0.out)
  clear q0
  have qg := hide (Strs.keep q5.out (Kp.of_below (T := [9]) B27) (by decide))
  clear q5
  have qh := hide (Moneys.keep q8.out (Kp.of_below (T := [93]) B27) (by decide))
  clear q8
  have LB27 := hide (heap_alloc_new (w25) (.cells #[.string ⟨a25.name.toArray⟩, .int .i64 a25.sort, .slice q3 a25.kinds.length q4, .slice q6 a25.values.length q7] 92))
  have H27 := hide (H25.out.below B27)
  have F27 := hide (F25.out.trans (Fq.of_below B27))
  clear H25 F25 B27
  have C28 := hide (wantMark_any R L N s25 st _ [58] H27.out _ rfl)
  go_wp2_with fail
  refine C28.out.mono ?_
  intro e w28 he
  rcases he.split with ⟨a28, s28, v28, ho, rfl, hv, hR, hF⟩ | ⟨c, m, ho, rfl, hF⟩
  rotate_left 1
  · exact on_panic rfl (.of_bad (bind_no HO25.out ho) (F27.out.trans hF))
  clear q9 qa qb qc y26
  have HO28 := hide (bind_go HO25.out ho)
  have qi := hide (hF.loc qf.out (Nat.ne_of_gt Q24.out))
  clear qf
  have qj := hide (hF.loc LB27.out (Nat.ne_of_gt Q27.out))
  clear LB27
  have qk := hide (Strs.keep qg.out (Kp.of_fq (T := [9]) hF H27.out (by decide)) (by decide))
  clear qg
  have ql := hide (Moneys.keep qh.out (Kp.of_fq (T := [93]) hF H27.out (by decide)) (by decide))
  clear qh
  have H28 := hide hR
  have F28 := hide (F27.out.trans hF)
  cases hv
  clear he ho hR hF C28 H27 F27 HO25
  obtain ⟨qm, qn, qo, qp, y29⟩ := row4 qi.out
  obtain ⟨qq, qr, qs, qt, y30⟩ := row4 qj.out
  have x31 := qd.out
  have x32 := qe.out
  have C33 := hide (list_money_money R L N s28 st _ (moneyM FN (kt L)) (fun s w h => money_any R L N s st w h _ rfl) (commaM (kt L)) (fun s w h => comma_any R L N s st w h _ rfl) (fun s a u => eats_money FN _ s a u) (fun s u => hasMark_eats) 64 H28.out _ rfl)
  go_wp2_with fail
  refine C33.out.mono ?_
  intro e w33 he
  rcases he.split with ⟨a33, s33, v33, ho, rfl, hv, hR, hF⟩ | ⟨c, m, ho, rfl, hF⟩
  rotate_left 1
  · exact on_panic rfl (.of_bad (bind_no HO28.out ho) (F28.out.trans hF))
  clear qm qn qo qp y29 qq qr qs qt y30 x31 x32
  have HO33 := hide (bind_go HO28.out ho)
  have qu := hide (hF.loc qi.out (Nat.ne_of_gt Q24.out))
  clear qi
  have qv := hide (hF.loc qj.out (Nat.ne_of_gt Q27.out))
  clear qj
  have qw := hide (Strs.keep qk.out (Kp.of_fq (T := [9]) hF H28.out (by decide)) (by decide))
  clear qk
  have qx := hide (Moneys.keep ql.out (Kp.of_fq (T := [93]) hF H28.out (by decide)) (by decide))
  clear ql
  have H33 := hide hR
  have F33 := hide (F28.out.trans hF)
  obtain ⟨p33, r33, rfl⟩ := rows_form hv
  have V33 := hide (Moneys.mono hv fun g hg => Nat.le_trans F28.out.size hg)
  clear hv
  clear he ho hR hF C33 H28 F28 HO28
  obtain ⟨qy, qz, qA, qB, y34⟩ := row4 qu.out
  obtain ⟨qC, qD, qE, qF, y35⟩ := row4 qv.out
  have x36 := qd.out
  have x37 := qe.out
  have qG := hide (Strs.keep qw.out (Kp.setLoc (T := [9]) (i := 3) (v := .slice p33 a33.length r33) qv.out (by decide)) (by decide))
  clear qw
  have qH := hide (Moneys.keep qx.out (Kp.setLoc (T := [93]) (i := 3) (v := .slice p33 a33.length r33) qv.out (by decide)) (by decide))
  clear qx
  have qI := hide (Moneys.keep V33.out (Kp.setLoc (T := [93]) (i := 3) (v := .slice p33 a33.length r33) qv.out (by decide)) (by decide))
  clear V33
  have qJ := hide (loc_other (p := ⟨w25.heap.size, 3, none⟩) (v := .slice p33 a33.length r33) qu.out (qd.out))
  have qK := hide (loc_set (i := 3) (v := .slice p33 a33.length r33) qv.out)
  clear qu qv
  have H38 := hide (H33.out.setLoc Q27.out 3 (.slice p33 a33.length r33))
  have F38 := hide (F33.out.setLoc G27.out 3 (.slice p33 a33.length r33))
  clear H33 F33
  go_wp2_with fail
  have hz := (And.intro qy (And.intro qz (And.intro qA (And.intro qB (And.intro y34 (And.intro qC (And.intro qD (And.intro qE (And.intro qF (And.intro y35 (And.intro x36 x37)))))))))))
  simp [bodyPost, results, Tryz.results77, go_sem, hz]
  have qL := hide (Strs.keep qG.out (Kp.setLoc (T := [9]) (i := 0) (v := .string ⟨a25.name.toArray⟩) qJ.out (by decide)) (by decide))
  clear qG
  have qM := hide (Moneys.keep qH.out (Kp.setLoc (T := [93]) (i := 0) (v := .string ⟨a25.name.toArray⟩) qJ.out (by decide)) (by decide))
  clear qH
  have qN := hide (Moneys.keep qI.out (Kp.setLoc (T := [93]) (i := 0) (v := .string ⟨a25.name.toArray⟩) qJ.out (by decide)) (by decide))
  clear qI
  have qO := hide (loc_set (i := 0) (v := .string ⟨a25.name.toArray⟩) qJ.out)
  have qP := hide (loc_other (p := ⟨w.heap.size, 0, none⟩) (v := .string ⟨a25.name.toArray⟩) qK.out (qe.out))
  clear qJ qK
  have H39 := hide (H38.out.setLoc Q24.out 0 (.string ⟨a25.name.toArray⟩))
  have F39 := hide (F38.out.setLoc G24.out 0 (.string ⟨a25.name.toArray⟩))
  clear H38 F38
  have qQ := hide (Strs.keep qL.out (Kp.setLoc (T := [9]) (i := 1) (v := .int .i64 a25.sort) qO.out (by decide)) (by decide))
  clear qL
  have qR := hide (Moneys.keep qM.out (Kp.setLoc (T := [93]) (i := 1) (v := .int .i64 a25.sort) qO.out (by decide)) (by decide))
  clear qM
  have qS := hide (Moneys.keep qN.out (Kp.setLoc (T := [93]) (i := 1) (v := .int .i64 a25.sort) qO.out (by decide)) (by decide))
  clear qN
  have qT := hide (loc_set (i := 1) (v := .int .i64 a25.sort) qO.out)
  have qU := hide (loc_other (p := ⟨w.heap.size, 1, none⟩) (v := .int .i64 a25.sort) qP.out (qe.out))
  clear qO qP
  have H40 := hide (H39.out.setLoc Q24.out 1 (.int .i64 a25.sort))
  have F40 := hide (F39.out.setLoc G24.out 1 (.int .i64 a25.sort))
  clear H39 F39
  have qV := hide (Strs.keep qQ.out (Kp.setLoc (T := [9]) (i := 2) (v := .slice q3 a25.kinds.length q4) qT.out (by decide)) (by decide))
  clear qQ
  have qW := hide (Moneys.keep qR.out (Kp.setLoc (T := [93]) (i := 2) (v := .slice q3 a25.kinds.length q4) qT.out (by decide)) (by decide))
  clear qR
  have qX := hide (Moneys.keep qS.out (Kp.setLoc (T := [93]) (i := 2) (v := .slice q3 a25.kinds.length q4) qT.out (by decide)) (by decide))
  clear qS
  have qY := hide (loc_set (i := 2) (v := .slice q3 a25.kinds.length q4) qT.out)
  have qZ := hide (loc_other (p := ⟨w.heap.size, 2, none⟩) (v := .slice q3 a25.kinds.length q4) qU.out (qe.out))
  clear qT qU
  have H41 := hide (H40.out.setLoc Q24.out 2 (.slice q3 a25.kinds.length q4))
  have F41 := hide (F40.out.setLoc G24.out 2 (.slice q3 a25.kinds.length q4))
  clear H40 F40
  have q10 := hide (Strs.keep qV.out (Kp.setLoc (T := [9]) (i := 3) (v := .slice p33 a33.length r33) qY.out (by decide)) (by decide))
  clear qV
  have q11 := hide (Moneys.keep qW.out (Kp.setLoc (T := [93]) (i := 3) (v := .slice p33 a33.length r33) qY.out (by decide)) (by decide))
  clear qW
  have q12 := hide (Moneys.keep qX.out (Kp.setLoc (T := [93]) (i := 3) (v := .slice p33 a33.length r33) qY.out (by decide)) (by decide))
  clear qX
  have q13 := hide (loc_set (i := 3) (v := .slice p33 a33.length r33) qY.out)
  have q14 := hide (loc_other (p := ⟨w.heap.size, 3, none⟩) (v := .slice p33 a33.length r33) qZ.out (qe.out))
  clear qY qZ
  have H42 := hide (H41.out.setLoc Q24.out 3 (.slice p33 a33.length r33))
  have F42 := hide (F41.out.setLoc G24.out 3 (.slice p33 a33.length r33))
  clear H41 F41
  exact .of_ok HO33.out (⟨_, _, rfl, q10.out, q12.out⟩) H42.out F42.out

set_option maxRecDepth 100000 in
set_option maxHeartbeats 1600000 in
theorem class_any (h : Rd R L N s st w) (o : Out (List Bytes)) (ho : classM (kt L) s = o) :
    Calls Tryz.prog 79 #[.pointer (some ⟨R, 0, none⟩)] w (Ends R L N st w (Strs (New w)) o) := by
  have HO := hide ho
  have H := hide h
  have F := hide (Fq.refl R w)
  clear h ho
  go_enter Tryz.func79, Tryz.ntmps79
  have C43 := hide (list_string_name R L N s st _ (nameM (kt L)) (fun s w h => name_any R L N s st w h _ rfl) (commaM (kt L)) (fun s w h => comma_any R L N s st w h _ rfl) (fun s a u => eats_name _ s a u) (fun s u => hasMark_eats) 16 H.out _ rfl)
  go_wp2_with fail
  refine C43.out.mono ?_
  intro e w43 he
  rcases he.split with ⟨a43, s43, v43, ho, rfl, hv, hR, hF⟩ | ⟨c, m, ho, rfl, hF⟩
  rotate_left 1
  · exact on_panic rfl (.of_bad (bind_no HO.out ho) (F.out.trans hF))
  have HO43 := hide (bind_go HO.out ho)
  have H43 := hide hR
  have F43 := hide (F.out.trans hF)
  obtain ⟨p43, r43, rfl⟩ := rows_form hv
  have V43 := hide (Strs.mono hv fun g hg => Nat.le_trans F.out.size hg)
  clear hv
  clear he ho hR hF C43 H F HO
  by_cases hl : a43.length = 1
  · have HO := hide (ite_t HO43.out (by simp [hl]))
    have hl' : ((a43.length : Nat) : Int) = 1 := by omega
    clear HO43
    have CF := hide (fail_any R L N s43 st _ H43.out 51)
    go_wp2_with fail
    refine CF.out.mono ?_
    rintro _ w9 ⟨rfl, hF⟩
    exact on_panic rfl (.of_bad HO.out (F43.out.trans hF))
  · have HO := hide (ite_f HO43.out (by simp [hl]))
    have hl' : ¬ ((a43.length : Nat) : Int) = 1 := by omega
    clear HO43
    go_wp2_with fail
    go_ret
    exact .of_ok HO.out V43.out H43.out F43.out

set_option maxRecDepth 100000 in
set_option maxHeartbeats 1600000 in
theorem source_any (h : Rd R L N s st w) (o : Out (Bytes × Int)) (ho : sourceM FN (kt L) s = o) :
    Calls Tryz.prog 81 #[.pointer (some ⟨R, 0, none⟩)] w (Ends R L N st w vSrc o) := by
  have HO := hide ho
  have H := hide h
  have F := hide (Fq.refl R w)
  clear h ho
  go_enter Tryz.func81, Tryz.ntmps81
  have B44 : Below _ _ ((w).alloc (.cells #[.string ⟨#[]⟩, .int .i64 0] 126)) := (Below.refl _ _).alloc (Nat.le_refl _) _
  have Q44 : Hid (R < w.heap.size) := hide H.out.lt
  have G44 : Hid (w.heap.size ≤ w.heap.size) := hide F.out.size
  have LB44 := hide (heap_alloc_new (w) (.cells #[.string ⟨#[]⟩, .int .i64 0] 126))
  have H44 := hide (H.out.below B44)
  have F44 := hide (F.out.trans (Fq.of_below B44))
  clear H F B44
  have C45 := hide (name_any R L N s st _ H44.out _ rfl)
  go_wp2_with fail
  refine C45.out.mono ?_
  intro e w45 he
  rcases he.split with ⟨a45, s45, v45, ho, rfl, hv, hR, hF⟩ | ⟨c, m, ho, rfl, hF⟩
  rotate_left 1
  · exact on_panic rfl (.of_bad (bind_no HO.out ho) (F44.out.trans hF))
  have HO45 := hide (bind_go HO.out ho)
  have q0 := hide (hF.loc LB44.out (Nat.ne_of_gt Q44.out))
  clear LB44
  have H45 := hide hR
  have F45 := hide (F44.out.trans hF)
  cases hv
  clear he ho hR hF C45 H44 F44 HO
  obtain ⟨q1, q2, y46⟩ := row2 q0.out
  have C47 := hide (wantWord_any R L N s45 st _ [114, 97, 110, 107] H45.out _ rfl)
  go_wp2_with fail
  refine C47.out.mono ?_
  intro e w47 he
  rcases he.split with ⟨a47, s47, v47, ho, rfl, hv, hR, hF⟩ | ⟨c, m, ho, rfl, hF⟩
  rotate_left 1
  · exact on_panic rfl (.of_bad (bind_no HO45.out ho) (F45.out.trans hF))
  clear q1 q2 y46
  have HO47 := hide (bind_go HO45.out ho)
  have q3 := hide (hF.loc q0.out (Nat.ne_of_gt Q44.out))
  clear q0
  have H47 := hide hR
  have F47 := hide (F45.out.trans hF)
  cases hv
  clear he ho hR hF C47 H45 F45 HO45
  obtain ⟨q4, q5, y48⟩ := row2 q3.out
  have C49 := hide (int_any R L N s47 st _ 0 1000 H47.out _ rfl)
  go_wp2_with fail
  refine C49.out.mono ?_
  intro e w49 he
  rcases he.split with ⟨a49, s49, v49, ho, rfl, hv, hR, hF⟩ | ⟨c, m, ho, rfl, hF⟩
  rotate_left 1
  · exact on_panic rfl (.of_bad (bind_no HO47.out ho) (F47.out.trans hF))
  clear q4 q5 y48
  have HO49 := hide (bind_go HO47.out ho)
  have q6 := hide (hF.loc q3.out (Nat.ne_of_gt Q44.out))
  clear q3
  have H49 := hide hR
  have F49 := hide (F47.out.trans hF)
  cases hv
  clear he ho hR hF C49 H47 F47 HO47
  obtain ⟨q7, q8, y50⟩ := row2 q6.out
  go_wp2_with fail
  have hz := (And.intro q7 (And.intro q8 y50))
  simp [bodyPost, results, Tryz.results81, go_sem, hz]
  have q9 := hide (loc_set (i := 0) (v := .string ⟨a45.toArray⟩) q6.out)
  clear q6
  have H51 := hide (H49.out.setLoc Q44.out 0 (.string ⟨a45.toArray⟩))
  have F51 := hide (F49.out.setLoc G44.out 0 (.string ⟨a45.toArray⟩))
  clear H49 F49
  have qa := hide (loc_set (i := 1) (v := .int .i64 a49) q9.out)
  clear q9
  have H52 := hide (H51.out.setLoc Q44.out 1 (.int .i64 a49))
  have F52 := hide (F51.out.setLoc G44.out 1 (.int .i64 a49))
  clear H51 F51
  exact .of_ok HO49.out (rfl) H52.out F52.out

set_option maxRecDepth 100000 in
set_option maxHeartbeats 1600000 in
theorem exception_any (h : Rd R L N s st w) (o : Out (Bytes × Bytes)) (ho : exceptionM (kt L) s = o) :
    Calls Tryz.prog 85 #[.pointer (some ⟨R, 0, none⟩)] w (Ends R L N st w vM o) := by
  have HO := hide ho
  have H := hide h
  have F := hide (Fq.refl R w)
  clear h ho
  go_enter Tryz.func85, Tryz.ntmps85
  have B53 : Below _ _ ((w).alloc (.cells #[.string ⟨#[]⟩, .string ⟨#[]⟩] 128)) := (Below.refl _ _).alloc (Nat.le_refl _) _
  have Q53 : Hid (R < w.heap.size) := hide H.out.lt
  have G53 : Hid (w.heap.size ≤ w.heap.size) := hide F.out.size
  have LB53 := hide (heap_alloc_new (w) (.cells #[.string ⟨#[]⟩, .string ⟨#[]⟩] 128))
  have H53 := hide (H.out.below B53)
  have F53 := hide (F.out.trans (Fq.of_below B53))
  clear H F B53
  have C54 := hide (name_any R L N s st _ H53.out _ rfl)
  go_wp2_with fail
  refine C54.out.mono ?_
  intro e w54 he
  rcases he.split with ⟨a54, s54, v54, ho, rfl, hv, hR, hF⟩ | ⟨c, m, ho, rfl, hF⟩
  rotate_left 1
  · exact on_panic rfl (.of_bad (bind_no HO.out ho) (F53.out.trans hF))
  have HO54 := hide (bind_go HO.out ho)
  have q0 := hide (hF.loc LB53.out (Nat.ne_of_gt Q53.out))
  clear LB53
  have H54 := hide hR
  have F54 := hide (F53.out.trans hF)
  cases hv
  clear he ho hR hF C54 H53 F53 HO
  obtain ⟨q1, q2, y55⟩ := row2 q0.out
  have C56 := hide (wantWord_any R L N s54 st _ [116, 111] H54.out _ rfl)
  go_wp2_with fail
  refine C56.out.mono ?_
  intro e w56 he
  rcases he.split with ⟨a56, s56, v56, ho, rfl, hv, hR, hF⟩ | ⟨c, m, ho, rfl, hF⟩
  rotate_left 1
  · exact on_panic rfl (.of_bad (bind_no HO54.out ho) (F54.out.trans hF))
  clear q1 q2 y55
  have HO56 := hide (bind_go HO54.out ho)
  have q3 := hide (hF.loc q0.out (Nat.ne_of_gt Q53.out))
  clear q0
  have H56 := hide hR
  have F56 := hide (F54.out.trans hF)
  cases hv
  clear he ho hR hF C56 H54 F54 HO54
  obtain ⟨q4, q5, y57⟩ := row2 q3.out
  have C58 := hide (name_any R L N s56 st _ H56.out _ rfl)
  go_wp2_with fail
  refine C58.out.mono ?_
  intro e w58 he
  rcases he.split with ⟨a58, s58, v58, ho, rfl, hv, hR, hF⟩ | ⟨c, m, ho, rfl, hF⟩
  rotate_left 1
  · exact on_panic rfl (.of_bad (bind_no HO56.out ho) (F56.out.trans hF))
  clear q4 q5 y57
  have HO58 := hide (bind_go HO56.out ho)
  have q6 := hide (hF.loc q3.out (Nat.ne_of_gt Q53.out))
  clear q3
  have H58 := hide hR
  have F58 := hide (F56.out.trans hF)
  cases hv
  clear he ho hR hF C58 H56 F56 HO56
  obtain ⟨q7, q8, y59⟩ := row2 q6.out
  go_wp2_with fail
  have hz := (And.intro q7 (And.intro q8 y59))
  simp [bodyPost, results, Tryz.results85, go_sem, hz]
  have q9 := hide (loc_set (i := 0) (v := .string ⟨a54.toArray⟩) q6.out)
  clear q6
  have H60 := hide (H58.out.setLoc Q53.out 0 (.string ⟨a54.toArray⟩))
  have F60 := hide (F58.out.setLoc G53.out 0 (.string ⟨a54.toArray⟩))
  clear H58 F58
  have qa := hide (loc_set (i := 1) (v := .string ⟨a58.toArray⟩) q9.out)
  clear q9
  have H61 := hide (H60.out.setLoc Q53.out 1 (.string ⟨a58.toArray⟩))
  have F61 := hide (F60.out.setLoc G53.out 1 (.string ⟨a58.toArray⟩))
  clear H60 F60
  exact .of_ok HO58.out (rfl) H61.out F61.out

set_option maxRecDepth 100000 in
set_option maxHeartbeats 1600000 in
theorem total_any (h : Rd R L N s st w) (o : Out TotalM) (ho : totalM FN (kt L) s = o) :
    Calls Tryz.prog 87 #[.pointer (some ⟨R, 0, none⟩)] w (Ends R L N st w (vTotal (New w)) o) := by
  have HO := hide ho
  have H := hide h
  have F := hide (Fq.refl R w)
  clear h ho
  go_enter Tryz.func87, Tryz.ntmps87
  have B62 : Below _ _ ((w).alloc (.cells #[.string ⟨#[]⟩, .string ⟨#[]⟩, .slice none 0 0, .bool false, .int .i64 0] 111)) := (Below.refl _ _).alloc (Nat.le_refl _) _
  have Q62 : Hid (R < w.heap.size) := hide H.out.lt
  have G62 : Hid (w.heap.size ≤ w.heap.size) := hide F.out.size
  have LB62 := hide (heap_alloc_new (w) (.cells #[.string ⟨#[]⟩, .string ⟨#[]⟩, .slice none 0 0, .bool false, .int .i64 0] 111))
  have H62 := hide (H.out.below B62)
  have F62 := hide (F.out.trans (Fq.of_below B62))
  clear H F B62
  have C63 := hide (name_any R L N s st _ H62.out _ rfl)
  go_wp2_with fail
  refine C63.out.mono ?_
  intro e w63 he
  rcases he.split with ⟨a63, s63, v63, ho, rfl, hv, hR, hF⟩ | ⟨c, m, ho, rfl, hF⟩
  rotate_left 1
  · exact on_panic rfl (.of_bad (bind_no HO.out ho) (F62.out.trans hF))
  have HO63 := hide (bind_go HO.out ho)
  have q0 := hide (hF.loc LB62.out (Nat.ne_of_gt Q62.out))
  clear LB62
  have H63 := hide hR
  have F63 := hide (F62.out.trans hF)
  cases hv
  clear he ho hR hF C63 H62 F62 HO
  obtain ⟨q1, q2, q3, q4, q5, y64⟩ := row5 q0.out
  have B65 : Below _ _ ((w63).alloc (.cells #[.string ⟨a63.toArray⟩, .string ⟨#[]⟩, .slice none 0 0, .bool false, .int .i64 0] 111)) := (Below.refl _ _).alloc (Nat.le_refl _) _
  have Q65 : Hid (R < w63.heap.size) := hide H63.out.lt
  have G65 : Hid (w.heap.size ≤ w63.heap.size) := hide F63.out.size
  have q6 : Hid (w.heap.size ≠ w63.heap.size) := hide (Nat.ne_of_lt (loc_lt q0.out))
  have q7 : Hid (w63.heap.size ≠ w.heap.size) := hide (Nat.ne_of_gt (loc_lt q0.out))
  have q8 := hide ((B65.block _ (loc_lt q0.out)).trans q0.out)
  clear q0
  have LB65 := hide (heap_alloc_new (w63) (.cells #[.string ⟨a63.toArray⟩, .string ⟨#[]⟩, .slice none 0 0, .bool false, .int .i64 0] 111))
  have H65 := hide (H63.out.below B65)
  have F65 := hide (F63.out.trans (Fq.of_below B65))
  clear H63 F63 B65
  have C66 := hide (wantMark_any R L N s63 st _ [40] H65.out _ rfl)
  go_wp2_with fail
  refine C66.out.mono ?_
  intro e w66 he
  rcases he.split with ⟨a66, s66, v66, ho, rfl, hv, hR, hF⟩ | ⟨c, m, ho, rfl, hF⟩
  rotate_left 1
  · exact on_panic rfl (.of_bad (bind_no HO63.out ho) (F65.out.trans hF))
  clear q1 q2 q3 q4 q5 y64
  have HO66 := hide (bind_go HO63.out ho)
  have q9 := hide (hF.loc q8.out (Nat.ne_of_gt Q62.out))
  clear q8
  have qa := hide (hF.loc LB65.out (Nat.ne_of_gt Q65.out))
  clear LB65
  have H66 := hide hR
  have F66 := hide (F65.out.trans hF)
  cases hv
  clear he ho hR hF C66 H65 F65 HO63
  obtain ⟨qb, qc, qd, qe, qf, y67⟩ := row5 q9.out
  obtain ⟨qg, qh, qi, qj, qk, y68⟩ := row5 qa.out
  have x69 := q6.out
  have x70 := q7.out
  have C71 := hide (name_any R L N s66 st _ H66.out _ rfl)
  go_wp2_with fail
  refine C71.out.mono ?_
  intro e w71 he
  rcases he.split with ⟨a71, s71, v71, ho, rfl, hv, hR, hF⟩ | ⟨c, m, ho, rfl, hF⟩
  rotate_left 1
  · exact on_panic rfl (.of_bad (bind_no HO66.out ho) (F66.out.trans hF))
  clear qb qc qd qe qf y67 qg qh qi qj qk y68 x69 x70
  have HO71 := hide (bind_go HO66.out ho)
  have ql := hide (hF.loc q9.out (Nat.ne_of_gt Q62.out))
  clear q9
  have qm := hide (hF.loc qa.out (Nat.ne_of_gt Q65.out))
  clear qa
  have H71 := hide hR
  have F71 := hide (F66.out.trans hF)
  cases hv
  clear he ho hR hF C71 H66 F66 HO66
  obtain ⟨qn, qo, qp, qq, qr, y72⟩ := row5 ql.out
  obtain ⟨qs, qt, qu, qv, qw, y73⟩ := row5 qm.out
  have x74 := q6.out
  have x75 := q7.out
  have qx := hide (loc_other (p := ⟨w63.heap.size, 1, none⟩) (v := .string ⟨a71.toArray⟩) ql.out (q6.out))
  have qy := hide (loc_set (i := 1) (v := .string ⟨a71.toArray⟩) qm.out)
  clear ql qm
  have H76 := hide (H71.out.setLoc Q65.out 1 (.string ⟨a71.toArray⟩))
  have F76 := hide (F71.out.setLoc G65.out 1 (.string ⟨a71.toArray⟩))
  clear H71 F71
  have C77 := hide (wantMark_any R L N s71 st _ [41] H76.out _ rfl)
  go_wp2_with fail
  refine C77.out.mono ?_
  intro e w77 he
  rcases he.split with ⟨a77, s77, v77, ho, rfl, hv, hR, hF⟩ | ⟨c, m, ho, rfl, hF⟩
  rotate_left 1
  · exact on_panic rfl (.of_bad (bind_no HO71.out ho) (F76.out.trans hF))
  clear qn qo qp qq qr y72 qs qt qu qv qw y73 x74 x75
  have HO77 := hide (bind_go HO71.out ho)
  have qz := hide (hF.loc qx.out (Nat.ne_of_gt Q62.out))
  clear qx
  have qA := hide (hF.loc qy.out (Nat.ne_of_gt Q65.out))
  clear qy
  have H77 := hide hR
  have F77 := hide (F76.out.trans hF)
  cases hv
  clear he ho hR hF C77 H76 F76 HO71
  obtain ⟨qB, qC, qD, qE, qF, y78⟩ := row5 qz.out
  obtain ⟨qG, qH, qI, qJ, qK, y79⟩ := row5 qA.out
  have x80 := q6.out
  have x81 := q7.out
  have C82 := hide (wantMark_any R L N s77 st _ [58] H77.out _ rfl)
  go_wp2_with fail
  refine C82.out.mono ?_
  intro e w82 he
  rcases he.split with ⟨a82, s82, v82, ho, rfl, hv, hR, hF⟩ | ⟨c, m, ho, rfl, hF⟩
  rotate_left 1
  · exact on_panic rfl (.of_bad (bind_no HO77.out ho) (F77.out.trans hF))
  clear qB qC qD qE qF y78 qG qH qI qJ qK y79 x80 x81
  have HO82 := hide (bind_go HO77.out ho)
  have qL := hide (hF.loc qz.out (Nat.ne_of_gt Q62.out))
  clear qz
  have qM := hide (hF.loc qA.out (Nat.ne_of_gt Q65.out))
  clear qA
  have H82 := hide hR
  have F82 := hide (F77.out.trans hF)
  cases hv
  clear he ho hR hF C82 H77 F77 HO77
  obtain ⟨qN, qO, qP, qQ, qR, y83⟩ := row5 qL.out
  obtain ⟨qS, qT, qU, qV, qW, y84⟩ := row5 qM.out
  have x85 := q6.out
  have x86 := q7.out
  have C87 := hide (list_string_name R L N s82 st _ (nameM (kt L)) (fun s w h => name_any R L N s st w h _ rfl) (commaM (kt L)) (fun s w h => comma_any R L N s st w h _ rfl) (fun s a u => eats_name _ s a u) (fun s u => hasMark_eats) 16 H82.out _ rfl)
  go_wp2_with fail
  refine C87.out.mono ?_
  intro e w87 he
  rcases he.split with ⟨a87, s87, v87, ho, rfl, hv, hR, hF⟩ | ⟨c, m, ho, rfl, hF⟩
  rotate_left 1
  · exact on_panic rfl (.of_bad (bind_no HO82.out ho) (F82.out.trans hF))
  clear qN qO qP qQ qR y83 qS qT qU qV qW y84 x85 x86
  have HO87 := hide (bind_go HO82.out ho)
  have qX := hide (hF.loc qL.out (Nat.ne_of_gt Q62.out))
  clear qL
  have qY := hide (hF.loc qM.out (Nat.ne_of_gt Q65.out))
  clear qM
  have H87 := hide hR
  have F87 := hide (F82.out.trans hF)
  obtain ⟨p87, r87, rfl⟩ := rows_form hv
  have V87 := hide (Strs.mono hv fun g hg => Nat.le_trans F82.out.size hg)
  clear hv
  clear he ho hR hF C87 H82 F82 HO82
  obtain ⟨qZ, q10, q11, q12, q13, y88⟩ := row5 qX.out
  obtain ⟨q14, q15, q16, q17, q18, y89⟩ := row5 qY.out
  have x90 := q6.out
  have x91 := q7.out
  have q19 := hide (Strs.keep V87.out (Kp.setLoc (T := [9]) (i := 2) (v := .slice p87 a87.length r87) qY.out (by decide)) (by decide))
  clear V87
  have q1a := hide (loc_other (p := ⟨w63.heap.size, 2, none⟩) (v := .slice p87 a87.length r87) qX.out (q6.out))
  have q1b := hide (loc_set (i := 2) (v := .slice p87 a87.length r87) qY.out)
  clear qX qY
  have H92 := hide (H87.out.setLoc Q65.out 2 (.slice p87 a87.length r87))
  have F92 := hide (F87.out.setLoc G65.out 2 (.slice p87 a87.length r87))
  clear H87 F87
  have C93 := hide (hasWord_any R L N s87 st _ [99, 97, 112] H92.out _ rfl)
  go_wp2_with fail
  refine C93.out.mono ?_
  intro e w93 he
  rcases he.split with ⟨a93, s93, v93, ho, rfl, hv, hR, hF⟩ | ⟨c, m, ho, rfl, hF⟩
  rotate_left 1
  · exact on_panic rfl (.of_bad (bind_no HO87.out ho) (F92.out.trans hF))
  clear qZ q10 q11 q12 q13 y88 q14 q15 q16 q17 q18 y89 x90 x91
  have HO93 := hide (bind_go HO87.out ho)
  have q1c := hide (hF.loc q1a.out (Nat.ne_of_gt Q62.out))
  clear q1a
  have q1d := hide (hF.loc q1b.out (Nat.ne_of_gt Q65.out))
  clear q1b
  have q1e := hide (Strs.keep q19.out (Kp.of_fq (T := [9]) hF H92.out (by decide)) (by decide))
  clear q19
  have H93 := hide hR
  have F93 := hide (F92.out.trans hF)
  cases hv
  clear he ho hR hF C93 H92 F92 HO87
  obtain ⟨q1f, q1g, q1h, q1i, q1j, y94⟩ := row5 q1c.out
  obtain ⟨q1k, q1l, q1m, q1n, q1o, y95⟩ := row5 q1d.out
  have x96 := q6.out
  have x97 := q7.out
  cases a93 with
  | false =>
    have HO := hide (ite_f HO93.out rfl)
    go_wp2_with fail
    have hz := (And.intro q1f (And.intro q1g (And.intro q1h (And.intro q1i (And.intro q1j (And.intro y94 (And.intro q1k (And.intro q1l (And.intro q1m (And.intro q1n (And.intro q1o (And.intro y95 (And.intro x96 x97)))))))))))))
    simp [bodyPost, results, Tryz.results87, go_sem, hz]
    have q1p := hide (Strs.keep q1e.out (Kp.setLoc (T := [9]) (i := 0) (v := .string ⟨a63.toArray⟩) q1c.out (by decide)) (by decide))
    clear q1e
    have q1q := hide (loc_set (i := 0) (v := .string ⟨a63.toArray⟩) q1c.out)
    have q1r := hide (loc_other (p := ⟨w.heap.size, 0, none⟩) (v := .string ⟨a63.toArray⟩) q1d.out (q7.out))
    clear q1c q1d
    have H98 := hide (H93.out.setLoc Q62.out 0 (.string ⟨a63.toArray⟩))
    have F98 := hide (F93.out.setLoc G62.out 0 (.string ⟨a63.toArray⟩))
    clear H93 F93
    have q1s := hide (Strs.keep q1p.out (Kp.setLoc (T := [9]) (i := 1) (v := .string ⟨a71.toArray⟩) q1q.out (by decide)) (by decide))
    clear q1p
    have q1t := hide (loc_set (i := 1) (v := .string ⟨a71.toArray⟩) q1q.out)
    have q1u := hide (loc_other (p := ⟨w.heap.size, 1, none⟩) (v := .string ⟨a71.toArray⟩) q1r.out (q7.out))
    clear q1q q1r
    have H99 := hide (H98.out.setLoc Q62.out 1 (.string ⟨a71.toArray⟩))
    have F99 := hide (F98.out.setLoc G62.out 1 (.string ⟨a71.toArray⟩))
    clear H98 F98
    have q1v := hide (Strs.keep q1s.out (Kp.setLoc (T := [9]) (i := 2) (v := .slice p87 a87.length r87) q1t.out (by decide)) (by decide))
    clear q1s
    have q1w := hide (loc_set (i := 2) (v := .slice p87 a87.length r87) q1t.out)
    have q1x := hide (loc_other (p := ⟨w.heap.size, 2, none⟩) (v := .slice p87 a87.length r87) q1u.out (q7.out))
    clear q1t q1u
    have H100 := hide (H99.out.setLoc Q62.out 2 (.slice p87 a87.length r87))
    have F100 := hide (F99.out.setLoc G62.out 2 (.slice p87 a87.length r87))
    clear H99 F99
    have q1y := hide (Strs.keep q1v.out (Kp.setLoc (T := [9]) (i := 3) (v := .bool false) q1w.out (by decide)) (by decide))
    clear q1v
    have q1z := hide (loc_set (i := 3) (v := .bool false) q1w.out)
    have q1A := hide (loc_other (p := ⟨w.heap.size, 3, none⟩) (v := .bool false) q1x.out (q7.out))
    clear q1w q1x
    have H101 := hide (H100.out.setLoc Q62.out 3 (.bool false))
    have F101 := hide (F100.out.setLoc G62.out 3 (.bool false))
    clear H100 F100
    have q1B := hide (Strs.keep q1y.out (Kp.setLoc (T := [9]) (i := 4) (v := .int .i64 0) q1z.out (by decide)) (by decide))
    clear q1y
    have q1C := hide (loc_set (i := 4) (v := .int .i64 0) q1z.out)
    have q1D := hide (loc_other (p := ⟨w.heap.size, 4, none⟩) (v := .int .i64 0) q1A.out (q7.out))
    clear q1z q1A
    have H102 := hide (H101.out.setLoc Q62.out 4 (.int .i64 0))
    have F102 := hide (F101.out.setLoc G62.out 4 (.int .i64 0))
    clear H101 F101
    exact .of_ok HO.out (⟨_, rfl, q1B.out⟩) H102.out F102.out
  | true =>
    have HO := hide (ite_t HO93.out rfl)
    have q1E := hide (Strs.keep q1e.out (Kp.setLoc (T := [9]) (i := 3) (v := .bool true) q1d.out (by decide)) (by decide))
    clear q1e
    have q1F := hide (loc_other (p := ⟨w63.heap.size, 3, none⟩) (v := .bool true) q1c.out (q6.out))
    have q1G := hide (loc_set (i := 3) (v := .bool true) q1d.out)
    clear q1c q1d
    have H103 := hide (H93.out.setLoc Q65.out 3 (.bool true))
    have F103 := hide (F93.out.setLoc G65.out 3 (.bool true))
    clear H93 F93
    have C104 := hide (money_any R L N s93 st _ H103.out _ rfl)
    go_wp2_with fail
    refine C104.out.mono ?_
    intro e w104 he
    rcases he.split with ⟨a104, s104, v104, ho, rfl, hv, hR, hF⟩ | ⟨c, m, ho, rfl, hF⟩
    rotate_left 1
    · exact on_panic rfl (.of_bad (bind_no HO.out ho) (F103.out.trans hF))
    clear q1f q1g q1h q1i q1j y94 q1k q1l q1m q1n q1o y95 x96 x97
    have HO104 := hide (bind_go HO.out ho)
    have q1H := hide (hF.loc q1F.out (Nat.ne_of_gt Q62.out))
    clear q1F
    have q1I := hide (hF.loc q1G.out (Nat.ne_of_gt Q65.out))
    clear q1G
    have q1J := hide (Strs.keep q1E.out (Kp.of_fq (T := [9]) hF H103.out (by decide)) (by decide))
    clear q1E
    have H104 := hide hR
    have F104 := hide (F103.out.trans hF)
    cases hv
    clear he ho hR hF C104 H103 F103 HO
    obtain ⟨q1K, q1L, q1M, q1N, q1O, y105⟩ := row5 q1H.out
    obtain ⟨q1P, q1Q, q1R, q1S, q1T, y106⟩ := row5 q1I.out
    have x107 := q6.out
    have x108 := q7.out
    have q1U := hide (Strs.keep q1J.out (Kp.setLoc (T := [9]) (i := 4) (v := .int .i64 a104) q1I.out (by decide)) (by decide))
    clear q1J
    have q1V := hide (loc_other (p := ⟨w63.heap.size, 4, none⟩) (v := .int .i64 a104) q1H.out (q6.out))
    have q1W := hide (loc_set (i := 4) (v := .int .i64 a104) q1I.out)
    clear q1H q1I
    have H109 := hide (H104.out.setLoc Q65.out 4 (.int .i64 a104))
    have F109 := hide (F104.out.setLoc G65.out 4 (.int .i64 a104))
    clear H104 F104
    go_wp2_with fail
    have hz := (And.intro q1K (And.intro q1L (And.intro q1M (And.intro q1N (And.intro q1O (And.intro y105 (And.intro q1P (And.intro q1Q (And.intro q1R (And.intro q1S (And.intro q1T (And.intro y106 (And.intro x107 x108)))))))))))))
    simp [bodyPost, results, Tryz.results87, go_sem, hz]
    have q1X := hide (Strs.keep q1U.out (Kp.setLoc (T := [9]) (i := 0) (v := .string ⟨a63.toArray⟩) q1V.out (by decide)) (by decide))
    clear q1U
    have q1Y := hide (loc_set (i := 0) (v := .string ⟨a63.toArray⟩) q1V.out)
    have q1Z := hide (loc_other (p := ⟨w.heap.size, 0, none⟩) (v := .string ⟨a63.toArray⟩) q1W.out (q7.out))
    clear q1V q1W
    have H110 := hide (H109.out.setLoc Q62.out 0 (.string ⟨a63.toArray⟩))
    have F110 := hide (F109.out.setLoc G62.out 0 (.string ⟨a63.toArray⟩))
    clear H109 F109
    have q20 := hide (Strs.keep q1X.out (Kp.setLoc (T := [9]) (i := 1) (v := .string ⟨a71.toArray⟩) q1Y.out (by decide)) (by decide))
    clear q1X
    have q21 := hide (loc_set (i := 1) (v := .string ⟨a71.toArray⟩) q1Y.out)
    have q22 := hide (loc_other (p := ⟨w.heap.size, 1, none⟩) (v := .string ⟨a71.toArray⟩) q1Z.out (q7.out))
    clear q1Y q1Z
    have H111 := hide (H110.out.setLoc Q62.out 1 (.string ⟨a71.toArray⟩))
    have F111 := hide (F110.out.setLoc G62.out 1 (.string ⟨a71.toArray⟩))
    clear H110 F110
    have q23 := hide (Strs.keep q20.out (Kp.setLoc (T := [9]) (i := 2) (v := .slice p87 a87.length r87) q21.out (by decide)) (by decide))
    clear q20
    have q24 := hide (loc_set (i := 2) (v := .slice p87 a87.length r87) q21.out)
    have q25 := hide (loc_other (p := ⟨w.heap.size, 2, none⟩) (v := .slice p87 a87.length r87) q22.out (q7.out))
    clear q21 q22
    have H112 := hide (H111.out.setLoc Q62.out 2 (.slice p87 a87.length r87))
    have F112 := hide (F111.out.setLoc G62.out 2 (.slice p87 a87.length r87))
    clear H111 F111
    have q26 := hide (Strs.keep q23.out (Kp.setLoc (T := [9]) (i := 3) (v := .bool true) q24.out (by decide)) (by decide))
    clear q23
    have q27 := hide (loc_set (i := 3) (v := .bool true) q24.out)
    have q28 := hide (loc_other (p := ⟨w.heap.size, 3, none⟩) (v := .bool true) q25.out (q7.out))
    clear q24 q25
    have H113 := hide (H112.out.setLoc Q62.out 3 (.bool true))
    have F113 := hide (F112.out.setLoc G62.out 3 (.bool true))
    clear H112 F112
    have q29 := hide (Strs.keep q26.out (Kp.setLoc (T := [9]) (i := 4) (v := .int .i64 a104) q27.out (by decide)) (by decide))
    clear q26
    have q2a := hide (loc_set (i := 4) (v := .int .i64 a104) q27.out)
    have q2b := hide (loc_other (p := ⟨w.heap.size, 4, none⟩) (v := .int .i64 a104) q28.out (q7.out))
    clear q27 q28
    have H114 := hide (H113.out.setLoc Q62.out 4 (.int .i64 a104))
    have F114 := hide (F113.out.setLoc G62.out 4 (.int .i64 a104))
    clear H113 F113
    exact .of_ok HO104.out (⟨_, rfl, q29.out⟩) H114.out F114.out

end
end Go.Proofs.YthnjmfkiohgkkaaGreatDoor.Sy
