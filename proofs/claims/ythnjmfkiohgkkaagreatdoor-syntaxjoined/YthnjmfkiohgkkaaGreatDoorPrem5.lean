/- Premises and rules. By program. -/
import Derived.Test.YthnjmfkiohgkkaaGreatDoorGuard5
namespace Go.Proofs.YthnjmfkiohgkkaaGreatDoor.Sy
open Go.RowKit

section
variable (R : Nat) (L : List Tok) (N : Nat) (s : RS) (st : St9) (w : World)

set_option maxRecDepth 100000 in
set_option maxHeartbeats 1600000 in
theorem unlike_any (h : Rd R L N s st w) (o : Out PremM) (ho : unlikeM (kt L) s = o) :
    Calls Tryz.prog 157 #[.pointer (some ⟨R, 0, none⟩)] w (Ends R L N st w (vPrem (New w)) o) := by
  have HO := hide ho
  have H := hide h
  have F := hide (Fq.refl R w)
  clear h ho
  go_enter Tryz.func157, Tryz.ntmps157
  have B1 : Below _ _ ((w).alloc (.cells #[.int .i64 0, .bool false, .string ⟨#[]⟩, .slice none 0 0, .bool false, .int .i64 0, .slice none 0 0, .int .i64 0, .slice none 0 0, .string ⟨#[]⟩, .string ⟨#[]⟩] 107)) := (Below.refl _ _).alloc (Nat.le_refl _) _
  have Q1 : Hid (R < w.heap.size) := hide H.out.lt
  have G1 : Hid (w.heap.size ≤ w.heap.size) := hide F.out.size
  have LB1 := hide (heap_alloc_new (w) (.cells #[.int .i64 0, .bool false, .string ⟨#[]⟩, .slice none 0 0, .bool false, .int .i64 0, .slice none 0 0, .int .i64 0, .slice none 0 0, .string ⟨#[]⟩, .string ⟨#[]⟩] 107))
  have H1 := hide (H.out.below B1)
  have F1 := hide (F.out.trans (Fq.of_below B1))
  clear H F B1
  have C2 := hide (arg_any R L N s st _ H1.out _ rfl)
  go_wp2_with fail
  refine C2.out.mono ?_
  intro e w2 he
  rcases he.split with ⟨a2, s2, v2, ho, rfl, hv, hR, hF⟩ | ⟨c, m, ho, rfl, hF⟩
  rotate_left 1
  · exact on_panic rfl (.of_bad (bind_no HO.out ho) (F1.out.trans hF))
  have HO2 := hide (bind_go HO.out ho)
  have q0 := hide (hF.loc LB1.out (Nat.ne_of_gt Q1.out))
  clear LB1
  have H2 := hide hR
  have F2 := hide (F1.out.trans hF)
  cases hv
  clear he ho hR hF C2 H1 F1 HO
  obtain ⟨q1, q2, q3, q4, q5, q6, q7, q8, q9, qa, qb, y3⟩ := row11 q0.out
  have C4 := hide (wantMark_any R L N s2 st _ [33, 61] H2.out _ rfl)
  go_wp2_with fail
  refine C4.out.mono ?_
  intro e w4 he
  rcases he.split with ⟨a4, s4, v4, ho, rfl, hv, hR, hF⟩ | ⟨c, m, ho, rfl, hF⟩
  rotate_left 1
  · exact on_panic rfl (.of_bad (bind_no HO2.out ho) (F2.out.trans hF))
  clear q1 q2 q3 q4 q5 q6 q7 q8 q9 qa qb y3
  have HO4 := hide (bind_go HO2.out ho)
  have qc := hide (hF.loc q0.out (Nat.ne_of_gt Q1.out))
  clear q0
  have H4 := hide hR
  have F4 := hide (F2.out.trans hF)
  cases hv
  clear he ho hR hF C4 H2 F2 HO2
  obtain ⟨qd, qe, qf, qg, qh, qi, qj, qk, ql, qm, qn, y5⟩ := row11 qc.out
  have C6 := hide (arg_any R L N s4 st _ H4.out _ rfl)
  go_wp2_with fail
  refine C6.out.mono ?_
  intro e w6 he
  rcases he.split with ⟨a6, s6, v6, ho, rfl, hv, hR, hF⟩ | ⟨c, m, ho, rfl, hF⟩
  rotate_left 1
  · exact on_panic rfl (.of_bad (bind_no HO4.out ho) (F4.out.trans hF))
  clear qd qe qf qg qh qi qj qk ql qm qn y5
  have HO6 := hide (bind_go HO4.out ho)
  have qo := hide (hF.loc qc.out (Nat.ne_of_gt Q1.out))
  clear qc
  have H6 := hide hR
  have F6 := hide (F4.out.trans hF)
  cases hv
  clear he ho hR hF C6 H4 F4 HO4
  obtain ⟨qp, qq, qr, qs, qt, qu, qv, qw, qx, qy, qz, y7⟩ := row11 qo.out
  go_wp2_with fail
  have hz := (And.intro qp (And.intro qq (And.intro qr (And.intro qs (And.intro qt (And.intro qu (And.intro qv (And.intro qw (And.intro qx (And.intro qy (And.intro qz y7)))))))))))
  simp [bodyPost, results, Tryz.results157, go_sem, hz]
  have qA := hide (loc_set (i := 0) (v := .int .i64 3) qo.out)
  clear qo
  have H8 := hide (H6.out.setLoc Q1.out 0 (.int .i64 3))
  have F8 := hide (F6.out.setLoc G1.out 0 (.int .i64 3))
  clear H6 F6
  have qB := hide (loc_set (i := 1) (v := .bool false) qA.out)
  clear qA
  have H9 := hide (H8.out.setLoc Q1.out 1 (.bool false))
  have F9 := hide (F8.out.setLoc G1.out 1 (.bool false))
  clear H8 F8
  have qC := hide (loc_set (i := 2) (v := .string ⟨#[]⟩) qB.out)
  clear qB
  have H10 := hide (H9.out.setLoc Q1.out 2 (.string ⟨#[]⟩))
  have F10 := hide (F9.out.setLoc G1.out 2 (.string ⟨#[]⟩))
  clear H9 F9
  have qD := hide (loc_set (i := 3) (v := .slice none 0 0) qC.out)
  clear qC
  have H11 := hide (H10.out.setLoc Q1.out 3 (.slice none 0 0))
  have F11 := hide (F10.out.setLoc G1.out 3 (.slice none 0 0))
  clear H10 F10
  have qE := hide (loc_set (i := 4) (v := .bool false) qD.out)
  clear qD
  have H12 := hide (H11.out.setLoc Q1.out 4 (.bool false))
  have F12 := hide (F11.out.setLoc G1.out 4 (.bool false))
  clear H11 F11
  have qF := hide (loc_set (i := 5) (v := .int .i64 0) qE.out)
  clear qE
  have H13 := hide (H12.out.setLoc Q1.out 5 (.int .i64 0))
  have F13 := hide (F12.out.setLoc G1.out 5 (.int .i64 0))
  clear H12 F12
  have qG := hide (loc_set (i := 6) (v := .slice none 0 0) qF.out)
  clear qF
  have H14 := hide (H13.out.setLoc Q1.out 6 (.slice none 0 0))
  have F14 := hide (F13.out.setLoc G1.out 6 (.slice none 0 0))
  clear H13 F13
  have qH := hide (loc_set (i := 7) (v := .int .i64 0) qG.out)
  clear qG
  have H15 := hide (H14.out.setLoc Q1.out 7 (.int .i64 0))
  have F15 := hide (F14.out.setLoc G1.out 7 (.int .i64 0))
  clear H14 F14
  have qI := hide (loc_set (i := 8) (v := .slice none 0 0) qH.out)
  clear qH
  have H16 := hide (H15.out.setLoc Q1.out 8 (.slice none 0 0))
  have F16 := hide (F15.out.setLoc G1.out 8 (.slice none 0 0))
  clear H15 F15
  have qJ := hide (loc_set (i := 9) (v := .string ⟨a2.toArray⟩) qI.out)
  clear qI
  have H17 := hide (H16.out.setLoc Q1.out 9 (.string ⟨a2.toArray⟩))
  have F17 := hide (F16.out.setLoc G1.out 9 (.string ⟨a2.toArray⟩))
  clear H16 F16
  have qK := hide (loc_set (i := 10) (v := .string ⟨a6.toArray⟩) qJ.out)
  clear qJ
  have H18 := hide (H17.out.setLoc Q1.out 10 (.string ⟨a6.toArray⟩))
  have F18 := hide (F17.out.setLoc G1.out 10 (.string ⟨a6.toArray⟩))
  clear H17 F17
  exact .of_ok HO6.out (⟨_, _, _, rfl, Rows.nil _ _ _ _ _, Rows.nil _ _ _ _ _, Rows.nil _ _ _ _ _⟩) H18.out F18.out

set_option maxRecDepth 100000 in
set_option maxHeartbeats 1600000 in
theorem premise_any (h : Rd R L N s st w) (o : Out PremM) (ho : premiseM FN (kt L) s = o) :
    Calls Tryz.prog 132 #[.pointer (some ⟨R, 0, none⟩)] w (Ends R L N st w (vPrem (New w)) o) := by
  have HO := hide ho
  have H := hide h
  have F := hide (Fq.refl R w)
  clear h ho
  have ho := ask_go HO.out
  clear HO
  have CA0 := hide (fun w h => ahead_any R L N s st w h 0 (by omega))
  rw [show s.n + 0 = s.n from rfl] at CA0
  by_cases hk1 : kd (kt L) s.n = 1
  · have hk := hk1
    clear hk1
    have CM := hide (markCall L (s.n + 1) (placeAt L N (s.n + 1)) [33, 61])
    cases hm : markAt (kt L) (s.n + 1) [33, 61] with
    | true =>
      rw [hm] at CM
      have HO := hide (ite_t ho (by simp [hk, hm]))
      rw [hk] at CA0
      clear ho hk hm
      go_enter Tryz.func132, Tryz.ntmps132
      have B19 : Below _ _ ((w).alloc (.cells #[.int .i64 0, .bool false, .string ⟨#[]⟩, .slice none 0 0, .bool false, .int .i64 0, .slice none 0 0, .int .i64 0, .slice none 0 0, .string ⟨#[]⟩, .string ⟨#[]⟩] 107)) := (Below.refl _ _).alloc (Nat.le_refl _) _
      have Q19 : Hid (R < w.heap.size) := hide H.out.lt
      have G19 : Hid (w.heap.size ≤ w.heap.size) := hide F.out.size
      have LB19 := hide (heap_alloc_new (w) (.cells #[.int .i64 0, .bool false, .string ⟨#[]⟩, .slice none 0 0, .bool false, .int .i64 0, .slice none 0 0, .int .i64 0, .slice none 0 0, .string ⟨#[]⟩, .string ⟨#[]⟩] 107))
      have H19 := hide (H.out.below B19)
      have F19 := hide (F.out.trans (Fq.of_below B19))
      clear H F B19
      go_wp2_with fail
      refine (CA0.out _ H19.out).mono ?_
      rintro _ w20 ⟨rfl, hb⟩
      have q0 := hide ((hb.block _ (loc_lt LB19.out)).trans LB19.out)
      clear LB19
      have H20 := hide (H19.out.below hb)
      have F20 := hide (F19.out.trans (Fq.of_below hb))
      clear hb H19 F19
      obtain ⟨q1, q2, q3, q4, q5, q6, q7, q8, q9, qa, qb, y21⟩ := row11 q0.out
      have B22 : Below _ _ ((w20).alloc (.cells #[.int .i64 1, .string ⟨(tx (kt L) s.n).toArray⟩, .int .i64 (placeAt L N s.n)] 50)) := (Below.refl _ _).alloc (Nat.le_refl _) _
      have Q22 : Hid (R < w20.heap.size) := hide H20.out.lt
      have G22 : Hid (w.heap.size ≤ w20.heap.size) := hide F20.out.size
      have qc : Hid (w.heap.size ≠ w20.heap.size) := hide (Nat.ne_of_lt (loc_lt q0.out))
      have qd : Hid (w20.heap.size ≠ w.heap.size) := hide (Nat.ne_of_gt (loc_lt q0.out))
      have qe := hide ((B22.block _ (loc_lt q0.out)).trans q0.out)
      clear q0
      have LB22 := hide (heap_alloc_new (w20) (.cells #[.int .i64 1, .string ⟨(tx (kt L) s.n).toArray⟩, .int .i64 (placeAt L N s.n)] 50))
      have H22 := hide (H20.out.below B22)
      have F22 := hide (F20.out.trans (Fq.of_below B22))
      clear H20 F20 B22
      obtain ⟨qf, qg, qh, qi, qj, qk, ql, qm, qn, qo, qp, y23⟩ := row11 qe.out
      obtain ⟨qq, qr, qs, y24⟩ := row3 LB22.out
      have x25 := qc.out
      have x26 := qd.out
      go_wp2_with fail
      refine (ahead_any R L N s st _ H22.out 1 (by omega)).mono ?_
      rintro _ w27 ⟨rfl, hb⟩
      clear q1 q2 q3 q4 q5 q6 q7 q8 q9 qa qb y21 qf qg qh qi qj qk ql qm qn qo qp y23 qq qr qs y24 x25 x26
      have qt := hide ((hb.block _ (loc_lt qe.out)).trans qe.out)
      clear qe
      have qu := hide ((hb.block _ (loc_lt LB22.out)).trans LB22.out)
      clear LB22
      have H27 := hide (H22.out.below hb)
      have F27 := hide (F22.out.trans (Fq.of_below hb))
      clear hb H22 F22
      obtain ⟨qv, qw, qx, qy, qz, qA, qB, qC, qD, qE, qF, y28⟩ := row11 qt.out
      obtain ⟨qG, qH, qI, y29⟩ := row3 qu.out
      have x30 := qc.out
      have x31 := qd.out
      go_wp2_with fail
      refine (CM.out _).mono ?_
      rintro _ w32 ⟨rfl, hb⟩
      clear qv qw qx qy qz qA qB qC qD qE qF y28 qG qH qI y29 x30 x31
      have qJ := hide ((hb.block _ (loc_lt qt.out)).trans qt.out)
      clear qt
      have qK := hide ((hb.block _ (loc_lt qu.out)).trans qu.out)
      clear qu
      have H32 := hide (H27.out.below hb)
      have F32 := hide (F27.out.trans (Fq.of_below hb))
      clear hb H27 F27
      obtain ⟨qL, qM, qN, qO, qP, qQ, qR, qS, qT, qU, qV, y33⟩ := row11 qJ.out
      obtain ⟨qW, qX, qY, y34⟩ := row3 qK.out
      have x35 := qc.out
      have x36 := qd.out
      have C37 := hide (unlike_any R L N s st _ H32.out _ rfl)
      go_wp2_with fail
      refine C37.out.mono ?_
      intro e w37 he
      rcases he.split with ⟨a37, s37, v37, ho, rfl, hv, hR, hF⟩ | ⟨c, m, ho, rfl, hF⟩
      rotate_left 1
      · exact on_panic rfl (.of_bad (ho.symm.trans HO.out) (F32.out.trans hF))
      clear qL qM qN qO qP qQ qR qS qT qU qV y33 qW qX qY y34 x35 x36
      have HO37 := hide (ho.symm.trans HO.out)
      have qZ := hide (hF.loc qJ.out (Nat.ne_of_gt Q19.out))
      clear qJ
      have q10 := hide (hF.loc qK.out (Nat.ne_of_gt Q22.out))
      clear qK
      have H37 := hide hR
      have F37 := hide (F32.out.trans hF)
      obtain ⟨av37, lv37, rv37, rfl, q11, q12, q13⟩ := hv
      obtain ⟨q14, q15, rfl⟩ := rows_form q11
      have q16 := hide (Strs.mono q11 fun g hg => Nat.le_trans F32.out.size hg)
      clear q11
      obtain ⟨q17, q18, rfl⟩ := rows_form q12
      have q19 := hide (Terms.mono q12 fun g hg => Nat.le_trans F32.out.size hg)
      clear q12
      obtain ⟨q1a, q1b, rfl⟩ := rows_form q13
      have q1c := hide (Terms.mono q13 fun g hg => Nat.le_trans F32.out.size hg)
      clear q13
      clear he ho hR hF C37 H32 F32 HO
      obtain ⟨q1d, q1e, q1f, q1g, q1h, q1i, q1j, q1k, q1l, q1m, q1n, y38⟩ := row11 qZ.out
      obtain ⟨q1o, q1p, q1q, y39⟩ := row3 q10.out
      have x40 := qc.out
      have x41 := qd.out
      go_wp2_with fail
      have hz := (And.intro q1d (And.intro q1e (And.intro q1f (And.intro q1g (And.intro q1h (And.intro q1i (And.intro q1j (And.intro q1k (And.intro q1l (And.intro q1m (And.intro q1n (And.intro y38 (And.intro q1o (And.intro q1p (And.intro q1q (And.intro y39 (And.intro x40 x41)))))))))))))))))
      simp [bodyPost, results, Tryz.results132, go_sem, hz]
      have q1r := hide (Strs.keep q16.out (Kp.setLoc (T := [9]) (i := 0) (v := .int .i64 a37.kind) qZ.out (by decide)) (by decide))
      clear q16
      have q1s := hide (Terms.keep q19.out (Kp.setLoc (T := [9, 109]) (i := 0) (v := .int .i64 a37.kind) qZ.out (by decide)) (by decide) (by decide))
      clear q19
      have q1t := hide (Terms.keep q1c.out (Kp.setLoc (T := [9, 109]) (i := 0) (v := .int .i64 a37.kind) qZ.out (by decide)) (by decide) (by decide))
      clear q1c
      have q1u := hide (loc_set (i := 0) (v := .int .i64 a37.kind) qZ.out)
      have q1v := hide (loc_other (p := ⟨w.heap.size, 0, none⟩) (v := .int .i64 a37.kind) q10.out (qd.out))
      clear qZ q10
      have H42 := hide (H37.out.setLoc Q19.out 0 (.int .i64 a37.kind))
      have F42 := hide (F37.out.setLoc G19.out 0 (.int .i64 a37.kind))
      clear H37 F37
      have q1w := hide (Strs.keep q1r.out (Kp.setLoc (T := [9]) (i := 1) (v := .bool a37.lit.neg) q1u.out (by decide)) (by decide))
      clear q1r
      have q1x := hide (Terms.keep q1s.out (Kp.setLoc (T := [9, 109]) (i := 1) (v := .bool a37.lit.neg) q1u.out (by decide)) (by decide) (by decide))
      clear q1s
      have q1y := hide (Terms.keep q1t.out (Kp.setLoc (T := [9, 109]) (i := 1) (v := .bool a37.lit.neg) q1u.out (by decide)) (by decide) (by decide))
      clear q1t
      have q1z := hide (loc_set (i := 1) (v := .bool a37.lit.neg) q1u.out)
      have q1A := hide (loc_other (p := ⟨w.heap.size, 1, none⟩) (v := .bool a37.lit.neg) q1v.out (qd.out))
      clear q1u q1v
      have H43 := hide (H42.out.setLoc Q19.out 1 (.bool a37.lit.neg))
      have F43 := hide (F42.out.setLoc G19.out 1 (.bool a37.lit.neg))
      clear H42 F42
      have q1B := hide (Strs.keep q1w.out (Kp.setLoc (T := [9]) (i := 2) (v := .string ⟨a37.lit.pred.toArray⟩) q1z.out (by decide)) (by decide))
      clear q1w
      have q1C := hide (Terms.keep q1x.out (Kp.setLoc (T := [9, 109]) (i := 2) (v := .string ⟨a37.lit.pred.toArray⟩) q1z.out (by decide)) (by decide) (by decide))
      clear q1x
      have q1D := hide (Terms.keep q1y.out (Kp.setLoc (T := [9, 109]) (i := 2) (v := .string ⟨a37.lit.pred.toArray⟩) q1z.out (by decide)) (by decide) (by decide))
      clear q1y
      have q1E := hide (loc_set (i := 2) (v := .string ⟨a37.lit.pred.toArray⟩) q1z.out)
      have q1F := hide (loc_other (p := ⟨w.heap.size, 2, none⟩) (v := .string ⟨a37.lit.pred.toArray⟩) q1A.out (qd.out))
      clear q1z q1A
      have H44 := hide (H43.out.setLoc Q19.out 2 (.string ⟨a37.lit.pred.toArray⟩))
      have F44 := hide (F43.out.setLoc G19.out 2 (.string ⟨a37.lit.pred.toArray⟩))
      clear H43 F43
      have q1G := hide (Strs.keep q1B.out (Kp.setLoc (T := [9]) (i := 3) (v := .slice q14 a37.lit.args.length q15) q1E.out (by decide)) (by decide))
      clear q1B
      have q1H := hide (Terms.keep q1C.out (Kp.setLoc (T := [9, 109]) (i := 3) (v := .slice q14 a37.lit.args.length q15) q1E.out (by decide)) (by decide) (by decide))
      clear q1C
      have q1I := hide (Terms.keep q1D.out (Kp.setLoc (T := [9, 109]) (i := 3) (v := .slice q14 a37.lit.args.length q15) q1E.out (by decide)) (by decide) (by decide))
      clear q1D
      have q1J := hide (loc_set (i := 3) (v := .slice q14 a37.lit.args.length q15) q1E.out)
      have q1K := hide (loc_other (p := ⟨w.heap.size, 3, none⟩) (v := .slice q14 a37.lit.args.length q15) q1F.out (qd.out))
      clear q1E q1F
      have H45 := hide (H44.out.setLoc Q19.out 3 (.slice q14 a37.lit.args.length q15))
      have F45 := hide (F44.out.setLoc G19.out 3 (.slice q14 a37.lit.args.length q15))
      clear H44 F44
      have q1L := hide (Strs.keep q1G.out (Kp.setLoc (T := [9]) (i := 4) (v := .bool a37.lit.hasValue) q1J.out (by decide)) (by decide))
      clear q1G
      have q1M := hide (Terms.keep q1H.out (Kp.setLoc (T := [9, 109]) (i := 4) (v := .bool a37.lit.hasValue) q1J.out (by decide)) (by decide) (by decide))
      clear q1H
      have q1N := hide (Terms.keep q1I.out (Kp.setLoc (T := [9, 109]) (i := 4) (v := .bool a37.lit.hasValue) q1J.out (by decide)) (by decide) (by decide))
      clear q1I
      have q1O := hide (loc_set (i := 4) (v := .bool a37.lit.hasValue) q1J.out)
      have q1P := hide (loc_other (p := ⟨w.heap.size, 4, none⟩) (v := .bool a37.lit.hasValue) q1K.out (qd.out))
      clear q1J q1K
      have H46 := hide (H45.out.setLoc Q19.out 4 (.bool a37.lit.hasValue))
      have F46 := hide (F45.out.setLoc G19.out 4 (.bool a37.lit.hasValue))
      clear H45 F45
      have q1Q := hide (Strs.keep q1L.out (Kp.setLoc (T := [9]) (i := 5) (v := .int .i64 a37.lit.value) q1O.out (by decide)) (by decide))
      clear q1L
      have q1R := hide (Terms.keep q1M.out (Kp.setLoc (T := [9, 109]) (i := 5) (v := .int .i64 a37.lit.value) q1O.out (by decide)) (by decide) (by decide))
      clear q1M
      have q1S := hide (Terms.keep q1N.out (Kp.setLoc (T := [9, 109]) (i := 5) (v := .int .i64 a37.lit.value) q1O.out (by decide)) (by decide) (by decide))
      clear q1N
      have q1T := hide (loc_set (i := 5) (v := .int .i64 a37.lit.value) q1O.out)
      have q1U := hide (loc_other (p := ⟨w.heap.size, 5, none⟩) (v := .int .i64 a37.lit.value) q1P.out (qd.out))
      clear q1O q1P
      have H47 := hide (H46.out.setLoc Q19.out 5 (.int .i64 a37.lit.value))
      have F47 := hide (F46.out.setLoc G19.out 5 (.int .i64 a37.lit.value))
      clear H46 F46
      have q1V := hide (Strs.keep q1Q.out (Kp.setLoc (T := [9]) (i := 6) (v := .slice q17 a37.guard.left.length q18) q1T.out (by decide)) (by decide))
      clear q1Q
      have q1W := hide (Terms.keep q1R.out (Kp.setLoc (T := [9, 109]) (i := 6) (v := .slice q17 a37.guard.left.length q18) q1T.out (by decide)) (by decide) (by decide))
      clear q1R
      have q1X := hide (Terms.keep q1S.out (Kp.setLoc (T := [9, 109]) (i := 6) (v := .slice q17 a37.guard.left.length q18) q1T.out (by decide)) (by decide) (by decide))
      clear q1S
      have q1Y := hide (loc_set (i := 6) (v := .slice q17 a37.guard.left.length q18) q1T.out)
      have q1Z := hide (loc_other (p := ⟨w.heap.size, 6, none⟩) (v := .slice q17 a37.guard.left.length q18) q1U.out (qd.out))
      clear q1T q1U
      have H48 := hide (H47.out.setLoc Q19.out 6 (.slice q17 a37.guard.left.length q18))
      have F48 := hide (F47.out.setLoc G19.out 6 (.slice q17 a37.guard.left.length q18))
      clear H47 F47
      have q20 := hide (Strs.keep q1V.out (Kp.setLoc (T := [9]) (i := 7) (v := .int .i64 a37.guard.op) q1Y.out (by decide)) (by decide))
      clear q1V
      have q21 := hide (Terms.keep q1W.out (Kp.setLoc (T := [9, 109]) (i := 7) (v := .int .i64 a37.guard.op) q1Y.out (by decide)) (by decide) (by decide))
      clear q1W
      have q22 := hide (Terms.keep q1X.out (Kp.setLoc (T := [9, 109]) (i := 7) (v := .int .i64 a37.guard.op) q1Y.out (by decide)) (by decide) (by decide))
      clear q1X
      have q23 := hide (loc_set (i := 7) (v := .int .i64 a37.guard.op) q1Y.out)
      have q24 := hide (loc_other (p := ⟨w.heap.size, 7, none⟩) (v := .int .i64 a37.guard.op) q1Z.out (qd.out))
      clear q1Y q1Z
      have H49 := hide (H48.out.setLoc Q19.out 7 (.int .i64 a37.guard.op))
      have F49 := hide (F48.out.setLoc G19.out 7 (.int .i64 a37.guard.op))
      clear H48 F48
      have q25 := hide (Strs.keep q20.out (Kp.setLoc (T := [9]) (i := 8) (v := .slice q1a a37.guard.right.length q1b) q23.out (by decide)) (by decide))
      clear q20
      have q26 := hide (Terms.keep q21.out (Kp.setLoc (T := [9, 109]) (i := 8) (v := .slice q1a a37.guard.right.length q1b) q23.out (by decide)) (by decide) (by decide))
      clear q21
      have q27 := hide (Terms.keep q22.out (Kp.setLoc (T := [9, 109]) (i := 8) (v := .slice q1a a37.guard.right.length q1b) q23.out (by decide)) (by decide) (by decide))
      clear q22
      have q28 := hide (loc_set (i := 8) (v := .slice q1a a37.guard.right.length q1b) q23.out)
      have q29 := hide (loc_other (p := ⟨w.heap.size, 8, none⟩) (v := .slice q1a a37.guard.right.length q1b) q24.out (qd.out))
      clear q23 q24
      have H50 := hide (H49.out.setLoc Q19.out 8 (.slice q1a a37.guard.right.length q1b))
      have F50 := hide (F49.out.setLoc G19.out 8 (.slice q1a a37.guard.right.length q1b))
      clear H49 F49
      have q2a := hide (Strs.keep q25.out (Kp.setLoc (T := [9]) (i := 9) (v := .string ⟨a37.a.toArray⟩) q28.out (by decide)) (by decide))
      clear q25
      have q2b := hide (Terms.keep q26.out (Kp.setLoc (T := [9, 109]) (i := 9) (v := .string ⟨a37.a.toArray⟩) q28.out (by decide)) (by decide) (by decide))
      clear q26
      have q2c := hide (Terms.keep q27.out (Kp.setLoc (T := [9, 109]) (i := 9) (v := .string ⟨a37.a.toArray⟩) q28.out (by decide)) (by decide) (by decide))
      clear q27
      have q2d := hide (loc_set (i := 9) (v := .string ⟨a37.a.toArray⟩) q28.out)
      have q2e := hide (loc_other (p := ⟨w.heap.size, 9, none⟩) (v := .string ⟨a37.a.toArray⟩) q29.out (qd.out))
      clear q28 q29
      have H51 := hide (H50.out.setLoc Q19.out 9 (.string ⟨a37.a.toArray⟩))
      have F51 := hide (F50.out.setLoc G19.out 9 (.string ⟨a37.a.toArray⟩))
      clear H50 F50
      have q2f := hide (Strs.keep q2a.out (Kp.setLoc (T := [9]) (i := 10) (v := .string ⟨a37.b.toArray⟩) q2d.out (by decide)) (by decide))
      clear q2a
      have q2g := hide (Terms.keep q2b.out (Kp.setLoc (T := [9, 109]) (i := 10) (v := .string ⟨a37.b.toArray⟩) q2d.out (by decide)) (by decide) (by decide))
      clear q2b
      have q2h := hide (Terms.keep q2c.out (Kp.setLoc (T := [9, 109]) (i := 10) (v := .string ⟨a37.b.toArray⟩) q2d.out (by decide)) (by decide) (by decide))
      clear q2c
      have q2i := hide (loc_set (i := 10) (v := .string ⟨a37.b.toArray⟩) q2d.out)
      have q2j := hide (loc_other (p := ⟨w.heap.size, 10, none⟩) (v := .string ⟨a37.b.toArray⟩) q2e.out (qd.out))
      clear q2d q2e
      have H52 := hide (H51.out.setLoc Q19.out 10 (.string ⟨a37.b.toArray⟩))
      have F52 := hide (F51.out.setLoc G19.out 10 (.string ⟨a37.b.toArray⟩))
      clear H51 F51
      exact .of_ok HO37.out (⟨_, _, _, rfl, q2f.out, q2g.out, q2h.out⟩) H52.out F52.out
    | false =>
      rw [hm] at CM
      have HO := hide (ite_f ho (by simp [hm]))
      have ho2 := ask_go HO.out
      have CN := hide (markCall L s.n (placeAt L N s.n) [123])
      cases hm2 : markAt (kt L) s.n [123] with
      | true =>
        rw [hm2] at CN
        clear HO
        have HO := hide (ite_t ho2 hm2)
        rw [hk] at CA0 CN
        clear ho ho2 hk hm hm2
        go_enter Tryz.func132, Tryz.ntmps132
        have B53 : Below _ _ ((w).alloc (.cells #[.int .i64 0, .bool false, .string ⟨#[]⟩, .slice none 0 0, .bool false, .int .i64 0, .slice none 0 0, .int .i64 0, .slice none 0 0, .string ⟨#[]⟩, .string ⟨#[]⟩] 107)) := (Below.refl _ _).alloc (Nat.le_refl _) _
        have Q53 : Hid (R < w.heap.size) := hide H.out.lt
        have G53 : Hid (w.heap.size ≤ w.heap.size) := hide F.out.size
        have LB53 := hide (heap_alloc_new (w) (.cells #[.int .i64 0, .bool false, .string ⟨#[]⟩, .slice none 0 0, .bool false, .int .i64 0, .slice none 0 0, .int .i64 0, .slice none 0 0, .string ⟨#[]⟩, .string ⟨#[]⟩] 107))
        have H53 := hide (H.out.below B53)
        have F53 := hide (F.out.trans (Fq.of_below B53))
        clear H F B53
        go_wp2_with fail
        refine (CA0.out _ H53.out).mono ?_
        rintro _ w54 ⟨rfl, hb⟩
        have q2k := hide ((hb.block _ (loc_lt LB53.out)).trans LB53.out)
        clear LB53
        have H54 := hide (H53.out.below hb)
        have F54 := hide (F53.out.trans (Fq.of_below hb))
        clear hb H53 F53
        obtain ⟨q2l, q2m, q2n, q2o, q2p, q2q, q2r, q2s, q2t, q2u, q2v, y55⟩ := row11 q2k.out
        have B56 : Below _ _ ((w54).alloc (.cells #[.int .i64 1, .string ⟨(tx (kt L) s.n).toArray⟩, .int .i64 (placeAt L N s.n)] 50)) := (Below.refl _ _).alloc (Nat.le_refl _) _
        have Q56 : Hid (R < w54.heap.size) := hide H54.out.lt
        have G56 : Hid (w.heap.size ≤ w54.heap.size) := hide F54.out.size
        have qc : Hid (w.heap.size ≠ w54.heap.size) := hide (Nat.ne_of_lt (loc_lt q2k.out))
        have qd : Hid (w54.heap.size ≠ w.heap.size) := hide (Nat.ne_of_gt (loc_lt q2k.out))
        have q2w := hide ((B56.block _ (loc_lt q2k.out)).trans q2k.out)
        clear q2k
        have LB56 := hide (heap_alloc_new (w54) (.cells #[.int .i64 1, .string ⟨(tx (kt L) s.n).toArray⟩, .int .i64 (placeAt L N s.n)] 50))
        have H56 := hide (H54.out.below B56)
        have F56 := hide (F54.out.trans (Fq.of_below B56))
        clear H54 F54 B56
        obtain ⟨q2x, q2y, q2z, q2A, q2B, q2C, q2D, q2E, q2F, q2G, q2H, y57⟩ := row11 q2w.out
        obtain ⟨q2I, q2J, q2K, y58⟩ := row3 LB56.out
        have x59 := qc.out
        have x60 := qd.out
        go_wp2_with fail
        refine (ahead_any R L N s st _ H56.out 1 (by omega)).mono ?_
        rintro _ w61 ⟨rfl, hb⟩
        clear q2l q2m q2n q2o q2p q2q q2r q2s q2t q2u q2v y55 q2x q2y q2z q2A q2B q2C q2D q2E q2F q2G q2H y57 q2I q2J q2K y58 x59 x60
        have q2L := hide ((hb.block _ (loc_lt q2w.out)).trans q2w.out)
        clear q2w
        have q2M := hide ((hb.block _ (loc_lt LB56.out)).trans LB56.out)
        clear LB56
        have H61 := hide (H56.out.below hb)
        have F61 := hide (F56.out.trans (Fq.of_below hb))
        clear hb H56 F56
        obtain ⟨q2N, q2O, q2P, q2Q, q2R, q2S, q2T, q2U, q2V, q2W, q2X, y62⟩ := row11 q2L.out
        obtain ⟨q2Y, q2Z, q30, y63⟩ := row3 q2M.out
        have x64 := qc.out
        have x65 := qd.out
        go_wp2_with fail
        refine (CM.out _).mono ?_
        rintro _ w66 ⟨rfl, hb⟩
        clear q2N q2O q2P q2Q q2R q2S q2T q2U q2V q2W q2X y62 q2Y q2Z q30 y63 x64 x65
        have q31 := hide ((hb.block _ (loc_lt q2L.out)).trans q2L.out)
        clear q2L
        have q32 := hide ((hb.block _ (loc_lt q2M.out)).trans q2M.out)
        clear q2M
        have H66 := hide (H61.out.below hb)
        have F66 := hide (F61.out.trans (Fq.of_below hb))
        clear hb H61 F61
        obtain ⟨q33, q34, q35, q36, q37, q38, q39, q3a, q3b, q3c, q3d, y67⟩ := row11 q31.out
        obtain ⟨q3e, q3f, q3g, y68⟩ := row3 q32.out
        have x69 := qc.out
        have x70 := qd.out
        go_wp2_with fail
        refine (CN.out _).mono ?_
        rintro _ w71 ⟨rfl, hb⟩
        clear q33 q34 q35 q36 q37 q38 q39 q3a q3b q3c q3d y67 q3e q3f q3g y68 x69 x70
        have q3h := hide ((hb.block _ (loc_lt q31.out)).trans q31.out)
        clear q31
        have q3i := hide ((hb.block _ (loc_lt q32.out)).trans q32.out)
        clear q32
        have H71 := hide (H66.out.below hb)
        have F71 := hide (F66.out.trans (Fq.of_below hb))
        clear hb H66 F66
        obtain ⟨q3j, q3k, q3l, q3m, q3n, q3o, q3p, q3q, q3r, q3s, q3t, y72⟩ := row11 q3h.out
        obtain ⟨q3u, q3v, q3w, y73⟩ := row3 q3i.out
        have x74 := qc.out
        have x75 := qd.out
        have C76 := hide (guard_any R L N s st _ H71.out _ rfl)
        go_wp2_with fail
        refine C76.out.mono ?_
        intro e w76 he
        rcases he.split with ⟨a76, s76, v76, ho, rfl, hv, hR, hF⟩ | ⟨c, m, ho, rfl, hF⟩
        rotate_left 1
        · exact on_panic rfl (.of_bad (bind_no HO.out ho) (F71.out.trans hF))
        clear q3j q3k q3l q3m q3n q3o q3p q3q q3r q3s q3t y72 q3u q3v q3w y73 x74 x75
        have HO76 := hide (bind_go HO.out ho)
        have q3x := hide (hF.loc q3h.out (Nat.ne_of_gt Q53.out))
        clear q3h
        have q3y := hide (hF.loc q3i.out (Nat.ne_of_gt Q56.out))
        clear q3i
        have H76 := hide hR
        have F76 := hide (F71.out.trans hF)
        obtain ⟨lv76, rv76, rfl, q3z, q3A⟩ := hv
        obtain ⟨q3B, q3C, rfl⟩ := rows_form q3z
        have q3D := hide (Terms.mono q3z fun g hg => Nat.le_trans F71.out.size hg)
        clear q3z
        obtain ⟨q3E, q3F, rfl⟩ := rows_form q3A
        have q3G := hide (Terms.mono q3A fun g hg => Nat.le_trans F71.out.size hg)
        clear q3A
        clear he ho hR hF C76 H71 F71 HO
        obtain ⟨q3H, q3I, q3J, q3K, q3L, q3M, q3N, q3O, q3P, q3Q, q3R, y77⟩ := row11 q3x.out
        obtain ⟨q3S, q3T, q3U, y78⟩ := row3 q3y.out
        have x79 := qc.out
        have x80 := qd.out
        go_wp2_with fail
        have hz := (And.intro q3H (And.intro q3I (And.intro q3J (And.intro q3K (And.intro q3L (And.intro q3M (And.intro q3N (And.intro q3O (And.intro q3P (And.intro q3Q (And.intro q3R (And.intro y77 (And.intro q3S (And.intro q3T (And.intro q3U (And.intro y78 (And.intro x79 x80)))))))))))))))))
        simp [bodyPost, results, Tryz.results132, go_sem, hz]
        have q3V := hide (Terms.keep q3D.out (Kp.setLoc (T := [9, 109]) (i := 0) (v := .int .i64 2) q3x.out (by decide)) (by decide) (by decide))
        clear q3D
        have q3W := hide (Terms.keep q3G.out (Kp.setLoc (T := [9, 109]) (i := 0) (v := .int .i64 2) q3x.out (by decide)) (by decide) (by decide))
        clear q3G
        have q3X := hide (loc_set (i := 0) (v := .int .i64 2) q3x.out)
        have q3Y := hide (loc_other (p := ⟨w.heap.size, 0, none⟩) (v := .int .i64 2) q3y.out (qd.out))
        clear q3x q3y
        have H81 := hide (H76.out.setLoc Q53.out 0 (.int .i64 2))
        have F81 := hide (F76.out.setLoc G53.out 0 (.int .i64 2))
        clear H76 F76
        have q3Z := hide (Terms.keep q3V.out (Kp.setLoc (T := [9, 109]) (i := 1) (v := .bool false) q3X.out (by decide)) (by decide) (by decide))
        clear q3V
        have q40 := hide (Terms.keep q3W.out (Kp.setLoc (T := [9, 109]) (i := 1) (v := .bool false) q3X.out (by decide)) (by decide) (by decide))
        clear q3W
        have q41 := hide (loc_set (i := 1) (v := .bool false) q3X.out)
        have q42 := hide (loc_other (p := ⟨w.heap.size, 1, none⟩) (v := .bool false) q3Y.out (qd.out))
        clear q3X q3Y
        have H82 := hide (H81.out.setLoc Q53.out 1 (.bool false))
        have F82 := hide (F81.out.setLoc G53.out 1 (.bool false))
        clear H81 F81
        have q43 := hide (Terms.keep q3Z.out (Kp.setLoc (T := [9, 109]) (i := 2) (v := .string ⟨#[]⟩) q41.out (by decide)) (by decide) (by decide))
        clear q3Z
        have q44 := hide (Terms.keep q40.out (Kp.setLoc (T := [9, 109]) (i := 2) (v := .string ⟨#[]⟩) q41.out (by decide)) (by decide) (by decide))
        clear q40
        have q45 := hide (loc_set (i := 2) (v := .string ⟨#[]⟩) q41.out)
        have q46 := hide (loc_other (p := ⟨w.heap.size, 2, none⟩) (v := .string ⟨#[]⟩) q42.out (qd.out))
        clear q41 q42
        have H83 := hide (H82.out.setLoc Q53.out 2 (.string ⟨#[]⟩))
        have F83 := hide (F82.out.setLoc G53.out 2 (.string ⟨#[]⟩))
        clear H82 F82
        have q47 := hide (Terms.keep q43.out (Kp.setLoc (T := [9, 109]) (i := 3) (v := .slice none 0 0) q45.out (by decide)) (by decide) (by decide))
        clear q43
        have q48 := hide (Terms.keep q44.out (Kp.setLoc (T := [9, 109]) (i := 3) (v := .slice none 0 0) q45.out (by decide)) (by decide) (by decide))
        clear q44
        have q49 := hide (loc_set (i := 3) (v := .slice none 0 0) q45.out)
        have q4a := hide (loc_other (p := ⟨w.heap.size, 3, none⟩) (v := .slice none 0 0) q46.out (qd.out))
        clear q45 q46
        have H84 := hide (H83.out.setLoc Q53.out 3 (.slice none 0 0))
        have F84 := hide (F83.out.setLoc G53.out 3 (.slice none 0 0))
        clear H83 F83
        have q4b := hide (Terms.keep q47.out (Kp.setLoc (T := [9, 109]) (i := 4) (v := .bool false) q49.out (by decide)) (by decide) (by decide))
        clear q47
        have q4c := hide (Terms.keep q48.out (Kp.setLoc (T := [9, 109]) (i := 4) (v := .bool false) q49.out (by decide)) (by decide) (by decide))
        clear q48
        have q4d := hide (loc_set (i := 4) (v := .bool false) q49.out)
        have q4e := hide (loc_other (p := ⟨w.heap.size, 4, none⟩) (v := .bool false) q4a.out (qd.out))
        clear q49 q4a
        have H85 := hide (H84.out.setLoc Q53.out 4 (.bool false))
        have F85 := hide (F84.out.setLoc G53.out 4 (.bool false))
        clear H84 F84
        have q4f := hide (Terms.keep q4b.out (Kp.setLoc (T := [9, 109]) (i := 5) (v := .int .i64 0) q4d.out (by decide)) (by decide) (by decide))
        clear q4b
        have q4g := hide (Terms.keep q4c.out (Kp.setLoc (T := [9, 109]) (i := 5) (v := .int .i64 0) q4d.out (by decide)) (by decide) (by decide))
        clear q4c
        have q4h := hide (loc_set (i := 5) (v := .int .i64 0) q4d.out)
        have q4i := hide (loc_other (p := ⟨w.heap.size, 5, none⟩) (v := .int .i64 0) q4e.out (qd.out))
        clear q4d q4e
        have H86 := hide (H85.out.setLoc Q53.out 5 (.int .i64 0))
        have F86 := hide (F85.out.setLoc G53.out 5 (.int .i64 0))
        clear H85 F85
        have q4j := hide (Terms.keep q4f.out (Kp.setLoc (T := [9, 109]) (i := 6) (v := .slice q3B a76.left.length q3C) q4h.out (by decide)) (by decide) (by decide))
        clear q4f
        have q4k := hide (Terms.keep q4g.out (Kp.setLoc (T := [9, 109]) (i := 6) (v := .slice q3B a76.left.length q3C) q4h.out (by decide)) (by decide) (by decide))
        clear q4g
        have q4l := hide (loc_set (i := 6) (v := .slice q3B a76.left.length q3C) q4h.out)
        have q4m := hide (loc_other (p := ⟨w.heap.size, 6, none⟩) (v := .slice q3B a76.left.length q3C) q4i.out (qd.out))
        clear q4h q4i
        have H87 := hide (H86.out.setLoc Q53.out 6 (.slice q3B a76.left.length q3C))
        have F87 := hide (F86.out.setLoc G53.out 6 (.slice q3B a76.left.length q3C))
        clear H86 F86
        have q4n := hide (Terms.keep q4j.out (Kp.setLoc (T := [9, 109]) (i := 7) (v := .int .i64 a76.op) q4l.out (by decide)) (by decide) (by decide))
        clear q4j
        have q4o := hide (Terms.keep q4k.out (Kp.setLoc (T := [9, 109]) (i := 7) (v := .int .i64 a76.op) q4l.out (by decide)) (by decide) (by decide))
        clear q4k
        have q4p := hide (loc_set (i := 7) (v := .int .i64 a76.op) q4l.out)
        have q4q := hide (loc_other (p := ⟨w.heap.size, 7, none⟩) (v := .int .i64 a76.op) q4m.out (qd.out))
        clear q4l q4m
        have H88 := hide (H87.out.setLoc Q53.out 7 (.int .i64 a76.op))
        have F88 := hide (F87.out.setLoc G53.out 7 (.int .i64 a76.op))
        clear H87 F87
        have q4r := hide (Terms.keep q4n.out (Kp.setLoc (T := [9, 109]) (i := 8) (v := .slice q3E a76.right.length q3F) q4p.out (by decide)) (by decide) (by decide))
        clear q4n
        have q4s := hide (Terms.keep q4o.out (Kp.setLoc (T := [9, 109]) (i := 8) (v := .slice q3E a76.right.length q3F) q4p.out (by decide)) (by decide) (by decide))
        clear q4o
        have q4t := hide (loc_set (i := 8) (v := .slice q3E a76.right.length q3F) q4p.out)
        have q4u := hide (loc_other (p := ⟨w.heap.size, 8, none⟩) (v := .slice q3E a76.right.length q3F) q4q.out (qd.out))
        clear q4p q4q
        have H89 := hide (H88.out.setLoc Q53.out 8 (.slice q3E a76.right.length q3F))
        have F89 := hide (F88.out.setLoc G53.out 8 (.slice q3E a76.right.length q3F))
        clear H88 F88
        have q4v := hide (Terms.keep q4r.out (Kp.setLoc (T := [9, 109]) (i := 9) (v := .string ⟨#[]⟩) q4t.out (by decide)) (by decide) (by decide))
        clear q4r
        have q4w := hide (Terms.keep q4s.out (Kp.setLoc (T := [9, 109]) (i := 9) (v := .string ⟨#[]⟩) q4t.out (by decide)) (by decide) (by decide))
        clear q4s
        have q4x := hide (loc_set (i := 9) (v := .string ⟨#[]⟩) q4t.out)
        have q4y := hide (loc_other (p := ⟨w.heap.size, 9, none⟩) (v := .string ⟨#[]⟩) q4u.out (qd.out))
        clear q4t q4u
        have H90 := hide (H89.out.setLoc Q53.out 9 (.string ⟨#[]⟩))
        have F90 := hide (F89.out.setLoc G53.out 9 (.string ⟨#[]⟩))
        clear H89 F89
        have q4z := hide (Terms.keep q4v.out (Kp.setLoc (T := [9, 109]) (i := 10) (v := .string ⟨#[]⟩) q4x.out (by decide)) (by decide) (by decide))
        clear q4v
        have q4A := hide (Terms.keep q4w.out (Kp.setLoc (T := [9, 109]) (i := 10) (v := .string ⟨#[]⟩) q4x.out (by decide)) (by decide) (by decide))
        clear q4w
        have q4B := hide (loc_set (i := 10) (v := .string ⟨#[]⟩) q4x.out)
        have q4C := hide (loc_other (p := ⟨w.heap.size, 10, none⟩) (v := .string ⟨#[]⟩) q4y.out (qd.out))
        clear q4x q4y
        have H91 := hide (H90.out.setLoc Q53.out 10 (.string ⟨#[]⟩))
        have F91 := hide (F90.out.setLoc G53.out 10 (.string ⟨#[]⟩))
        clear H90 F90
        exact .of_ok HO76.out (⟨_, _, _, rfl, Rows.nil _ _ _ _ _, q4z.out, q4A.out⟩) H91.out F91.out
      | false =>
        rw [hm2] at CN
        clear HO
        have HO := hide (ite_f ho2 hm2)
        rw [hk] at CA0 CN
        clear ho ho2 hk hm hm2
        go_enter Tryz.func132, Tryz.ntmps132
        have B92 : Below _ _ ((w).alloc (.cells #[.int .i64 0, .bool false, .string ⟨#[]⟩, .slice none 0 0, .bool false, .int .i64 0, .slice none 0 0, .int .i64 0, .slice none 0 0, .string ⟨#[]⟩, .string ⟨#[]⟩] 107)) := (Below.refl _ _).alloc (Nat.le_refl _) _
        have Q92 : Hid (R < w.heap.size) := hide H.out.lt
        have G92 : Hid (w.heap.size ≤ w.heap.size) := hide F.out.size
        have LB92 := hide (heap_alloc_new (w) (.cells #[.int .i64 0, .bool false, .string ⟨#[]⟩, .slice none 0 0, .bool false, .int .i64 0, .slice none 0 0, .int .i64 0, .slice none 0 0, .string ⟨#[]⟩, .string ⟨#[]⟩] 107))
        have H92 := hide (H.out.below B92)
        have F92 := hide (F.out.trans (Fq.of_below B92))
        clear H F B92
        go_wp2_with fail
        refine (CA0.out _ H92.out).mono ?_
        rintro _ w93 ⟨rfl, hb⟩
        have q4D := hide ((hb.block _ (loc_lt LB92.out)).trans LB92.out)
        clear LB92
        have H93 := hide (H92.out.below hb)
        have F93 := hide (F92.out.trans (Fq.of_below hb))
        clear hb H92 F92
        obtain ⟨q4E, q4F, q4G, q4H, q4I, q4J, q4K, q4L, q4M, q4N, q4O, y94⟩ := row11 q4D.out
        have B95 : Below _ _ ((w93).alloc (.cells #[.int .i64 1, .string ⟨(tx (kt L) s.n).toArray⟩, .int .i64 (placeAt L N s.n)] 50)) := (Below.refl _ _).alloc (Nat.le_refl _) _
        have Q95 : Hid (R < w93.heap.size) := hide H93.out.lt
        have G95 : Hid (w.heap.size ≤ w93.heap.size) := hide F93.out.size
        have qc : Hid (w.heap.size ≠ w93.heap.size) := hide (Nat.ne_of_lt (loc_lt q4D.out))
        have qd : Hid (w93.heap.size ≠ w.heap.size) := hide (Nat.ne_of_gt (loc_lt q4D.out))
        have q4P := hide ((B95.block _ (loc_lt q4D.out)).trans q4D.out)
        clear q4D
        have LB95 := hide (heap_alloc_new (w93) (.cells #[.int .i64 1, .string ⟨(tx (kt L) s.n).toArray⟩, .int .i64 (placeAt L N s.n)] 50))
        have H95 := hide (H93.out.below B95)
        have F95 := hide (F93.out.trans (Fq.of_below B95))
        clear H93 F93 B95
        obtain ⟨q4Q, q4R, q4S, q4T, q4U, q4V, q4W, q4X, q4Y, q4Z, q50, y96⟩ := row11 q4P.out
        obtain ⟨q51, q52, q53, y97⟩ := row3 LB95.out
        have x98 := qc.out
        have x99 := qd.out
        go_wp2_with fail
        refine (ahead_any R L N s st _ H95.out 1 (by omega)).mono ?_
        rintro _ w100 ⟨rfl, hb⟩
        clear q4E q4F q4G q4H q4I q4J q4K q4L q4M q4N q4O y94 q4Q q4R q4S q4T q4U q4V q4W q4X q4Y q4Z q50 y96 q51 q52 q53 y97 x98 x99
        have q54 := hide ((hb.block _ (loc_lt q4P.out)).trans q4P.out)
        clear q4P
        have q55 := hide ((hb.block _ (loc_lt LB95.out)).trans LB95.out)
        clear LB95
        have H100 := hide (H95.out.below hb)
        have F100 := hide (F95.out.trans (Fq.of_below hb))
        clear hb H95 F95
        obtain ⟨q56, q57, q58, q59, q5a, q5b, q5c, q5d, q5e, q5f, q5g, y101⟩ := row11 q54.out
        obtain ⟨q5h, q5i, q5j, y102⟩ := row3 q55.out
        have x103 := qc.out
        have x104 := qd.out
        go_wp2_with fail
        refine (CM.out _).mono ?_
        rintro _ w105 ⟨rfl, hb⟩
        clear q56 q57 q58 q59 q5a q5b q5c q5d q5e q5f q5g y101 q5h q5i q5j y102 x103 x104
        have q5k := hide ((hb.block _ (loc_lt q54.out)).trans q54.out)
        clear q54
        have q5l := hide ((hb.block _ (loc_lt q55.out)).trans q55.out)
        clear q55
        have H105 := hide (H100.out.below hb)
        have F105 := hide (F100.out.trans (Fq.of_below hb))
        clear hb H100 F100
        obtain ⟨q5m, q5n, q5o, q5p, q5q, q5r, q5s, q5t, q5u, q5v, q5w, y106⟩ := row11 q5k.out
        obtain ⟨q5x, q5y, q5z, y107⟩ := row3 q5l.out
        have x108 := qc.out
        have x109 := qd.out
        go_wp2_with fail
        refine (CN.out _).mono ?_
        rintro _ w110 ⟨rfl, hb⟩
        clear q5m q5n q5o q5p q5q q5r q5s q5t q5u q5v q5w y106 q5x q5y q5z y107 x108 x109
        have q5A := hide ((hb.block _ (loc_lt q5k.out)).trans q5k.out)
        clear q5k
        have q5B := hide ((hb.block _ (loc_lt q5l.out)).trans q5l.out)
        clear q5l
        have H110 := hide (H105.out.below hb)
        have F110 := hide (F105.out.trans (Fq.of_below hb))
        clear hb H105 F105
        obtain ⟨q5C, q5D, q5E, q5F, q5G, q5H, q5I, q5J, q5K, q5L, q5M, y111⟩ := row11 q5A.out
        obtain ⟨q5N, q5O, q5P, y112⟩ := row3 q5B.out
        have x113 := qc.out
        have x114 := qd.out
        have C115 := hide (literal_any R L N s st _ H110.out _ rfl)
        go_wp2_with fail
        refine C115.out.mono ?_
        intro e w115 he
        rcases he.split with ⟨a115, s115, v115, ho, rfl, hv, hR, hF⟩ | ⟨c, m, ho, rfl, hF⟩
        rotate_left 1
        · exact on_panic rfl (.of_bad (bind_no HO.out ho) (F110.out.trans hF))
        clear q5C q5D q5E q5F q5G q5H q5I q5J q5K q5L q5M y111 q5N q5O q5P y112 x113 x114
        have HO115 := hide (bind_go HO.out ho)
        have q5Q := hide (hF.loc q5A.out (Nat.ne_of_gt Q92.out))
        clear q5A
        have q5R := hide (hF.loc q5B.out (Nat.ne_of_gt Q95.out))
        clear q5B
        have H115 := hide hR
        have F115 := hide (F110.out.trans hF)
        obtain ⟨av115, rfl, q5S⟩ := hv
        obtain ⟨q5T, q5U, rfl⟩ := rows_form q5S
        have q5V := hide (Strs.mono q5S fun g hg => Nat.le_trans F110.out.size hg)
        clear q5S
        clear he ho hR hF C115 H110 F110 HO
        obtain ⟨q5W, q5X, q5Y, q5Z, q60, q61, q62, q63, q64, q65, q66, y116⟩ := row11 q5Q.out
        obtain ⟨q67, q68, q69, y117⟩ := row3 q5R.out
        have x118 := qc.out
        have x119 := qd.out
        go_wp2_with fail
        have hz := (And.intro q5W (And.intro q5X (And.intro q5Y (And.intro q5Z (And.intro q60 (And.intro q61 (And.intro q62 (And.intro q63 (And.intro q64 (And.intro q65 (And.intro q66 (And.intro y116 (And.intro q67 (And.intro q68 (And.intro q69 (And.intro y117 (And.intro x118 x119)))))))))))))))))
        simp [bodyPost, results, Tryz.results132, go_sem, hz]
        have q6a := hide (Strs.keep q5V.out (Kp.setLoc (T := [9]) (i := 0) (v := .int .i64 1) q5Q.out (by decide)) (by decide))
        clear q5V
        have q6b := hide (loc_set (i := 0) (v := .int .i64 1) q5Q.out)
        have q6c := hide (loc_other (p := ⟨w.heap.size, 0, none⟩) (v := .int .i64 1) q5R.out (qd.out))
        clear q5Q q5R
        have H120 := hide (H115.out.setLoc Q92.out 0 (.int .i64 1))
        have F120 := hide (F115.out.setLoc G92.out 0 (.int .i64 1))
        clear H115 F115
        have q6d := hide (Strs.keep q6a.out (Kp.setLoc (T := [9]) (i := 1) (v := .bool a115.neg) q6b.out (by decide)) (by decide))
        clear q6a
        have q6e := hide (loc_set (i := 1) (v := .bool a115.neg) q6b.out)
        have q6f := hide (loc_other (p := ⟨w.heap.size, 1, none⟩) (v := .bool a115.neg) q6c.out (qd.out))
        clear q6b q6c
        have H121 := hide (H120.out.setLoc Q92.out 1 (.bool a115.neg))
        have F121 := hide (F120.out.setLoc G92.out 1 (.bool a115.neg))
        clear H120 F120
        have q6g := hide (Strs.keep q6d.out (Kp.setLoc (T := [9]) (i := 2) (v := .string ⟨a115.pred.toArray⟩) q6e.out (by decide)) (by decide))
        clear q6d
        have q6h := hide (loc_set (i := 2) (v := .string ⟨a115.pred.toArray⟩) q6e.out)
        have q6i := hide (loc_other (p := ⟨w.heap.size, 2, none⟩) (v := .string ⟨a115.pred.toArray⟩) q6f.out (qd.out))
        clear q6e q6f
        have H122 := hide (H121.out.setLoc Q92.out 2 (.string ⟨a115.pred.toArray⟩))
        have F122 := hide (F121.out.setLoc G92.out 2 (.string ⟨a115.pred.toArray⟩))
        clear H121 F121
        have q6j := hide (Strs.keep q6g.out (Kp.setLoc (T := [9]) (i := 3) (v := .slice q5T a115.args.length q5U) q6h.out (by decide)) (by decide))
        clear q6g
        have q6k := hide (loc_set (i := 3) (v := .slice q5T a115.args.length q5U) q6h.out)
        have q6l := hide (loc_other (p := ⟨w.heap.size, 3, none⟩) (v := .slice q5T a115.args.length q5U) q6i.out (qd.out))
        clear q6h q6i
        have H123 := hide (H122.out.setLoc Q92.out 3 (.slice q5T a115.args.length q5U))
        have F123 := hide (F122.out.setLoc G92.out 3 (.slice q5T a115.args.length q5U))
        clear H122 F122
        have q6m := hide (Strs.keep q6j.out (Kp.setLoc (T := [9]) (i := 4) (v := .bool a115.hasValue) q6k.out (by decide)) (by decide))
        clear q6j
        have q6n := hide (loc_set (i := 4) (v := .bool a115.hasValue) q6k.out)
        have q6o := hide (loc_other (p := ⟨w.heap.size, 4, none⟩) (v := .bool a115.hasValue) q6l.out (qd.out))
        clear q6k q6l
        have H124 := hide (H123.out.setLoc Q92.out 4 (.bool a115.hasValue))
        have F124 := hide (F123.out.setLoc G92.out 4 (.bool a115.hasValue))
        clear H123 F123
        have q6p := hide (Strs.keep q6m.out (Kp.setLoc (T := [9]) (i := 5) (v := .int .i64 a115.value) q6n.out (by decide)) (by decide))
        clear q6m
        have q6q := hide (loc_set (i := 5) (v := .int .i64 a115.value) q6n.out)
        have q6r := hide (loc_other (p := ⟨w.heap.size, 5, none⟩) (v := .int .i64 a115.value) q6o.out (qd.out))
        clear q6n q6o
        have H125 := hide (H124.out.setLoc Q92.out 5 (.int .i64 a115.value))
        have F125 := hide (F124.out.setLoc G92.out 5 (.int .i64 a115.value))
        clear H124 F124
        have q6s := hide (Strs.keep q6p.out (Kp.setLoc (T := [9]) (i := 6) (v := .slice none 0 0) q6q.out (by decide)) (by decide))
        clear q6p
        have q6t := hide (loc_set (i := 6) (v := .slice none 0 0) q6q.out)
        have q6u := hide (loc_other (p := ⟨w.heap.size, 6, none⟩) (v := .slice none 0 0) q6r.out (qd.out))
        clear q6q q6r
        have H126 := hide (H125.out.setLoc Q92.out 6 (.slice none 0 0))
        have F126 := hide (F125.out.setLoc G92.out 6 (.slice none 0 0))
        clear H125 F125
        have q6v := hide (Strs.keep q6s.out (Kp.setLoc (T := [9]) (i := 7) (v := .int .i64 0) q6t.out (by decide)) (by decide))
        clear q6s
        have q6w := hide (loc_set (i := 7) (v := .int .i64 0) q6t.out)
        have q6x := hide (loc_other (p := ⟨w.heap.size, 7, none⟩) (v := .int .i64 0) q6u.out (qd.out))
        clear q6t q6u
        have H127 := hide (H126.out.setLoc Q92.out 7 (.int .i64 0))
        have F127 := hide (F126.out.setLoc G92.out 7 (.int .i64 0))
        clear H126 F126
        have q6y := hide (Strs.keep q6v.out (Kp.setLoc (T := [9]) (i := 8) (v := .slice none 0 0) q6w.out (by decide)) (by decide))
        clear q6v
        have q6z := hide (loc_set (i := 8) (v := .slice none 0 0) q6w.out)
        have q6A := hide (loc_other (p := ⟨w.heap.size, 8, none⟩) (v := .slice none 0 0) q6x.out (qd.out))
        clear q6w q6x
        have H128 := hide (H127.out.setLoc Q92.out 8 (.slice none 0 0))
        have F128 := hide (F127.out.setLoc G92.out 8 (.slice none 0 0))
        clear H127 F127
        have q6B := hide (Strs.keep q6y.out (Kp.setLoc (T := [9]) (i := 9) (v := .string ⟨#[]⟩) q6z.out (by decide)) (by decide))
        clear q6y
        have q6C := hide (loc_set (i := 9) (v := .string ⟨#[]⟩) q6z.out)
        have q6D := hide (loc_other (p := ⟨w.heap.size, 9, none⟩) (v := .string ⟨#[]⟩) q6A.out (qd.out))
        clear q6z q6A
        have H129 := hide (H128.out.setLoc Q92.out 9 (.string ⟨#[]⟩))
        have F129 := hide (F128.out.setLoc G92.out 9 (.string ⟨#[]⟩))
        clear H128 F128
        have q6E := hide (Strs.keep q6B.out (Kp.setLoc (T := [9]) (i := 10) (v := .string ⟨#[]⟩) q6C.out (by decide)) (by decide))
        clear q6B
        have q6F := hide (loc_set (i := 10) (v := .string ⟨#[]⟩) q6C.out)
        have q6G := hide (loc_other (p := ⟨w.heap.size, 10, none⟩) (v := .string ⟨#[]⟩) q6D.out (qd.out))
        clear q6C q6D
        have H130 := hide (H129.out.setLoc Q92.out 10 (.string ⟨#[]⟩))
        have F130 := hide (F129.out.setLoc G92.out 10 (.string ⟨#[]⟩))
        clear H129 F129
        exact .of_ok HO115.out (⟨_, _, _, rfl, q6E.out, Rows.nil _ _ _ _ _, Rows.nil _ _ _ _ _⟩) H130.out F130.out
  · by_cases hk2 : kd (kt L) s.n = 2
    · have hk := hk2
      clear hk1 hk2
      have CM := hide (markCall L (s.n + 1) (placeAt L N (s.n + 1)) [33, 61])
      cases hm : markAt (kt L) (s.n + 1) [33, 61] with
      | true =>
        rw [hm] at CM
        have HO := hide (ite_t ho (by simp [hk, hm]))
        rw [hk] at CA0
        clear ho hk hm
        go_enter Tryz.func132, Tryz.ntmps132
        have B131 : Below _ _ ((w).alloc (.cells #[.int .i64 0, .bool false, .string ⟨#[]⟩, .slice none 0 0, .bool false, .int .i64 0, .slice none 0 0, .int .i64 0, .slice none 0 0, .string ⟨#[]⟩, .string ⟨#[]⟩] 107)) := (Below.refl _ _).alloc (Nat.le_refl _) _
        have Q131 : Hid (R < w.heap.size) := hide H.out.lt
        have G131 : Hid (w.heap.size ≤ w.heap.size) := hide F.out.size
        have LB131 := hide (heap_alloc_new (w) (.cells #[.int .i64 0, .bool false, .string ⟨#[]⟩, .slice none 0 0, .bool false, .int .i64 0, .slice none 0 0, .int .i64 0, .slice none 0 0, .string ⟨#[]⟩, .string ⟨#[]⟩] 107))
        have H131 := hide (H.out.below B131)
        have F131 := hide (F.out.trans (Fq.of_below B131))
        clear H F B131
        go_wp2_with fail
        refine (CA0.out _ H131.out).mono ?_
        rintro _ w132 ⟨rfl, hb⟩
        have q6H := hide ((hb.block _ (loc_lt LB131.out)).trans LB131.out)
        clear LB131
        have H132 := hide (H131.out.below hb)
        have F132 := hide (F131.out.trans (Fq.of_below hb))
        clear hb H131 F131
        obtain ⟨q6I, q6J, q6K, q6L, q6M, q6N, q6O, q6P, q6Q, q6R, q6S, y133⟩ := row11 q6H.out
        have B134 : Below _ _ ((w132).alloc (.cells #[.int .i64 2, .string ⟨(tx (kt L) s.n).toArray⟩, .int .i64 (placeAt L N s.n)] 50)) := (Below.refl _ _).alloc (Nat.le_refl _) _
        have Q134 : Hid (R < w132.heap.size) := hide H132.out.lt
        have G134 : Hid (w.heap.size ≤ w132.heap.size) := hide F132.out.size
        have qc : Hid (w.heap.size ≠ w132.heap.size) := hide (Nat.ne_of_lt (loc_lt q6H.out))
        have qd : Hid (w132.heap.size ≠ w.heap.size) := hide (Nat.ne_of_gt (loc_lt q6H.out))
        have q6T := hide ((B134.block _ (loc_lt q6H.out)).trans q6H.out)
        clear q6H
        have LB134 := hide (heap_alloc_new (w132) (.cells #[.int .i64 2, .string ⟨(tx (kt L) s.n).toArray⟩, .int .i64 (placeAt L N s.n)] 50))
        have H134 := hide (H132.out.below B134)
        have F134 := hide (F132.out.trans (Fq.of_below B134))
        clear H132 F132 B134
        obtain ⟨q6U, q6V, q6W, q6X, q6Y, q6Z, q70, q71, q72, q73, q74, y135⟩ := row11 q6T.out
        obtain ⟨q75, q76, q77, y136⟩ := row3 LB134.out
        have x137 := qc.out
        have x138 := qd.out
        go_wp2_with fail
        refine (ahead_any R L N s st _ H134.out 1 (by omega)).mono ?_
        rintro _ w139 ⟨rfl, hb⟩
        clear q6I q6J q6K q6L q6M q6N q6O q6P q6Q q6R q6S y133 q6U q6V q6W q6X q6Y q6Z q70 q71 q72 q73 q74 y135 q75 q76 q77 y136 x137 x138
        have q78 := hide ((hb.block _ (loc_lt q6T.out)).trans q6T.out)
        clear q6T
        have q79 := hide ((hb.block _ (loc_lt LB134.out)).trans LB134.out)
        clear LB134
        have H139 := hide (H134.out.below hb)
        have F139 := hide (F134.out.trans (Fq.of_below hb))
        clear hb H134 F134
        obtain ⟨q7a, q7b, q7c, q7d, q7e, q7f, q7g, q7h, q7i, q7j, q7k, y140⟩ := row11 q78.out
        obtain ⟨q7l, q7m, q7n, y141⟩ := row3 q79.out
        have x142 := qc.out
        have x143 := qd.out
        go_wp2_with fail
        refine (CM.out _).mono ?_
        rintro _ w144 ⟨rfl, hb⟩
        clear q7a q7b q7c q7d q7e q7f q7g q7h q7i q7j q7k y140 q7l q7m q7n y141 x142 x143
        have q7o := hide ((hb.block _ (loc_lt q78.out)).trans q78.out)
        clear q78
        have q7p := hide ((hb.block _ (loc_lt q79.out)).trans q79.out)
        clear q79
        have H144 := hide (H139.out.below hb)
        have F144 := hide (F139.out.trans (Fq.of_below hb))
        clear hb H139 F139
        obtain ⟨q7q, q7r, q7s, q7t, q7u, q7v, q7w, q7x, q7y, q7z, q7A, y145⟩ := row11 q7o.out
        obtain ⟨q7B, q7C, q7D, y146⟩ := row3 q7p.out
        have x147 := qc.out
        have x148 := qd.out
        have C149 := hide (unlike_any R L N s st _ H144.out _ rfl)
        go_wp2_with fail
        refine C149.out.mono ?_
        intro e w149 he
        rcases he.split with ⟨a149, s149, v149, ho, rfl, hv, hR, hF⟩ | ⟨c, m, ho, rfl, hF⟩
        rotate_left 1
        · exact on_panic rfl (.of_bad (ho.symm.trans HO.out) (F144.out.trans hF))
        clear q7q q7r q7s q7t q7u q7v q7w q7x q7y q7z q7A y145 q7B q7C q7D y146 x147 x148
        have HO149 := hide (ho.symm.trans HO.out)
        have q7E := hide (hF.loc q7o.out (Nat.ne_of_gt Q131.out))
        clear q7o
        have q7F := hide (hF.loc q7p.out (Nat.ne_of_gt Q134.out))
        clear q7p
        have H149 := hide hR
        have F149 := hide (F144.out.trans hF)
        obtain ⟨av149, lv149, rv149, rfl, q7G, q7H, q7I⟩ := hv
        obtain ⟨q7J, q7K, rfl⟩ := rows_form q7G
        have q7L := hide (Strs.mono q7G fun g hg => Nat.le_trans F144.out.size hg)
        clear q7G
        obtain ⟨q7M, q7N, rfl⟩ := rows_form q7H
        have q7O := hide (Terms.mono q7H fun g hg => Nat.le_trans F144.out.size hg)
        clear q7H
        obtain ⟨q7P, q7Q, rfl⟩ := rows_form q7I
        have q7R := hide (Terms.mono q7I fun g hg => Nat.le_trans F144.out.size hg)
        clear q7I
        clear he ho hR hF C149 H144 F144 HO
        obtain ⟨q7S, q7T, q7U, q7V, q7W, q7X, q7Y, q7Z, q80, q81, q82, y150⟩ := row11 q7E.out
        obtain ⟨q83, q84, q85, y151⟩ := row3 q7F.out
        have x152 := qc.out
        have x153 := qd.out
        go_wp2_with fail
        have hz := (And.intro q7S (And.intro q7T (And.intro q7U (And.intro q7V (And.intro q7W (And.intro q7X (And.intro q7Y (And.intro q7Z (And.intro q80 (And.intro q81 (And.intro q82 (And.intro y150 (And.intro q83 (And.intro q84 (And.intro q85 (And.intro y151 (And.intro x152 x153)))))))))))))))))
        simp [bodyPost, results, Tryz.results132, go_sem, hz]
        have q86 := hide (Strs.keep q7L.out (Kp.setLoc (T := [9]) (i := 0) (v := .int .i64 a149.kind) q7E.out (by decide)) (by decide))
        clear q7L
        have q87 := hide (Terms.keep q7O.out (Kp.setLoc (T := [9, 109]) (i := 0) (v := .int .i64 a149.kind) q7E.out (by decide)) (by decide) (by decide))
        clear q7O
        have q88 := hide (Terms.keep q7R.out (Kp.setLoc (T := [9, 109]) (i := 0) (v := .int .i64 a149.kind) q7E.out (by decide)) (by decide) (by decide))
        clear q7R
        have q89 := hide (loc_set (i := 0) (v := .int .i64 a149.kind) q7E.out)
        have q8a := hide (loc_other (p := ⟨w.heap.size, 0, none⟩) (v := .int .i64 a149.kind) q7F.out (qd.out))
        clear q7E q7F
        have H154 := hide (H149.out.setLoc Q131.out 0 (.int .i64 a149.kind))
        have F154 := hide (F149.out.setLoc G131.out 0 (.int .i64 a149.kind))
        clear H149 F149
        have q8b := hide (Strs.keep q86.out (Kp.setLoc (T := [9]) (i := 1) (v := .bool a149.lit.neg) q89.out (by decide)) (by decide))
        clear q86
        have q8c := hide (Terms.keep q87.out (Kp.setLoc (T := [9, 109]) (i := 1) (v := .bool a149.lit.neg) q89.out (by decide)) (by decide) (by decide))
        clear q87
        have q8d := hide (Terms.keep q88.out (Kp.setLoc (T := [9, 109]) (i := 1) (v := .bool a149.lit.neg) q89.out (by decide)) (by decide) (by decide))
        clear q88
        have q8e := hide (loc_set (i := 1) (v := .bool a149.lit.neg) q89.out)
        have q8f := hide (loc_other (p := ⟨w.heap.size, 1, none⟩) (v := .bool a149.lit.neg) q8a.out (qd.out))
        clear q89 q8a
        have H155 := hide (H154.out.setLoc Q131.out 1 (.bool a149.lit.neg))
        have F155 := hide (F154.out.setLoc G131.out 1 (.bool a149.lit.neg))
        clear H154 F154
        have q8g := hide (Strs.keep q8b.out (Kp.setLoc (T := [9]) (i := 2) (v := .string ⟨a149.lit.pred.toArray⟩) q8e.out (by decide)) (by decide))
        clear q8b
        have q8h := hide (Terms.keep q8c.out (Kp.setLoc (T := [9, 109]) (i := 2) (v := .string ⟨a149.lit.pred.toArray⟩) q8e.out (by decide)) (by decide) (by decide))
        clear q8c
        have q8i := hide (Terms.keep q8d.out (Kp.setLoc (T := [9, 109]) (i := 2) (v := .string ⟨a149.lit.pred.toArray⟩) q8e.out (by decide)) (by decide) (by decide))
        clear q8d
        have q8j := hide (loc_set (i := 2) (v := .string ⟨a149.lit.pred.toArray⟩) q8e.out)
        have q8k := hide (loc_other (p := ⟨w.heap.size, 2, none⟩) (v := .string ⟨a149.lit.pred.toArray⟩) q8f.out (qd.out))
        clear q8e q8f
        have H156 := hide (H155.out.setLoc Q131.out 2 (.string ⟨a149.lit.pred.toArray⟩))
        have F156 := hide (F155.out.setLoc G131.out 2 (.string ⟨a149.lit.pred.toArray⟩))
        clear H155 F155
        have q8l := hide (Strs.keep q8g.out (Kp.setLoc (T := [9]) (i := 3) (v := .slice q7J a149.lit.args.length q7K) q8j.out (by decide)) (by decide))
        clear q8g
        have q8m := hide (Terms.keep q8h.out (Kp.setLoc (T := [9, 109]) (i := 3) (v := .slice q7J a149.lit.args.length q7K) q8j.out (by decide)) (by decide) (by decide))
        clear q8h
        have q8n := hide (Terms.keep q8i.out (Kp.setLoc (T := [9, 109]) (i := 3) (v := .slice q7J a149.lit.args.length q7K) q8j.out (by decide)) (by decide) (by decide))
        clear q8i
        have q8o := hide (loc_set (i := 3) (v := .slice q7J a149.lit.args.length q7K) q8j.out)
        have q8p := hide (loc_other (p := ⟨w.heap.size, 3, none⟩) (v := .slice q7J a149.lit.args.length q7K) q8k.out (qd.out))
        clear q8j q8k
        have H157 := hide (H156.out.setLoc Q131.out 3 (.slice q7J a149.lit.args.length q7K))
        have F157 := hide (F156.out.setLoc G131.out 3 (.slice q7J a149.lit.args.length q7K))
        clear H156 F156
        have q8q := hide (Strs.keep q8l.out (Kp.setLoc (T := [9]) (i := 4) (v := .bool a149.lit.hasValue) q8o.out (by decide)) (by decide))
        clear q8l
        have q8r := hide (Terms.keep q8m.out (Kp.setLoc (T := [9, 109]) (i := 4) (v := .bool a149.lit.hasValue) q8o.out (by decide)) (by decide) (by decide))
        clear q8m
        have q8s := hide (Terms.keep q8n.out (Kp.setLoc (T := [9, 109]) (i := 4) (v := .bool a149.lit.hasValue) q8o.out (by decide)) (by decide) (by decide))
        clear q8n
        have q8t := hide (loc_set (i := 4) (v := .bool a149.lit.hasValue) q8o.out)
        have q8u := hide (loc_other (p := ⟨w.heap.size, 4, none⟩) (v := .bool a149.lit.hasValue) q8p.out (qd.out))
        clear q8o q8p
        have H158 := hide (H157.out.setLoc Q131.out 4 (.bool a149.lit.hasValue))
        have F158 := hide (F157.out.setLoc G131.out 4 (.bool a149.lit.hasValue))
        clear H157 F157
        have q8v := hide (Strs.keep q8q.out (Kp.setLoc (T := [9]) (i := 5) (v := .int .i64 a149.lit.value) q8t.out (by decide)) (by decide))
        clear q8q
        have q8w := hide (Terms.keep q8r.out (Kp.setLoc (T := [9, 109]) (i := 5) (v := .int .i64 a149.lit.value) q8t.out (by decide)) (by decide) (by decide))
        clear q8r
        have q8x := hide (Terms.keep q8s.out (Kp.setLoc (T := [9, 109]) (i := 5) (v := .int .i64 a149.lit.value) q8t.out (by decide)) (by decide) (by decide))
        clear q8s
        have q8y := hide (loc_set (i := 5) (v := .int .i64 a149.lit.value) q8t.out)
        have q8z := hide (loc_other (p := ⟨w.heap.size, 5, none⟩) (v := .int .i64 a149.lit.value) q8u.out (qd.out))
        clear q8t q8u
        have H159 := hide (H158.out.setLoc Q131.out 5 (.int .i64 a149.lit.value))
        have F159 := hide (F158.out.setLoc G131.out 5 (.int .i64 a149.lit.value))
        clear H158 F158
        have q8A := hide (Strs.keep q8v.out (Kp.setLoc (T := [9]) (i := 6) (v := .slice q7M a149.guard.left.length q7N) q8y.out (by decide)) (by decide))
        clear q8v
        have q8B := hide (Terms.keep q8w.out (Kp.setLoc (T := [9, 109]) (i := 6) (v := .slice q7M a149.guard.left.length q7N) q8y.out (by decide)) (by decide) (by decide))
        clear q8w
        have q8C := hide (Terms.keep q8x.out (Kp.setLoc (T := [9, 109]) (i := 6) (v := .slice q7M a149.guard.left.length q7N) q8y.out (by decide)) (by decide) (by decide))
        clear q8x
        have q8D := hide (loc_set (i := 6) (v := .slice q7M a149.guard.left.length q7N) q8y.out)
        have q8E := hide (loc_other (p := ⟨w.heap.size, 6, none⟩) (v := .slice q7M a149.guard.left.length q7N) q8z.out (qd.out))
        clear q8y q8z
        have H160 := hide (H159.out.setLoc Q131.out 6 (.slice q7M a149.guard.left.length q7N))
        have F160 := hide (F159.out.setLoc G131.out 6 (.slice q7M a149.guard.left.length q7N))
        clear H159 F159
        have q8F := hide (Strs.keep q8A.out (Kp.setLoc (T := [9]) (i := 7) (v := .int .i64 a149.guard.op) q8D.out (by decide)) (by decide))
        clear q8A
        have q8G := hide (Terms.keep q8B.out (Kp.setLoc (T := [9, 109]) (i := 7) (v := .int .i64 a149.guard.op) q8D.out (by decide)) (by decide) (by decide))
        clear q8B
        have q8H := hide (Terms.keep q8C.out (Kp.setLoc (T := [9, 109]) (i := 7) (v := .int .i64 a149.guard.op) q8D.out (by decide)) (by decide) (by decide))
        clear q8C
        have q8I := hide (loc_set (i := 7) (v := .int .i64 a149.guard.op) q8D.out)
        have q8J := hide (loc_other (p := ⟨w.heap.size, 7, none⟩) (v := .int .i64 a149.guard.op) q8E.out (qd.out))
        clear q8D q8E
        have H161 := hide (H160.out.setLoc Q131.out 7 (.int .i64 a149.guard.op))
        have F161 := hide (F160.out.setLoc G131.out 7 (.int .i64 a149.guard.op))
        clear H160 F160
        have q8K := hide (Strs.keep q8F.out (Kp.setLoc (T := [9]) (i := 8) (v := .slice q7P a149.guard.right.length q7Q) q8I.out (by decide)) (by decide))
        clear q8F
        have q8L := hide (Terms.keep q8G.out (Kp.setLoc (T := [9, 109]) (i := 8) (v := .slice q7P a149.guard.right.length q7Q) q8I.out (by decide)) (by decide) (by decide))
        clear q8G
        have q8M := hide (Terms.keep q8H.out (Kp.setLoc (T := [9, 109]) (i := 8) (v := .slice q7P a149.guard.right.length q7Q) q8I.out (by decide)) (by decide) (by decide))
        clear q8H
        have q8N := hide (loc_set (i := 8) (v := .slice q7P a149.guard.right.length q7Q) q8I.out)
        have q8O := hide (loc_other (p := ⟨w.heap.size, 8, none⟩) (v := .slice q7P a149.guard.right.length q7Q) q8J.out (qd.out))
        clear q8I q8J
        have H162 := hide (H161.out.setLoc Q131.out 8 (.slice q7P a149.guard.right.length q7Q))
        have F162 := hide (F161.out.setLoc G131.out 8 (.slice q7P a149.guard.right.length q7Q))
        clear H161 F161
        have q8P := hide (Strs.keep q8K.out (Kp.setLoc (T := [9]) (i := 9) (v := .string ⟨a149.a.toArray⟩) q8N.out (by decide)) (by decide))
        clear q8K
        have q8Q := hide (Terms.keep q8L.out (Kp.setLoc (T := [9, 109]) (i := 9) (v := .string ⟨a149.a.toArray⟩) q8N.out (by decide)) (by decide) (by decide))
        clear q8L
        have q8R := hide (Terms.keep q8M.out (Kp.setLoc (T := [9, 109]) (i := 9) (v := .string ⟨a149.a.toArray⟩) q8N.out (by decide)) (by decide) (by decide))
        clear q8M
        have q8S := hide (loc_set (i := 9) (v := .string ⟨a149.a.toArray⟩) q8N.out)
        have q8T := hide (loc_other (p := ⟨w.heap.size, 9, none⟩) (v := .string ⟨a149.a.toArray⟩) q8O.out (qd.out))
        clear q8N q8O
        have H163 := hide (H162.out.setLoc Q131.out 9 (.string ⟨a149.a.toArray⟩))
        have F163 := hide (F162.out.setLoc G131.out 9 (.string ⟨a149.a.toArray⟩))
        clear H162 F162
        have q8U := hide (Strs.keep q8P.out (Kp.setLoc (T := [9]) (i := 10) (v := .string ⟨a149.b.toArray⟩) q8S.out (by decide)) (by decide))
        clear q8P
        have q8V := hide (Terms.keep q8Q.out (Kp.setLoc (T := [9, 109]) (i := 10) (v := .string ⟨a149.b.toArray⟩) q8S.out (by decide)) (by decide) (by decide))
        clear q8Q
        have q8W := hide (Terms.keep q8R.out (Kp.setLoc (T := [9, 109]) (i := 10) (v := .string ⟨a149.b.toArray⟩) q8S.out (by decide)) (by decide) (by decide))
        clear q8R
        have q8X := hide (loc_set (i := 10) (v := .string ⟨a149.b.toArray⟩) q8S.out)
        have q8Y := hide (loc_other (p := ⟨w.heap.size, 10, none⟩) (v := .string ⟨a149.b.toArray⟩) q8T.out (qd.out))
        clear q8S q8T
        have H164 := hide (H163.out.setLoc Q131.out 10 (.string ⟨a149.b.toArray⟩))
        have F164 := hide (F163.out.setLoc G131.out 10 (.string ⟨a149.b.toArray⟩))
        clear H163 F163
        exact .of_ok HO149.out (⟨_, _, _, rfl, q8U.out, q8V.out, q8W.out⟩) H164.out F164.out
      | false =>
        rw [hm] at CM
        have HO := hide (ite_f ho (by simp [hm]))
        have ho2 := ask_go HO.out
        have CN := hide (markCall L s.n (placeAt L N s.n) [123])
        cases hm2 : markAt (kt L) s.n [123] with
        | true =>
          rw [hm2] at CN
          clear HO
          have HO := hide (ite_t ho2 hm2)
          rw [hk] at CA0 CN
          clear ho ho2 hk hm hm2
          go_enter Tryz.func132, Tryz.ntmps132
          have B165 : Below _ _ ((w).alloc (.cells #[.int .i64 0, .bool false, .string ⟨#[]⟩, .slice none 0 0, .bool false, .int .i64 0, .slice none 0 0, .int .i64 0, .slice none 0 0, .string ⟨#[]⟩, .string ⟨#[]⟩] 107)) := (Below.refl _ _).alloc (Nat.le_refl _) _
          have Q165 : Hid (R < w.heap.size) := hide H.out.lt
          have G165 : Hid (w.heap.size ≤ w.heap.size) := hide F.out.size
          have LB165 := hide (heap_alloc_new (w) (.cells #[.int .i64 0, .bool false, .string ⟨#[]⟩, .slice none 0 0, .bool false, .int .i64 0, .slice none 0 0, .int .i64 0, .slice none 0 0, .string ⟨#[]⟩, .string ⟨#[]⟩] 107))
          have H165 := hide (H.out.below B165)
          have F165 := hide (F.out.trans (Fq.of_below B165))
          clear H F B165
          go_wp2_with fail
          refine (CA0.out _ H165.out).mono ?_
          rintro _ w166 ⟨rfl, hb⟩
          have q8Z := hide ((hb.block _ (loc_lt LB165.out)).trans LB165.out)
          clear LB165
          have H166 := hide (H165.out.below hb)
          have F166 := hide (F165.out.trans (Fq.of_below hb))
          clear hb H165 F165
          obtain ⟨q90, q91, q92, q93, q94, q95, q96, q97, q98, q99, q9a, y167⟩ := row11 q8Z.out
          have B168 : Below _ _ ((w166).alloc (.cells #[.int .i64 2, .string ⟨(tx (kt L) s.n).toArray⟩, .int .i64 (placeAt L N s.n)] 50)) := (Below.refl _ _).alloc (Nat.le_refl _) _
          have Q168 : Hid (R < w166.heap.size) := hide H166.out.lt
          have G168 : Hid (w.heap.size ≤ w166.heap.size) := hide F166.out.size
          have qc : Hid (w.heap.size ≠ w166.heap.size) := hide (Nat.ne_of_lt (loc_lt q8Z.out))
          have qd : Hid (w166.heap.size ≠ w.heap.size) := hide (Nat.ne_of_gt (loc_lt q8Z.out))
          have q9b := hide ((B168.block _ (loc_lt q8Z.out)).trans q8Z.out)
          clear q8Z
          have LB168 := hide (heap_alloc_new (w166) (.cells #[.int .i64 2, .string ⟨(tx (kt L) s.n).toArray⟩, .int .i64 (placeAt L N s.n)] 50))
          have H168 := hide (H166.out.below B168)
          have F168 := hide (F166.out.trans (Fq.of_below B168))
          clear H166 F166 B168
          obtain ⟨q9c, q9d, q9e, q9f, q9g, q9h, q9i, q9j, q9k, q9l, q9m, y169⟩ := row11 q9b.out
          obtain ⟨q9n, q9o, q9p, y170⟩ := row3 LB168.out
          have x171 := qc.out
          have x172 := qd.out
          go_wp2_with fail
          refine (ahead_any R L N s st _ H168.out 1 (by omega)).mono ?_
          rintro _ w173 ⟨rfl, hb⟩
          clear q90 q91 q92 q93 q94 q95 q96 q97 q98 q99 q9a y167 q9c q9d q9e q9f q9g q9h q9i q9j q9k q9l q9m y169 q9n q9o q9p y170 x171 x172
          have q9q := hide ((hb.block _ (loc_lt q9b.out)).trans q9b.out)
          clear q9b
          have q9r := hide ((hb.block _ (loc_lt LB168.out)).trans LB168.out)
          clear LB168
          have H173 := hide (H168.out.below hb)
          have F173 := hide (F168.out.trans (Fq.of_below hb))
          clear hb H168 F168
          obtain ⟨q9s, q9t, q9u, q9v, q9w, q9x, q9y, q9z, q9A, q9B, q9C, y174⟩ := row11 q9q.out
          obtain ⟨q9D, q9E, q9F, y175⟩ := row3 q9r.out
          have x176 := qc.out
          have x177 := qd.out
          go_wp2_with fail
          refine (CM.out _).mono ?_
          rintro _ w178 ⟨rfl, hb⟩
          clear q9s q9t q9u q9v q9w q9x q9y q9z q9A q9B q9C y174 q9D q9E q9F y175 x176 x177
          have q9G := hide ((hb.block _ (loc_lt q9q.out)).trans q9q.out)
          clear q9q
          have q9H := hide ((hb.block _ (loc_lt q9r.out)).trans q9r.out)
          clear q9r
          have H178 := hide (H173.out.below hb)
          have F178 := hide (F173.out.trans (Fq.of_below hb))
          clear hb H173 F173
          obtain ⟨q9I, q9J, q9K, q9L, q9M, q9N, q9O, q9P, q9Q, q9R, q9S, y179⟩ := row11 q9G.out
          obtain ⟨q9T, q9U, q9V, y180⟩ := row3 q9H.out
          have x181 := qc.out
          have x182 := qd.out
          go_wp2_with fail
          refine (CN.out _).mono ?_
          rintro _ w183 ⟨rfl, hb⟩
          clear q9I q9J q9K q9L q9M q9N q9O q9P q9Q q9R q9S y179 q9T q9U q9V y180 x181 x182
          have q9W := hide ((hb.block _ (loc_lt q9G.out)).trans q9G.out)
          clear q9G
          have q9X := hide ((hb.block _ (loc_lt q9H.out)).trans q9H.out)
          clear q9H
          have H183 := hide (H178.out.below hb)
          have F183 := hide (F178.out.trans (Fq.of_below hb))
          clear hb H178 F178
          obtain ⟨q9Y, q9Z, qa0, qa1, qa2, qa3, qa4, qa5, qa6, qa7, qa8, y184⟩ := row11 q9W.out
          obtain ⟨qa9, qaa, qab, y185⟩ := row3 q9X.out
          have x186 := qc.out
          have x187 := qd.out
          have C188 := hide (guard_any R L N s st _ H183.out _ rfl)
          go_wp2_with fail
          refine C188.out.mono ?_
          intro e w188 he
          rcases he.split with ⟨a188, s188, v188, ho, rfl, hv, hR, hF⟩ | ⟨c, m, ho, rfl, hF⟩
          rotate_left 1
          · exact on_panic rfl (.of_bad (bind_no HO.out ho) (F183.out.trans hF))
          clear q9Y q9Z qa0 qa1 qa2 qa3 qa4 qa5 qa6 qa7 qa8 y184 qa9 qaa qab y185 x186 x187
          have HO188 := hide (bind_go HO.out ho)
          have qac := hide (hF.loc q9W.out (Nat.ne_of_gt Q165.out))
          clear q9W
          have qad := hide (hF.loc q9X.out (Nat.ne_of_gt Q168.out))
          clear q9X
          have H188 := hide hR
          have F188 := hide (F183.out.trans hF)
          obtain ⟨lv188, rv188, rfl, qae, qaf⟩ := hv
          obtain ⟨qag, qah, rfl⟩ := rows_form qae
          have qai := hide (Terms.mono qae fun g hg => Nat.le_trans F183.out.size hg)
          clear qae
          obtain ⟨qaj, qak, rfl⟩ := rows_form qaf
          have qal := hide (Terms.mono qaf fun g hg => Nat.le_trans F183.out.size hg)
          clear qaf
          clear he ho hR hF C188 H183 F183 HO
          obtain ⟨qam, qan, qao, qap, qaq, qar, qas, qat, qau, qav, qaw, y189⟩ := row11 qac.out
          obtain ⟨qax, qay, qaz, y190⟩ := row3 qad.out
          have x191 := qc.out
          have x192 := qd.out
          go_wp2_with fail
          have hz := (And.intro qam (And.intro qan (And.intro qao (And.intro qap (And.intro qaq (And.intro qar (And.intro qas (And.intro qat (And.intro qau (And.intro qav (And.intro qaw (And.intro y189 (And.intro qax (And.intro qay (And.intro qaz (And.intro y190 (And.intro x191 x192)))))))))))))))))
          simp [bodyPost, results, Tryz.results132, go_sem, hz]
          have qaA := hide (Terms.keep qai.out (Kp.setLoc (T := [9, 109]) (i := 0) (v := .int .i64 2) qac.out (by decide)) (by decide) (by decide))
          clear qai
          have qaB := hide (Terms.keep qal.out (Kp.setLoc (T := [9, 109]) (i := 0) (v := .int .i64 2) qac.out (by decide)) (by decide) (by decide))
          clear qal
          have qaC := hide (loc_set (i := 0) (v := .int .i64 2) qac.out)
          have qaD := hide (loc_other (p := ⟨w.heap.size, 0, none⟩) (v := .int .i64 2) qad.out (qd.out))
          clear qac qad
          have H193 := hide (H188.out.setLoc Q165.out 0 (.int .i64 2))
          have F193 := hide (F188.out.setLoc G165.out 0 (.int .i64 2))
          clear H188 F188
          have qaE := hide (Terms.keep qaA.out (Kp.setLoc (T := [9, 109]) (i := 1) (v := .bool false) qaC.out (by decide)) (by decide) (by decide))
          clear qaA
          have qaF := hide (Terms.keep qaB.out (Kp.setLoc (T := [9, 109]) (i := 1) (v := .bool false) qaC.out (by decide)) (by decide) (by decide))
          clear qaB
          have qaG := hide (loc_set (i := 1) (v := .bool false) qaC.out)
          have qaH := hide (loc_other (p := ⟨w.heap.size, 1, none⟩) (v := .bool false) qaD.out (qd.out))
          clear qaC qaD
          have H194 := hide (H193.out.setLoc Q165.out 1 (.bool false))
          have F194 := hide (F193.out.setLoc G165.out 1 (.bool false))
          clear H193 F193
          have qaI := hide (Terms.keep qaE.out (Kp.setLoc (T := [9, 109]) (i := 2) (v := .string ⟨#[]⟩) qaG.out (by decide)) (by decide) (by decide))
          clear qaE
          have qaJ := hide (Terms.keep qaF.out (Kp.setLoc (T := [9, 109]) (i := 2) (v := .string ⟨#[]⟩) qaG.out (by decide)) (by decide) (by decide))
          clear qaF
          have qaK := hide (loc_set (i := 2) (v := .string ⟨#[]⟩) qaG.out)
          have qaL := hide (loc_other (p := ⟨w.heap.size, 2, none⟩) (v := .string ⟨#[]⟩) qaH.out (qd.out))
          clear qaG qaH
          have H195 := hide (H194.out.setLoc Q165.out 2 (.string ⟨#[]⟩))
          have F195 := hide (F194.out.setLoc G165.out 2 (.string ⟨#[]⟩))
          clear H194 F194
          have qaM := hide (Terms.keep qaI.out (Kp.setLoc (T := [9, 109]) (i := 3) (v := .slice none 0 0) qaK.out (by decide)) (by decide) (by decide))
          clear qaI
          have qaN := hide (Terms.keep qaJ.out (Kp.setLoc (T := [9, 109]) (i := 3) (v := .slice none 0 0) qaK.out (by decide)) (by decide) (by decide))
          clear qaJ
          have qaO := hide (loc_set (i := 3) (v := .slice none 0 0) qaK.out)
          have qaP := hide (loc_other (p := ⟨w.heap.size, 3, none⟩) (v := .slice none 0 0) qaL.out (qd.out))
          clear qaK qaL
          have H196 := hide (H195.out.setLoc Q165.out 3 (.slice none 0 0))
          have F196 := hide (F195.out.setLoc G165.out 3 (.slice none 0 0))
          clear H195 F195
          have qaQ := hide (Terms.keep qaM.out (Kp.setLoc (T := [9, 109]) (i := 4) (v := .bool false) qaO.out (by decide)) (by decide) (by decide))
          clear qaM
          have qaR := hide (Terms.keep qaN.out (Kp.setLoc (T := [9, 109]) (i := 4) (v := .bool false) qaO.out (by decide)) (by decide) (by decide))
          clear qaN
          have qaS := hide (loc_set (i := 4) (v := .bool false) qaO.out)
          have qaT := hide (loc_other (p := ⟨w.heap.size, 4, none⟩) (v := .bool false) qaP.out (qd.out))
          clear qaO qaP
          have H197 := hide (H196.out.setLoc Q165.out 4 (.bool false))
          have F197 := hide (F196.out.setLoc G165.out 4 (.bool false))
          clear H196 F196
          have qaU := hide (Terms.keep qaQ.out (Kp.setLoc (T := [9, 109]) (i := 5) (v := .int .i64 0) qaS.out (by decide)) (by decide) (by decide))
          clear qaQ
          have qaV := hide (Terms.keep qaR.out (Kp.setLoc (T := [9, 109]) (i := 5) (v := .int .i64 0) qaS.out (by decide)) (by decide) (by decide))
          clear qaR
          have qaW := hide (loc_set (i := 5) (v := .int .i64 0) qaS.out)
          have qaX := hide (loc_other (p := ⟨w.heap.size, 5, none⟩) (v := .int .i64 0) qaT.out (qd.out))
          clear qaS qaT
          have H198 := hide (H197.out.setLoc Q165.out 5 (.int .i64 0))
          have F198 := hide (F197.out.setLoc G165.out 5 (.int .i64 0))
          clear H197 F197
          have qaY := hide (Terms.keep qaU.out (Kp.setLoc (T := [9, 109]) (i := 6) (v := .slice qag a188.left.length qah) qaW.out (by decide)) (by decide) (by decide))
          clear qaU
          have qaZ := hide (Terms.keep qaV.out (Kp.setLoc (T := [9, 109]) (i := 6) (v := .slice qag a188.left.length qah) qaW.out (by decide)) (by decide) (by decide))
          clear qaV
          have qb0 := hide (loc_set (i := 6) (v := .slice qag a188.left.length qah) qaW.out)
          have qb1 := hide (loc_other (p := ⟨w.heap.size, 6, none⟩) (v := .slice qag a188.left.length qah) qaX.out (qd.out))
          clear qaW qaX
          have H199 := hide (H198.out.setLoc Q165.out 6 (.slice qag a188.left.length qah))
          have F199 := hide (F198.out.setLoc G165.out 6 (.slice qag a188.left.length qah))
          clear H198 F198
          have qb2 := hide (Terms.keep qaY.out (Kp.setLoc (T := [9, 109]) (i := 7) (v := .int .i64 a188.op) qb0.out (by decide)) (by decide) (by decide))
          clear qaY
          have qb3 := hide (Terms.keep qaZ.out (Kp.setLoc (T := [9, 109]) (i := 7) (v := .int .i64 a188.op) qb0.out (by decide)) (by decide) (by decide))
          clear qaZ
          have qb4 := hide (loc_set (i := 7) (v := .int .i64 a188.op) qb0.out)
          have qb5 := hide (loc_other (p := ⟨w.heap.size, 7, none⟩) (v := .int .i64 a188.op) qb1.out (qd.out))
          clear qb0 qb1
          have H200 := hide (H199.out.setLoc Q165.out 7 (.int .i64 a188.op))
          have F200 := hide (F199.out.setLoc G165.out 7 (.int .i64 a188.op))
          clear H199 F199
          have qb6 := hide (Terms.keep qb2.out (Kp.setLoc (T := [9, 109]) (i := 8) (v := .slice qaj a188.right.length qak) qb4.out (by decide)) (by decide) (by decide))
          clear qb2
          have qb7 := hide (Terms.keep qb3.out (Kp.setLoc (T := [9, 109]) (i := 8) (v := .slice qaj a188.right.length qak) qb4.out (by decide)) (by decide) (by decide))
          clear qb3
          have qb8 := hide (loc_set (i := 8) (v := .slice qaj a188.right.length qak) qb4.out)
          have qb9 := hide (loc_other (p := ⟨w.heap.size, 8, none⟩) (v := .slice qaj a188.right.length qak) qb5.out (qd.out))
          clear qb4 qb5
          have H201 := hide (H200.out.setLoc Q165.out 8 (.slice qaj a188.right.length qak))
          have F201 := hide (F200.out.setLoc G165.out 8 (.slice qaj a188.right.length qak))
          clear H200 F200
          have qba := hide (Terms.keep qb6.out (Kp.setLoc (T := [9, 109]) (i := 9) (v := .string ⟨#[]⟩) qb8.out (by decide)) (by decide) (by decide))
          clear qb6
          have qbb := hide (Terms.keep qb7.out (Kp.setLoc (T := [9, 109]) (i := 9) (v := .string ⟨#[]⟩) qb8.out (by decide)) (by decide) (by decide))
          clear qb7
          have qbc := hide (loc_set (i := 9) (v := .string ⟨#[]⟩) qb8.out)
          have qbd := hide (loc_other (p := ⟨w.heap.size, 9, none⟩) (v := .string ⟨#[]⟩) qb9.out (qd.out))
          clear qb8 qb9
          have H202 := hide (H201.out.setLoc Q165.out 9 (.string ⟨#[]⟩))
          have F202 := hide (F201.out.setLoc G165.out 9 (.string ⟨#[]⟩))
          clear H201 F201
          have qbe := hide (Terms.keep qba.out (Kp.setLoc (T := [9, 109]) (i := 10) (v := .string ⟨#[]⟩) qbc.out (by decide)) (by decide) (by decide))
          clear qba
          have qbf := hide (Terms.keep qbb.out (Kp.setLoc (T := [9, 109]) (i := 10) (v := .string ⟨#[]⟩) qbc.out (by decide)) (by decide) (by decide))
          clear qbb
          have qbg := hide (loc_set (i := 10) (v := .string ⟨#[]⟩) qbc.out)
          have qbh := hide (loc_other (p := ⟨w.heap.size, 10, none⟩) (v := .string ⟨#[]⟩) qbd.out (qd.out))
          clear qbc qbd
          have H203 := hide (H202.out.setLoc Q165.out 10 (.string ⟨#[]⟩))
          have F203 := hide (F202.out.setLoc G165.out 10 (.string ⟨#[]⟩))
          clear H202 F202
          exact .of_ok HO188.out (⟨_, _, _, rfl, Rows.nil _ _ _ _ _, qbe.out, qbf.out⟩) H203.out F203.out
        | false =>
          rw [hm2] at CN
          clear HO
          have HO := hide (ite_f ho2 hm2)
          rw [hk] at CA0 CN
          clear ho ho2 hk hm hm2
          go_enter Tryz.func132, Tryz.ntmps132
          have B204 : Below _ _ ((w).alloc (.cells #[.int .i64 0, .bool false, .string ⟨#[]⟩, .slice none 0 0, .bool false, .int .i64 0, .slice none 0 0, .int .i64 0, .slice none 0 0, .string ⟨#[]⟩, .string ⟨#[]⟩] 107)) := (Below.refl _ _).alloc (Nat.le_refl _) _
          have Q204 : Hid (R < w.heap.size) := hide H.out.lt
          have G204 : Hid (w.heap.size ≤ w.heap.size) := hide F.out.size
          have LB204 := hide (heap_alloc_new (w) (.cells #[.int .i64 0, .bool false, .string ⟨#[]⟩, .slice none 0 0, .bool false, .int .i64 0, .slice none 0 0, .int .i64 0, .slice none 0 0, .string ⟨#[]⟩, .string ⟨#[]⟩] 107))
          have H204 := hide (H.out.below B204)
          have F204 := hide (F.out.trans (Fq.of_below B204))
          clear H F B204
          go_wp2_with fail
          refine (CA0.out _ H204.out).mono ?_
          rintro _ w205 ⟨rfl, hb⟩
          have qbi := hide ((hb.block _ (loc_lt LB204.out)).trans LB204.out)
          clear LB204
          have H205 := hide (H204.out.below hb)
          have F205 := hide (F204.out.trans (Fq.of_below hb))
          clear hb H204 F204
          obtain ⟨qbj, qbk, qbl, qbm, qbn, qbo, qbp, qbq, qbr, qbs, qbt, y206⟩ := row11 qbi.out
          have B207 : Below _ _ ((w205).alloc (.cells #[.int .i64 2, .string ⟨(tx (kt L) s.n).toArray⟩, .int .i64 (placeAt L N s.n)] 50)) := (Below.refl _ _).alloc (Nat.le_refl _) _
          have Q207 : Hid (R < w205.heap.size) := hide H205.out.lt
          have G207 : Hid (w.heap.size ≤ w205.heap.size) := hide F205.out.size
          have qc : Hid (w.heap.size ≠ w205.heap.size) := hide (Nat.ne_of_lt (loc_lt qbi.out))
          have qd : Hid (w205.heap.size ≠ w.heap.size) := hide (Nat.ne_of_gt (loc_lt qbi.out))
          have qbu := hide ((B207.block _ (loc_lt qbi.out)).trans qbi.out)
          clear qbi
          have LB207 := hide (heap_alloc_new (w205) (.cells #[.int .i64 2, .string ⟨(tx (kt L) s.n).toArray⟩, .int .i64 (placeAt L N s.n)] 50))
          have H207 := hide (H205.out.below B207)
          have F207 := hide (F205.out.trans (Fq.of_below B207))
          clear H205 F205 B207
          obtain ⟨qbv, qbw, qbx, qby, qbz, qbA, qbB, qbC, qbD, qbE, qbF, y208⟩ := row11 qbu.out
          obtain ⟨qbG, qbH, qbI, y209⟩ := row3 LB207.out
          have x210 := qc.out
          have x211 := qd.out
          go_wp2_with fail
          refine (ahead_any R L N s st _ H207.out 1 (by omega)).mono ?_
          rintro _ w212 ⟨rfl, hb⟩
          clear qbj qbk qbl qbm qbn qbo qbp qbq qbr qbs qbt y206 qbv qbw qbx qby qbz qbA qbB qbC qbD qbE qbF y208 qbG qbH qbI y209 x210 x211
          have qbJ := hide ((hb.block _ (loc_lt qbu.out)).trans qbu.out)
          clear qbu
          have qbK := hide ((hb.block _ (loc_lt LB207.out)).trans LB207.out)
          clear LB207
          have H212 := hide (H207.out.below hb)
          have F212 := hide (F207.out.trans (Fq.of_below hb))
          clear hb H207 F207
          obtain ⟨qbL, qbM, qbN, qbO, qbP, qbQ, qbR, qbS, qbT, qbU, qbV, y213⟩ := row11 qbJ.out
          obtain ⟨qbW, qbX, qbY, y214⟩ := row3 qbK.out
          have x215 := qc.out
          have x216 := qd.out
          go_wp2_with fail
          refine (CM.out _).mono ?_
          rintro _ w217 ⟨rfl, hb⟩
          clear qbL qbM qbN qbO qbP qbQ qbR qbS qbT qbU qbV y213 qbW qbX qbY y214 x215 x216
          have qbZ := hide ((hb.block _ (loc_lt qbJ.out)).trans qbJ.out)
          clear qbJ
          have qc0 := hide ((hb.block _ (loc_lt qbK.out)).trans qbK.out)
          clear qbK
          have H217 := hide (H212.out.below hb)
          have F217 := hide (F212.out.trans (Fq.of_below hb))
          clear hb H212 F212
          obtain ⟨qc1, qc2, qc3, qc4, qc5, qc6, qc7, qc8, qc9, qca, qcb, y218⟩ := row11 qbZ.out
          obtain ⟨qcc, qcd, qce, y219⟩ := row3 qc0.out
          have x220 := qc.out
          have x221 := qd.out
          go_wp2_with fail
          refine (CN.out _).mono ?_
          rintro _ w222 ⟨rfl, hb⟩
          clear qc1 qc2 qc3 qc4 qc5 qc6 qc7 qc8 qc9 qca qcb y218 qcc qcd qce y219 x220 x221
          have qcf := hide ((hb.block _ (loc_lt qbZ.out)).trans qbZ.out)
          clear qbZ
          have qcg := hide ((hb.block _ (loc_lt qc0.out)).trans qc0.out)
          clear qc0
          have H222 := hide (H217.out.below hb)
          have F222 := hide (F217.out.trans (Fq.of_below hb))
          clear hb H217 F217
          obtain ⟨qch, qci, qcj, qck, qcl, qcm, qcn, qco, qcp, qcq, qcr, y223⟩ := row11 qcf.out
          obtain ⟨qcs, qct, qcu, y224⟩ := row3 qcg.out
          have x225 := qc.out
          have x226 := qd.out
          have C227 := hide (literal_any R L N s st _ H222.out _ rfl)
          go_wp2_with fail
          refine C227.out.mono ?_
          intro e w227 he
          rcases he.split with ⟨a227, s227, v227, ho, rfl, hv, hR, hF⟩ | ⟨c, m, ho, rfl, hF⟩
          rotate_left 1
          · exact on_panic rfl (.of_bad (bind_no HO.out ho) (F222.out.trans hF))
          clear qch qci qcj qck qcl qcm qcn qco qcp qcq qcr y223 qcs qct qcu y224 x225 x226
          have HO227 := hide (bind_go HO.out ho)
          have qcv := hide (hF.loc qcf.out (Nat.ne_of_gt Q204.out))
          clear qcf
          have qcw := hide (hF.loc qcg.out (Nat.ne_of_gt Q207.out))
          clear qcg
          have H227 := hide hR
          have F227 := hide (F222.out.trans hF)
          obtain ⟨av227, rfl, qcx⟩ := hv
          obtain ⟨qcy, qcz, rfl⟩ := rows_form qcx
          have qcA := hide (Strs.mono qcx fun g hg => Nat.le_trans F222.out.size hg)
          clear qcx
          clear he ho hR hF C227 H222 F222 HO
          obtain ⟨qcB, qcC, qcD, qcE, qcF, qcG, qcH, qcI, qcJ, qcK, qcL, y228⟩ := row11 qcv.out
          obtain ⟨qcM, qcN, qcO, y229⟩ := row3 qcw.out
          have x230 := qc.out
          have x231 := qd.out
          go_wp2_with fail
          have hz := (And.intro qcB (And.intro qcC (And.intro qcD (And.intro qcE (And.intro qcF (And.intro qcG (And.intro qcH (And.intro qcI (And.intro qcJ (And.intro qcK (And.intro qcL (And.intro y228 (And.intro qcM (And.intro qcN (And.intro qcO (And.intro y229 (And.intro x230 x231)))))))))))))))))
          simp [bodyPost, results, Tryz.results132, go_sem, hz]
          have qcP := hide (Strs.keep qcA.out (Kp.setLoc (T := [9]) (i := 0) (v := .int .i64 1) qcv.out (by decide)) (by decide))
          clear qcA
          have qcQ := hide (loc_set (i := 0) (v := .int .i64 1) qcv.out)
          have qcR := hide (loc_other (p := ⟨w.heap.size, 0, none⟩) (v := .int .i64 1) qcw.out (qd.out))
          clear qcv qcw
          have H232 := hide (H227.out.setLoc Q204.out 0 (.int .i64 1))
          have F232 := hide (F227.out.setLoc G204.out 0 (.int .i64 1))
          clear H227 F227
          have qcS := hide (Strs.keep qcP.out (Kp.setLoc (T := [9]) (i := 1) (v := .bool a227.neg) qcQ.out (by decide)) (by decide))
          clear qcP
          have qcT := hide (loc_set (i := 1) (v := .bool a227.neg) qcQ.out)
          have qcU := hide (loc_other (p := ⟨w.heap.size, 1, none⟩) (v := .bool a227.neg) qcR.out (qd.out))
          clear qcQ qcR
          have H233 := hide (H232.out.setLoc Q204.out 1 (.bool a227.neg))
          have F233 := hide (F232.out.setLoc G204.out 1 (.bool a227.neg))
          clear H232 F232
          have qcV := hide (Strs.keep qcS.out (Kp.setLoc (T := [9]) (i := 2) (v := .string ⟨a227.pred.toArray⟩) qcT.out (by decide)) (by decide))
          clear qcS
          have qcW := hide (loc_set (i := 2) (v := .string ⟨a227.pred.toArray⟩) qcT.out)
          have qcX := hide (loc_other (p := ⟨w.heap.size, 2, none⟩) (v := .string ⟨a227.pred.toArray⟩) qcU.out (qd.out))
          clear qcT qcU
          have H234 := hide (H233.out.setLoc Q204.out 2 (.string ⟨a227.pred.toArray⟩))
          have F234 := hide (F233.out.setLoc G204.out 2 (.string ⟨a227.pred.toArray⟩))
          clear H233 F233
          have qcY := hide (Strs.keep qcV.out (Kp.setLoc (T := [9]) (i := 3) (v := .slice qcy a227.args.length qcz) qcW.out (by decide)) (by decide))
          clear qcV
          have qcZ := hide (loc_set (i := 3) (v := .slice qcy a227.args.length qcz) qcW.out)
          have qd0 := hide (loc_other (p := ⟨w.heap.size, 3, none⟩) (v := .slice qcy a227.args.length qcz) qcX.out (qd.out))
          clear qcW qcX
          have H235 := hide (H234.out.setLoc Q204.out 3 (.slice qcy a227.args.length qcz))
          have F235 := hide (F234.out.setLoc G204.out 3 (.slice qcy a227.args.length qcz))
          clear H234 F234
          have qd1 := hide (Strs.keep qcY.out (Kp.setLoc (T := [9]) (i := 4) (v := .bool a227.hasValue) qcZ.out (by decide)) (by decide))
          clear qcY
          have qd2 := hide (loc_set (i := 4) (v := .bool a227.hasValue) qcZ.out)
          have qd3 := hide (loc_other (p := ⟨w.heap.size, 4, none⟩) (v := .bool a227.hasValue) qd0.out (qd.out))
          clear qcZ qd0
          have H236 := hide (H235.out.setLoc Q204.out 4 (.bool a227.hasValue))
          have F236 := hide (F235.out.setLoc G204.out 4 (.bool a227.hasValue))
          clear H235 F235
          have qd4 := hide (Strs.keep qd1.out (Kp.setLoc (T := [9]) (i := 5) (v := .int .i64 a227.value) qd2.out (by decide)) (by decide))
          clear qd1
          have qd5 := hide (loc_set (i := 5) (v := .int .i64 a227.value) qd2.out)
          have qd6 := hide (loc_other (p := ⟨w.heap.size, 5, none⟩) (v := .int .i64 a227.value) qd3.out (qd.out))
          clear qd2 qd3
          have H237 := hide (H236.out.setLoc Q204.out 5 (.int .i64 a227.value))
          have F237 := hide (F236.out.setLoc G204.out 5 (.int .i64 a227.value))
          clear H236 F236
          have qd7 := hide (Strs.keep qd4.out (Kp.setLoc (T := [9]) (i := 6) (v := .slice none 0 0) qd5.out (by decide)) (by decide))
          clear qd4
          have qd8 := hide (loc_set (i := 6) (v := .slice none 0 0) qd5.out)
          have qd9 := hide (loc_other (p := ⟨w.heap.size, 6, none⟩) (v := .slice none 0 0) qd6.out (qd.out))
          clear qd5 qd6
          have H238 := hide (H237.out.setLoc Q204.out 6 (.slice none 0 0))
          have F238 := hide (F237.out.setLoc G204.out 6 (.slice none 0 0))
          clear H237 F237
          have qda := hide (Strs.keep qd7.out (Kp.setLoc (T := [9]) (i := 7) (v := .int .i64 0) qd8.out (by decide)) (by decide))
          clear qd7
          have qdb := hide (loc_set (i := 7) (v := .int .i64 0) qd8.out)
          have qdc := hide (loc_other (p := ⟨w.heap.size, 7, none⟩) (v := .int .i64 0) qd9.out (qd.out))
          clear qd8 qd9
          have H239 := hide (H238.out.setLoc Q204.out 7 (.int .i64 0))
          have F239 := hide (F238.out.setLoc G204.out 7 (.int .i64 0))
          clear H238 F238
          have qdd := hide (Strs.keep qda.out (Kp.setLoc (T := [9]) (i := 8) (v := .slice none 0 0) qdb.out (by decide)) (by decide))
          clear qda
          have qde := hide (loc_set (i := 8) (v := .slice none 0 0) qdb.out)
          have qdf := hide (loc_other (p := ⟨w.heap.size, 8, none⟩) (v := .slice none 0 0) qdc.out (qd.out))
          clear qdb qdc
          have H240 := hide (H239.out.setLoc Q204.out 8 (.slice none 0 0))
          have F240 := hide (F239.out.setLoc G204.out 8 (.slice none 0 0))
          clear H239 F239
          have qdg := hide (Strs.keep qdd.out (Kp.setLoc (T := [9]) (i := 9) (v := .string ⟨#[]⟩) qde.out (by decide)) (by decide))
          clear qdd
          have qdh := hide (loc_set (i := 9) (v := .string ⟨#[]⟩) qde.out)
          have qdi := hide (loc_other (p := ⟨w.heap.size, 9, none⟩) (v := .string ⟨#[]⟩) qdf.out (qd.out))
          clear qde qdf
          have H241 := hide (H240.out.setLoc Q204.out 9 (.string ⟨#[]⟩))
          have F241 := hide (F240.out.setLoc G204.out 9 (.string ⟨#[]⟩))
          clear H240 F240
          have qdj := hide (Strs.keep qdg.out (Kp.setLoc (T := [9]) (i := 10) (v := .string ⟨#[]⟩) qdh.out (by decide)) (by decide))
          clear qdg
          have qdk := hide (loc_set (i := 10) (v := .string ⟨#[]⟩) qdh.out)
          have qdl := hide (loc_other (p := ⟨w.heap.size, 10, none⟩) (v := .string ⟨#[]⟩) qdi.out (qd.out))
          clear qdh qdi
          have H242 := hide (H241.out.setLoc Q204.out 10 (.string ⟨#[]⟩))
          have F242 := hide (F241.out.setLoc G204.out 10 (.string ⟨#[]⟩))
          clear H241 F241
          exact .of_ok HO227.out (⟨_, _, _, rfl, qdj.out, Rows.nil _ _ _ _ _, Rows.nil _ _ _ _ _⟩) H242.out F242.out
    · have HO := hide (ite_f ho (by simp [hk1, hk2]))
      have ho2 := ask_go HO.out
      have CN := hide (markCall L s.n (placeAt L N s.n) [123])
      cases hm2 : markAt (kt L) s.n [123] with
      | true =>
        rw [hm2] at CN
        clear HO
        have HO := hide (ite_t ho2 hm2)
        have hk1' : ¬ ((kd (kt L) s.n : Nat) : Int) = 1 := by omega
        have hk2' : ¬ ((kd (kt L) s.n : Nat) : Int) = 2 := by omega
        clear ho ho2 hk1 hk2 hm2
        go_enter Tryz.func132, Tryz.ntmps132
        have B243 : Below _ _ ((w).alloc (.cells #[.int .i64 0, .bool false, .string ⟨#[]⟩, .slice none 0 0, .bool false, .int .i64 0, .slice none 0 0, .int .i64 0, .slice none 0 0, .string ⟨#[]⟩, .string ⟨#[]⟩] 107)) := (Below.refl _ _).alloc (Nat.le_refl _) _
        have Q243 : Hid (R < w.heap.size) := hide H.out.lt
        have G243 : Hid (w.heap.size ≤ w.heap.size) := hide F.out.size
        have LB243 := hide (heap_alloc_new (w) (.cells #[.int .i64 0, .bool false, .string ⟨#[]⟩, .slice none 0 0, .bool false, .int .i64 0, .slice none 0 0, .int .i64 0, .slice none 0 0, .string ⟨#[]⟩, .string ⟨#[]⟩] 107))
        have H243 := hide (H.out.below B243)
        have F243 := hide (F.out.trans (Fq.of_below B243))
        clear H F B243
        go_wp2_with fail
        refine (CA0.out _ H243.out).mono ?_
        rintro _ w244 ⟨rfl, hb⟩
        have qdm := hide ((hb.block _ (loc_lt LB243.out)).trans LB243.out)
        clear LB243
        have H244 := hide (H243.out.below hb)
        have F244 := hide (F243.out.trans (Fq.of_below hb))
        clear hb H243 F243
        obtain ⟨qdn, qdo, qdp, qdq, qdr, qds, qdt, qdu, qdv, qdw, qdx, y245⟩ := row11 qdm.out
        have B246 : Below _ _ ((w244).alloc (.cells #[.int .i64 (kd (kt L) s.n), .string ⟨(tx (kt L) s.n).toArray⟩, .int .i64 (placeAt L N s.n)] 50)) := (Below.refl _ _).alloc (Nat.le_refl _) _
        have Q246 : Hid (R < w244.heap.size) := hide H244.out.lt
        have G246 : Hid (w.heap.size ≤ w244.heap.size) := hide F244.out.size
        have qc : Hid (w.heap.size ≠ w244.heap.size) := hide (Nat.ne_of_lt (loc_lt qdm.out))
        have qd : Hid (w244.heap.size ≠ w.heap.size) := hide (Nat.ne_of_gt (loc_lt qdm.out))
        have qdy := hide ((B246.block _ (loc_lt qdm.out)).trans qdm.out)
        clear qdm
        have LB246 := hide (heap_alloc_new (w244) (.cells #[.int .i64 (kd (kt L) s.n), .string ⟨(tx (kt L) s.n).toArray⟩, .int .i64 (placeAt L N s.n)] 50))
        have H246 := hide (H244.out.below B246)
        have F246 := hide (F244.out.trans (Fq.of_below B246))
        clear H244 F244 B246
        obtain ⟨qdz, qdA, qdB, qdC, qdD, qdE, qdF, qdG, qdH, qdI, qdJ, y247⟩ := row11 qdy.out
        obtain ⟨qdK, qdL, qdM, y248⟩ := row3 LB246.out
        have x249 := qc.out
        have x250 := qd.out
        go_wp2_with fail
        refine (CN.out _).mono ?_
        rintro _ w251 ⟨rfl, hb⟩
        clear qdn qdo qdp qdq qdr qds qdt qdu qdv qdw qdx y245 qdz qdA qdB qdC qdD qdE qdF qdG qdH qdI qdJ y247 qdK qdL qdM y248 x249 x250
        have qdN := hide ((hb.block _ (loc_lt qdy.out)).trans qdy.out)
        clear qdy
        have qdO := hide ((hb.block _ (loc_lt LB246.out)).trans LB246.out)
        clear LB246
        have H251 := hide (H246.out.below hb)
        have F251 := hide (F246.out.trans (Fq.of_below hb))
        clear hb H246 F246
        obtain ⟨qdP, qdQ, qdR, qdS, qdT, qdU, qdV, qdW, qdX, qdY, qdZ, y252⟩ := row11 qdN.out
        obtain ⟨qe0, qe1, qe2, y253⟩ := row3 qdO.out
        have x254 := qc.out
        have x255 := qd.out
        have C256 := hide (guard_any R L N s st _ H251.out _ rfl)
        go_wp2_with fail
        refine C256.out.mono ?_
        intro e w256 he
        rcases he.split with ⟨a256, s256, v256, ho, rfl, hv, hR, hF⟩ | ⟨c, m, ho, rfl, hF⟩
        rotate_left 1
        · exact on_panic rfl (.of_bad (bind_no HO.out ho) (F251.out.trans hF))
        clear qdP qdQ qdR qdS qdT qdU qdV qdW qdX qdY qdZ y252 qe0 qe1 qe2 y253 x254 x255
        have HO256 := hide (bind_go HO.out ho)
        have qe3 := hide (hF.loc qdN.out (Nat.ne_of_gt Q243.out))
        clear qdN
        have qe4 := hide (hF.loc qdO.out (Nat.ne_of_gt Q246.out))
        clear qdO
        have H256 := hide hR
        have F256 := hide (F251.out.trans hF)
        obtain ⟨lv256, rv256, rfl, qe5, qe6⟩ := hv
        obtain ⟨qe7, qe8, rfl⟩ := rows_form qe5
        have qe9 := hide (Terms.mono qe5 fun g hg => Nat.le_trans F251.out.size hg)
        clear qe5
        obtain ⟨qea, qeb, rfl⟩ := rows_form qe6
        have qec := hide (Terms.mono qe6 fun g hg => Nat.le_trans F251.out.size hg)
        clear qe6
        clear he ho hR hF C256 H251 F251 HO
        obtain ⟨qed, qee, qef, qeg, qeh, qei, qej, qek, qel, qem, qen, y257⟩ := row11 qe3.out
        obtain ⟨qeo, qep, qeq, y258⟩ := row3 qe4.out
        have x259 := qc.out
        have x260 := qd.out
        go_wp2_with fail
        have hz := (And.intro qed (And.intro qee (And.intro qef (And.intro qeg (And.intro qeh (And.intro qei (And.intro qej (And.intro qek (And.intro qel (And.intro qem (And.intro qen (And.intro y257 (And.intro qeo (And.intro qep (And.intro qeq (And.intro y258 (And.intro x259 x260)))))))))))))))))
        simp [bodyPost, results, Tryz.results132, go_sem, hz]
        have qer := hide (Terms.keep qe9.out (Kp.setLoc (T := [9, 109]) (i := 0) (v := .int .i64 2) qe3.out (by decide)) (by decide) (by decide))
        clear qe9
        have qes := hide (Terms.keep qec.out (Kp.setLoc (T := [9, 109]) (i := 0) (v := .int .i64 2) qe3.out (by decide)) (by decide) (by decide))
        clear qec
        have qet := hide (loc_set (i := 0) (v := .int .i64 2) qe3.out)
        have qeu := hide (loc_other (p := ⟨w.heap.size, 0, none⟩) (v := .int .i64 2) qe4.out (qd.out))
        clear qe3 qe4
        have H261 := hide (H256.out.setLoc Q243.out 0 (.int .i64 2))
        have F261 := hide (F256.out.setLoc G243.out 0 (.int .i64 2))
        clear H256 F256
        have qev := hide (Terms.keep qer.out (Kp.setLoc (T := [9, 109]) (i := 1) (v := .bool false) qet.out (by decide)) (by decide) (by decide))
        clear qer
        have qew := hide (Terms.keep qes.out (Kp.setLoc (T := [9, 109]) (i := 1) (v := .bool false) qet.out (by decide)) (by decide) (by decide))
        clear qes
        have qex := hide (loc_set (i := 1) (v := .bool false) qet.out)
        have qey := hide (loc_other (p := ⟨w.heap.size, 1, none⟩) (v := .bool false) qeu.out (qd.out))
        clear qet qeu
        have H262 := hide (H261.out.setLoc Q243.out 1 (.bool false))
        have F262 := hide (F261.out.setLoc G243.out 1 (.bool false))
        clear H261 F261
        have qez := hide (Terms.keep qev.out (Kp.setLoc (T := [9, 109]) (i := 2) (v := .string ⟨#[]⟩) qex.out (by decide)) (by decide) (by decide))
        clear qev
        have qeA := hide (Terms.keep qew.out (Kp.setLoc (T := [9, 109]) (i := 2) (v := .string ⟨#[]⟩) qex.out (by decide)) (by decide) (by decide))
        clear qew
        have qeB := hide (loc_set (i := 2) (v := .string ⟨#[]⟩) qex.out)
        have qeC := hide (loc_other (p := ⟨w.heap.size, 2, none⟩) (v := .string ⟨#[]⟩) qey.out (qd.out))
        clear qex qey
        have H263 := hide (H262.out.setLoc Q243.out 2 (.string ⟨#[]⟩))
        have F263 := hide (F262.out.setLoc G243.out 2 (.string ⟨#[]⟩))
        clear H262 F262
        have qeD := hide (Terms.keep qez.out (Kp.setLoc (T := [9, 109]) (i := 3) (v := .slice none 0 0) qeB.out (by decide)) (by decide) (by decide))
        clear qez
        have qeE := hide (Terms.keep qeA.out (Kp.setLoc (T := [9, 109]) (i := 3) (v := .slice none 0 0) qeB.out (by decide)) (by decide) (by decide))
        clear qeA
        have qeF := hide (loc_set (i := 3) (v := .slice none 0 0) qeB.out)
        have qeG := hide (loc_other (p := ⟨w.heap.size, 3, none⟩) (v := .slice none 0 0) qeC.out (qd.out))
        clear qeB qeC
        have H264 := hide (H263.out.setLoc Q243.out 3 (.slice none 0 0))
        have F264 := hide (F263.out.setLoc G243.out 3 (.slice none 0 0))
        clear H263 F263
        have qeH := hide (Terms.keep qeD.out (Kp.setLoc (T := [9, 109]) (i := 4) (v := .bool false) qeF.out (by decide)) (by decide) (by decide))
        clear qeD
        have qeI := hide (Terms.keep qeE.out (Kp.setLoc (T := [9, 109]) (i := 4) (v := .bool false) qeF.out (by decide)) (by decide) (by decide))
        clear qeE
        have qeJ := hide (loc_set (i := 4) (v := .bool false) qeF.out)
        have qeK := hide (loc_other (p := ⟨w.heap.size, 4, none⟩) (v := .bool false) qeG.out (qd.out))
        clear qeF qeG
        have H265 := hide (H264.out.setLoc Q243.out 4 (.bool false))
        have F265 := hide (F264.out.setLoc G243.out 4 (.bool false))
        clear H264 F264
        have qeL := hide (Terms.keep qeH.out (Kp.setLoc (T := [9, 109]) (i := 5) (v := .int .i64 0) qeJ.out (by decide)) (by decide) (by decide))
        clear qeH
        have qeM := hide (Terms.keep qeI.out (Kp.setLoc (T := [9, 109]) (i := 5) (v := .int .i64 0) qeJ.out (by decide)) (by decide) (by decide))
        clear qeI
        have qeN := hide (loc_set (i := 5) (v := .int .i64 0) qeJ.out)
        have qeO := hide (loc_other (p := ⟨w.heap.size, 5, none⟩) (v := .int .i64 0) qeK.out (qd.out))
        clear qeJ qeK
        have H266 := hide (H265.out.setLoc Q243.out 5 (.int .i64 0))
        have F266 := hide (F265.out.setLoc G243.out 5 (.int .i64 0))
        clear H265 F265
        have qeP := hide (Terms.keep qeL.out (Kp.setLoc (T := [9, 109]) (i := 6) (v := .slice qe7 a256.left.length qe8) qeN.out (by decide)) (by decide) (by decide))
        clear qeL
        have qeQ := hide (Terms.keep qeM.out (Kp.setLoc (T := [9, 109]) (i := 6) (v := .slice qe7 a256.left.length qe8) qeN.out (by decide)) (by decide) (by decide))
        clear qeM
        have qeR := hide (loc_set (i := 6) (v := .slice qe7 a256.left.length qe8) qeN.out)
        have qeS := hide (loc_other (p := ⟨w.heap.size, 6, none⟩) (v := .slice qe7 a256.left.length qe8) qeO.out (qd.out))
        clear qeN qeO
        have H267 := hide (H266.out.setLoc Q243.out 6 (.slice qe7 a256.left.length qe8))
        have F267 := hide (F266.out.setLoc G243.out 6 (.slice qe7 a256.left.length qe8))
        clear H266 F266
        have qeT := hide (Terms.keep qeP.out (Kp.setLoc (T := [9, 109]) (i := 7) (v := .int .i64 a256.op) qeR.out (by decide)) (by decide) (by decide))
        clear qeP
        have qeU := hide (Terms.keep qeQ.out (Kp.setLoc (T := [9, 109]) (i := 7) (v := .int .i64 a256.op) qeR.out (by decide)) (by decide) (by decide))
        clear qeQ
        have qeV := hide (loc_set (i := 7) (v := .int .i64 a256.op) qeR.out)
        have qeW := hide (loc_other (p := ⟨w.heap.size, 7, none⟩) (v := .int .i64 a256.op) qeS.out (qd.out))
        clear qeR qeS
        have H268 := hide (H267.out.setLoc Q243.out 7 (.int .i64 a256.op))
        have F268 := hide (F267.out.setLoc G243.out 7 (.int .i64 a256.op))
        clear H267 F267
        have qeX := hide (Terms.keep qeT.out (Kp.setLoc (T := [9, 109]) (i := 8) (v := .slice qea a256.right.length qeb) qeV.out (by decide)) (by decide) (by decide))
        clear qeT
        have qeY := hide (Terms.keep qeU.out (Kp.setLoc (T := [9, 109]) (i := 8) (v := .slice qea a256.right.length qeb) qeV.out (by decide)) (by decide) (by decide))
        clear qeU
        have qeZ := hide (loc_set (i := 8) (v := .slice qea a256.right.length qeb) qeV.out)
        have qf0 := hide (loc_other (p := ⟨w.heap.size, 8, none⟩) (v := .slice qea a256.right.length qeb) qeW.out (qd.out))
        clear qeV qeW
        have H269 := hide (H268.out.setLoc Q243.out 8 (.slice qea a256.right.length qeb))
        have F269 := hide (F268.out.setLoc G243.out 8 (.slice qea a256.right.length qeb))
        clear H268 F268
        have qf1 := hide (Terms.keep qeX.out (Kp.setLoc (T := [9, 109]) (i := 9) (v := .string ⟨#[]⟩) qeZ.out (by decide)) (by decide) (by decide))
        clear qeX
        have qf2 := hide (Terms.keep qeY.out (Kp.setLoc (T := [9, 109]) (i := 9) (v := .string ⟨#[]⟩) qeZ.out (by decide)) (by decide) (by decide))
        clear qeY
        have qf3 := hide (loc_set (i := 9) (v := .string ⟨#[]⟩) qeZ.out)
        have qf4 := hide (loc_other (p := ⟨w.heap.size, 9, none⟩) (v := .string ⟨#[]⟩) qf0.out (qd.out))
        clear qeZ qf0
        have H270 := hide (H269.out.setLoc Q243.out 9 (.string ⟨#[]⟩))
        have F270 := hide (F269.out.setLoc G243.out 9 (.string ⟨#[]⟩))
        clear H269 F269
        have qf5 := hide (Terms.keep qf1.out (Kp.setLoc (T := [9, 109]) (i := 10) (v := .string ⟨#[]⟩) qf3.out (by decide)) (by decide) (by decide))
        clear qf1
        have qf6 := hide (Terms.keep qf2.out (Kp.setLoc (T := [9, 109]) (i := 10) (v := .string ⟨#[]⟩) qf3.out (by decide)) (by decide) (by decide))
        clear qf2
        have qf7 := hide (loc_set (i := 10) (v := .string ⟨#[]⟩) qf3.out)
        have qf8 := hide (loc_other (p := ⟨w.heap.size, 10, none⟩) (v := .string ⟨#[]⟩) qf4.out (qd.out))
        clear qf3 qf4
        have H271 := hide (H270.out.setLoc Q243.out 10 (.string ⟨#[]⟩))
        have F271 := hide (F270.out.setLoc G243.out 10 (.string ⟨#[]⟩))
        clear H270 F270
        exact .of_ok HO256.out (⟨_, _, _, rfl, Rows.nil _ _ _ _ _, qf5.out, qf6.out⟩) H271.out F271.out
      | false =>
        rw [hm2] at CN
        clear HO
        have HO := hide (ite_f ho2 hm2)
        have hk1' : ¬ ((kd (kt L) s.n : Nat) : Int) = 1 := by omega
        have hk2' : ¬ ((kd (kt L) s.n : Nat) : Int) = 2 := by omega
        clear ho ho2 hk1 hk2 hm2
        go_enter Tryz.func132, Tryz.ntmps132
        have B272 : Below _ _ ((w).alloc (.cells #[.int .i64 0, .bool false, .string ⟨#[]⟩, .slice none 0 0, .bool false, .int .i64 0, .slice none 0 0, .int .i64 0, .slice none 0 0, .string ⟨#[]⟩, .string ⟨#[]⟩] 107)) := (Below.refl _ _).alloc (Nat.le_refl _) _
        have Q272 : Hid (R < w.heap.size) := hide H.out.lt
        have G272 : Hid (w.heap.size ≤ w.heap.size) := hide F.out.size
        have LB272 := hide (heap_alloc_new (w) (.cells #[.int .i64 0, .bool false, .string ⟨#[]⟩, .slice none 0 0, .bool false, .int .i64 0, .slice none 0 0, .int .i64 0, .slice none 0 0, .string ⟨#[]⟩, .string ⟨#[]⟩] 107))
        have H272 := hide (H.out.below B272)
        have F272 := hide (F.out.trans (Fq.of_below B272))
        clear H F B272
        go_wp2_with fail
        refine (CA0.out _ H272.out).mono ?_
        rintro _ w273 ⟨rfl, hb⟩
        have qf9 := hide ((hb.block _ (loc_lt LB272.out)).trans LB272.out)
        clear LB272
        have H273 := hide (H272.out.below hb)
        have F273 := hide (F272.out.trans (Fq.of_below hb))
        clear hb H272 F272
        obtain ⟨qfa, qfb, qfc, qfd, qfe, qff, qfg, qfh, qfi, qfj, qfk, y274⟩ := row11 qf9.out
        have B275 : Below _ _ ((w273).alloc (.cells #[.int .i64 (kd (kt L) s.n), .string ⟨(tx (kt L) s.n).toArray⟩, .int .i64 (placeAt L N s.n)] 50)) := (Below.refl _ _).alloc (Nat.le_refl _) _
        have Q275 : Hid (R < w273.heap.size) := hide H273.out.lt
        have G275 : Hid (w.heap.size ≤ w273.heap.size) := hide F273.out.size
        have qc : Hid (w.heap.size ≠ w273.heap.size) := hide (Nat.ne_of_lt (loc_lt qf9.out))
        have qd : Hid (w273.heap.size ≠ w.heap.size) := hide (Nat.ne_of_gt (loc_lt qf9.out))
        have qfl := hide ((B275.block _ (loc_lt qf9.out)).trans qf9.out)
        clear qf9
        have LB275 := hide (heap_alloc_new (w273) (.cells #[.int .i64 (kd (kt L) s.n), .string ⟨(tx (kt L) s.n).toArray⟩, .int .i64 (placeAt L N s.n)] 50))
        have H275 := hide (H273.out.below B275)
        have F275 := hide (F273.out.trans (Fq.of_below B275))
        clear H273 F273 B275
        obtain ⟨qfm, qfn, qfo, qfp, qfq, qfr, qfs, qft, qfu, qfv, qfw, y276⟩ := row11 qfl.out
        obtain ⟨qfx, qfy, qfz, y277⟩ := row3 LB275.out
        have x278 := qc.out
        have x279 := qd.out
        go_wp2_with fail
        refine (CN.out _).mono ?_
        rintro _ w280 ⟨rfl, hb⟩
        clear qfa qfb qfc qfd qfe qff qfg qfh qfi qfj qfk y274 qfm qfn qfo qfp qfq qfr qfs qft qfu qfv qfw y276 qfx qfy qfz y277 x278 x279
        have qfA := hide ((hb.block _ (loc_lt qfl.out)).trans qfl.out)
        clear qfl
        have qfB := hide ((hb.block _ (loc_lt LB275.out)).trans LB275.out)
        clear LB275
        have H280 := hide (H275.out.below hb)
        have F280 := hide (F275.out.trans (Fq.of_below hb))
        clear hb H275 F275
        obtain ⟨qfC, qfD, qfE, qfF, qfG, qfH, qfI, qfJ, qfK, qfL, qfM, y281⟩ := row11 qfA.out
        obtain ⟨qfN, qfO, qfP, y282⟩ := row3 qfB.out
        have x283 := qc.out
        have x284 := qd.out
        have C285 := hide (literal_any R L N s st _ H280.out _ rfl)
        go_wp2_with fail
        refine C285.out.mono ?_
        intro e w285 he
        rcases he.split with ⟨a285, s285, v285, ho, rfl, hv, hR, hF⟩ | ⟨c, m, ho, rfl, hF⟩
        rotate_left 1
        · exact on_panic rfl (.of_bad (bind_no HO.out ho) (F280.out.trans hF))
        clear qfC qfD qfE qfF qfG qfH qfI qfJ qfK qfL qfM y281 qfN qfO qfP y282 x283 x284
        have HO285 := hide (bind_go HO.out ho)
        have qfQ := hide (hF.loc qfA.out (Nat.ne_of_gt Q272.out))
        clear qfA
        have qfR := hide (hF.loc qfB.out (Nat.ne_of_gt Q275.out))
        clear qfB
        have H285 := hide hR
        have F285 := hide (F280.out.trans hF)
        obtain ⟨av285, rfl, qfS⟩ := hv
        obtain ⟨qfT, qfU, rfl⟩ := rows_form qfS
        have qfV := hide (Strs.mono qfS fun g hg => Nat.le_trans F280.out.size hg)
        clear qfS
        clear he ho hR hF C285 H280 F280 HO
        obtain ⟨qfW, qfX, qfY, qfZ, qg0, qg1, qg2, qg3, qg4, qg5, qg6, y286⟩ := row11 qfQ.out
        obtain ⟨qg7, qg8, qg9, y287⟩ := row3 qfR.out
        have x288 := qc.out
        have x289 := qd.out
        go_wp2_with fail
        have hz := (And.intro qfW (And.intro qfX (And.intro qfY (And.intro qfZ (And.intro qg0 (And.intro qg1 (And.intro qg2 (And.intro qg3 (And.intro qg4 (And.intro qg5 (And.intro qg6 (And.intro y286 (And.intro qg7 (And.intro qg8 (And.intro qg9 (And.intro y287 (And.intro x288 x289)))))))))))))))))
        simp [bodyPost, results, Tryz.results132, go_sem, hz]
        have qga := hide (Strs.keep qfV.out (Kp.setLoc (T := [9]) (i := 0) (v := .int .i64 1) qfQ.out (by decide)) (by decide))
        clear qfV
        have qgb := hide (loc_set (i := 0) (v := .int .i64 1) qfQ.out)
        have qgc := hide (loc_other (p := ⟨w.heap.size, 0, none⟩) (v := .int .i64 1) qfR.out (qd.out))
        clear qfQ qfR
        have H290 := hide (H285.out.setLoc Q272.out 0 (.int .i64 1))
        have F290 := hide (F285.out.setLoc G272.out 0 (.int .i64 1))
        clear H285 F285
        have qgd := hide (Strs.keep qga.out (Kp.setLoc (T := [9]) (i := 1) (v := .bool a285.neg) qgb.out (by decide)) (by decide))
        clear qga
        have qge := hide (loc_set (i := 1) (v := .bool a285.neg) qgb.out)
        have qgf := hide (loc_other (p := ⟨w.heap.size, 1, none⟩) (v := .bool a285.neg) qgc.out (qd.out))
        clear qgb qgc
        have H291 := hide (H290.out.setLoc Q272.out 1 (.bool a285.neg))
        have F291 := hide (F290.out.setLoc G272.out 1 (.bool a285.neg))
        clear H290 F290
        have qgg := hide (Strs.keep qgd.out (Kp.setLoc (T := [9]) (i := 2) (v := .string ⟨a285.pred.toArray⟩) qge.out (by decide)) (by decide))
        clear qgd
        have qgh := hide (loc_set (i := 2) (v := .string ⟨a285.pred.toArray⟩) qge.out)
        have qgi := hide (loc_other (p := ⟨w.heap.size, 2, none⟩) (v := .string ⟨a285.pred.toArray⟩) qgf.out (qd.out))
        clear qge qgf
        have H292 := hide (H291.out.setLoc Q272.out 2 (.string ⟨a285.pred.toArray⟩))
        have F292 := hide (F291.out.setLoc G272.out 2 (.string ⟨a285.pred.toArray⟩))
        clear H291 F291
        have qgj := hide (Strs.keep qgg.out (Kp.setLoc (T := [9]) (i := 3) (v := .slice qfT a285.args.length qfU) qgh.out (by decide)) (by decide))
        clear qgg
        have qgk := hide (loc_set (i := 3) (v := .slice qfT a285.args.length qfU) qgh.out)
        have qgl := hide (loc_other (p := ⟨w.heap.size, 3, none⟩) (v := .slice qfT a285.args.length qfU) qgi.out (qd.out))
        clear qgh qgi
        have H293 := hide (H292.out.setLoc Q272.out 3 (.slice qfT a285.args.length qfU))
        have F293 := hide (F292.out.setLoc G272.out 3 (.slice qfT a285.args.length qfU))
        clear H292 F292
        have qgm := hide (Strs.keep qgj.out (Kp.setLoc (T := [9]) (i := 4) (v := .bool a285.hasValue) qgk.out (by decide)) (by decide))
        clear qgj
        have qgn := hide (loc_set (i := 4) (v := .bool a285.hasValue) qgk.out)
        have qgo := hide (loc_other (p := ⟨w.heap.size, 4, none⟩) (v := .bool a285.hasValue) qgl.out (qd.out))
        clear qgk qgl
        have H294 := hide (H293.out.setLoc Q272.out 4 (.bool a285.hasValue))
        have F294 := hide (F293.out.setLoc G272.out 4 (.bool a285.hasValue))
        clear H293 F293
        have qgp := hide (Strs.keep qgm.out (Kp.setLoc (T := [9]) (i := 5) (v := .int .i64 a285.value) qgn.out (by decide)) (by decide))
        clear qgm
        have qgq := hide (loc_set (i := 5) (v := .int .i64 a285.value) qgn.out)
        have qgr := hide (loc_other (p := ⟨w.heap.size, 5, none⟩) (v := .int .i64 a285.value) qgo.out (qd.out))
        clear qgn qgo
        have H295 := hide (H294.out.setLoc Q272.out 5 (.int .i64 a285.value))
        have F295 := hide (F294.out.setLoc G272.out 5 (.int .i64 a285.value))
        clear H294 F294
        have qgs := hide (Strs.keep qgp.out (Kp.setLoc (T := [9]) (i := 6) (v := .slice none 0 0) qgq.out (by decide)) (by decide))
        clear qgp
        have qgt := hide (loc_set (i := 6) (v := .slice none 0 0) qgq.out)
        have qgu := hide (loc_other (p := ⟨w.heap.size, 6, none⟩) (v := .slice none 0 0) qgr.out (qd.out))
        clear qgq qgr
        have H296 := hide (H295.out.setLoc Q272.out 6 (.slice none 0 0))
        have F296 := hide (F295.out.setLoc G272.out 6 (.slice none 0 0))
        clear H295 F295
        have qgv := hide (Strs.keep qgs.out (Kp.setLoc (T := [9]) (i := 7) (v := .int .i64 0) qgt.out (by decide)) (by decide))
        clear qgs
        have qgw := hide (loc_set (i := 7) (v := .int .i64 0) qgt.out)
        have qgx := hide (loc_other (p := ⟨w.heap.size, 7, none⟩) (v := .int .i64 0) qgu.out (qd.out))
        clear qgt qgu
        have H297 := hide (H296.out.setLoc Q272.out 7 (.int .i64 0))
        have F297 := hide (F296.out.setLoc G272.out 7 (.int .i64 0))
        clear H296 F296
        have qgy := hide (Strs.keep qgv.out (Kp.setLoc (T := [9]) (i := 8) (v := .slice none 0 0) qgw.out (by decide)) (by decide))
        clear qgv
        have qgz := hide (loc_set (i := 8) (v := .slice none 0 0) qgw.out)
        have qgA := hide (loc_other (p := ⟨w.heap.size, 8, none⟩) (v := .slice none 0 0) qgx.out (qd.out))
        clear qgw qgx
        have H298 := hide (H297.out.setLoc Q272.out 8 (.slice none 0 0))
        have F298 := hide (F297.out.setLoc G272.out 8 (.slice none 0 0))
        clear H297 F297
        have qgB := hide (Strs.keep qgy.out (Kp.setLoc (T := [9]) (i := 9) (v := .string ⟨#[]⟩) qgz.out (by decide)) (by decide))
        clear qgy
        have qgC := hide (loc_set (i := 9) (v := .string ⟨#[]⟩) qgz.out)
        have qgD := hide (loc_other (p := ⟨w.heap.size, 9, none⟩) (v := .string ⟨#[]⟩) qgA.out (qd.out))
        clear qgz qgA
        have H299 := hide (H298.out.setLoc Q272.out 9 (.string ⟨#[]⟩))
        have F299 := hide (F298.out.setLoc G272.out 9 (.string ⟨#[]⟩))
        clear H298 F298
        have qgE := hide (Strs.keep qgB.out (Kp.setLoc (T := [9]) (i := 10) (v := .string ⟨#[]⟩) qgC.out (by decide)) (by decide))
        clear qgB
        have qgF := hide (loc_set (i := 10) (v := .string ⟨#[]⟩) qgC.out)
        have qgG := hide (loc_other (p := ⟨w.heap.size, 10, none⟩) (v := .string ⟨#[]⟩) qgD.out (qd.out))
        clear qgC qgD
        have H300 := hide (H299.out.setLoc Q272.out 10 (.string ⟨#[]⟩))
        have F300 := hide (F299.out.setLoc G272.out 10 (.string ⟨#[]⟩))
        clear H299 F299
        exact .of_ok HO285.out (⟨_, _, _, rfl, qgE.out, Rows.nil _ _ _ _ _, Rows.nil _ _ _ _ _⟩) H300.out F300.out

end
end Go.Proofs.YthnjmfkiohgkkaaGreatDoor.Sy
