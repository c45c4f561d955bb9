/- Terms, sides, guards. By program. -/
import Derived.Test.YthnjmfkiohgkkaaGreatDoorMarks5
namespace Go.Proofs.YthnjmfkiohgkkaaGreatDoor.Sy
open Go.RowKit

section
variable (R : Nat) (L : List Tok) (N : Nat) (s : RS) (st : St9) (w : World)

set_option maxRecDepth 100000 in
set_option maxHeartbeats 1600000 in
theorem plainTerm_any (h : Rd R L N s st w) (o : Out TermM) (ho : plainTermM FN (kt L) s = o) :
    Calls Tryz.prog 214 #[.pointer (some ⟨R, 0, none⟩)] w (Ends R L N st w (vTerm (New w)) o) := by
  have HO := hide ho
  have H := hide h
  have F := hide (Fq.refl R w)
  clear h ho
  have f0 := fun a b c w => (fld a b c w).1
  have ho := ask_go HO.out
  clear HO
  by_cases hk : kd (kt L) s.n = 3
  · have ho := ask_go (ite_t ho (by simp [hk]))
    cases hm : markAt (kt L) (s.n + 1) [42] with
    | false =>
      have HO := hide (ite_f ho hm)
      have hm0 : markAt (kt L) s.n [45] = false := by unfold markAt; rw [hk]; rfl
      have CA0 := hide (fun w h => ahead_any R L N s st w h 0 (by omega))
      rw [show s.n + 0 = s.n from rfl, hk] at CA0
      have CN := hide (markCall L s.n (placeAt L N s.n) [45])
      rw [hm0, hk] at CN
      have CM := hide (markCall L (s.n + 1) (placeAt L N (s.n + 1)) [42])
      rw [hm] at CM
      clear ho hk hm hm0
      go_enter Tryz.func214, Tryz.ntmps214
      have B38 : Below _ _ ((w).alloc (.cells #[.int .i64 0, .string ⟨#[]⟩, .slice none 0 0, .int .i64 0] 109)) := (Below.refl _ _).alloc (Nat.le_refl _) _
      have Q38 : Hid (R < w.heap.size) := hide H.out.lt
      have G38 : Hid (w.heap.size ≤ w.heap.size) := hide F.out.size
      have LB38 := hide (heap_alloc_new (w) (.cells #[.int .i64 0, .string ⟨#[]⟩, .slice none 0 0, .int .i64 0] 109))
      have H38 := hide (H.out.below B38)
      have F38 := hide (F.out.trans (Fq.of_below B38))
      clear H F B38
      go_wp2_with fail
      refine (CA0.out _ H38.out).mono ?_
      rintro _ w39 ⟨rfl, hb⟩
      have q0 := hide ((hb.block _ (loc_lt LB38.out)).trans LB38.out)
      clear LB38
      have H39 := hide (H38.out.below hb)
      have F39 := hide (F38.out.trans (Fq.of_below hb))
      clear hb H38 F38
      obtain ⟨q1, q2, q3, q4, y40⟩ := row4 q0.out
      go_wp2_with fail
      refine (ahead_any R L N s st _ H39.out 1 (by omega)).mono ?_
      rintro _ w41 ⟨rfl, hb⟩
      clear q1 q2 q3 q4 y40
      have q5 := hide ((hb.block _ (loc_lt q0.out)).trans q0.out)
      clear q0
      have H41 := hide (H39.out.below hb)
      have F41 := hide (F39.out.trans (Fq.of_below hb))
      clear hb H39 F39
      obtain ⟨q6, q7, q8, q9, y42⟩ := row4 q5.out
      go_wp2_with fail
      refine (CM.out _).mono ?_
      rintro _ w43 ⟨rfl, hb⟩
      clear q6 q7 q8 q9 y42
      have qa := hide ((hb.block _ (loc_lt q5.out)).trans q5.out)
      clear q5
      have H43 := hide (H41.out.below hb)
      have F43 := hide (F41.out.trans (Fq.of_below hb))
      clear hb H41 F41
      obtain ⟨qb, qc, qd, qe, y44⟩ := row4 qa.out
      have C45 := hide (money_any R L N s st _ H43.out _ rfl)
      go_wp2_with fail
      refine C45.out.mono ?_
      intro e w45 he
      rcases he.split with ⟨a45, s45, v45, ho, rfl, hv, hR, hF⟩ | ⟨c, m, ho, rfl, hF⟩
      rotate_left 1
      · exact on_panic rfl (.of_bad (bind_no HO.out ho) (F43.out.trans hF))
      clear qb qc qd qe y44
      have HO45 := hide (bind_go HO.out ho)
      have qf := hide (hF.loc qa.out (Nat.ne_of_gt Q38.out))
      clear qa
      have H45 := hide hR
      have F45 := hide (F43.out.trans hF)
      cases hv
      clear he ho hR hF C45 H43 F43 HO
      obtain ⟨qg, qh, qi, qj, y46⟩ := row4 qf.out
      go_wp2_with fail
      have hz := (And.intro qg (And.intro qh (And.intro qi (And.intro qj y46))))
      simp [bodyPost, results, Tryz.results214, go_sem, hz]
      have qk := hide (loc_set (i := 0) (v := .int .i64 0) qf.out)
      clear qf
      have H47 := hide (H45.out.setLoc Q38.out 0 (.int .i64 0))
      have F47 := hide (F45.out.setLoc G38.out 0 (.int .i64 0))
      clear H45 F45
      have ql := hide (loc_set (i := 1) (v := .string ⟨#[]⟩) qk.out)
      clear qk
      have H48 := hide (H47.out.setLoc Q38.out 1 (.string ⟨#[]⟩))
      have F48 := hide (F47.out.setLoc G38.out 1 (.string ⟨#[]⟩))
      clear H47 F47
      have qm := hide (loc_set (i := 2) (v := .slice none 0 0) ql.out)
      clear ql
      have H49 := hide (H48.out.setLoc Q38.out 2 (.slice none 0 0))
      have F49 := hide (F48.out.setLoc G38.out 2 (.slice none 0 0))
      clear H48 F48
      have qn := hide (loc_set (i := 3) (v := .int .i64 a45) qm.out)
      clear qm
      have H50 := hide (H49.out.setLoc Q38.out 3 (.int .i64 a45))
      have F50 := hide (F49.out.setLoc G38.out 3 (.int .i64 a45))
      clear H49 F49
      exact .of_ok HO45.out (⟨_, rfl, Rows.nil _ _ _ _ _⟩) H50.out F50.out
    | true =>
      have HO := hide (ite_t ho hm)
      have hm0 : markAt (kt L) s.n [45] = false := by unfold markAt; rw [hk]; rfl
      have CA0 := hide (fun w h => ahead_any R L N s st w h 0 (by omega))
      rw [show s.n + 0 = s.n from rfl, hk] at CA0
      have CN := hide (markCall L s.n (placeAt L N s.n) [45])
      rw [hm0, hk] at CN
      have CM := hide (markCall L (s.n + 1) (placeAt L N (s.n + 1)) [42])
      rw [hm] at CM
      clear ho hk hm hm0
      go_enter Tryz.func214, Tryz.ntmps214
      have B51 : Below _ _ ((w).alloc (.cells #[.int .i64 0, .string ⟨#[]⟩, .slice none 0 0, .int .i64 0] 109)) := (Below.refl _ _).alloc (Nat.le_refl _) _
      have Q51 : Hid (R < w.heap.size) := hide H.out.lt
      have G51 : Hid (w.heap.size ≤ w.heap.size) := hide F.out.size
      have LB51 := hide (heap_alloc_new (w) (.cells #[.int .i64 0, .string ⟨#[]⟩, .slice none 0 0, .int .i64 0] 109))
      have H51 := hide (H.out.below B51)
      have F51 := hide (F.out.trans (Fq.of_below B51))
      clear H F B51
      go_wp2_with fail
      refine (CA0.out _ H51.out).mono ?_
      rintro _ w52 ⟨rfl, hb⟩
      have qo := hide ((hb.block _ (loc_lt LB51.out)).trans LB51.out)
      clear LB51
      have H52 := hide (H51.out.below hb)
      have F52 := hide (F51.out.trans (Fq.of_below hb))
      clear hb H51 F51
      obtain ⟨qp, qq, qr, qs, y53⟩ := row4 qo.out
      go_wp2_with fail
      refine (ahead_any R L N s st _ H52.out 1 (by omega)).mono ?_
      rintro _ w54 ⟨rfl, hb⟩
      clear qp qq qr qs y53
      have qt := hide ((hb.block _ (loc_lt qo.out)).trans qo.out)
      clear qo
      have H54 := hide (H52.out.below hb)
      have F54 := hide (F52.out.trans (Fq.of_below hb))
      clear hb H52 F52
      obtain ⟨qu, qv, qw, qx, y55⟩ := row4 qt.out
      go_wp2_with fail
      refine (CM.out _).mono ?_
      rintro _ w56 ⟨rfl, hb⟩
      clear qu qv qw qx y55
      have qy := hide ((hb.block _ (loc_lt qt.out)).trans qt.out)
      clear qt
      have H56 := hide (H54.out.below hb)
      have F56 := hide (F54.out.trans (Fq.of_below hb))
      clear hb H54 F54
      obtain ⟨qz, qA, qB, qC, y57⟩ := row4 qy.out
      go_wp2_with fail
      refine (CA0.out _ H56.out).mono ?_
      rintro _ w58 ⟨rfl, hb⟩
      clear qz qA qB qC y57
      have qD := hide ((hb.block _ (loc_lt qy.out)).trans qy.out)
      clear qy
      have H58 := hide (H56.out.below hb)
      have F58 := hide (F56.out.trans (Fq.of_below hb))
      clear hb H56 F56
      obtain ⟨qE, qF, qG, qH, y59⟩ := row4 qD.out
      go_wp2_with fail
      refine (CN.out _).mono ?_
      rintro _ w60 ⟨rfl, hb⟩
      clear qE qF qG qH y59
      have qI := hide ((hb.block _ (loc_lt qD.out)).trans qD.out)
      clear qD
      have H60 := hide (H58.out.below hb)
      have F60 := hide (F58.out.trans (Fq.of_below hb))
      clear hb H58 F58
      obtain ⟨qJ, qK, qL, qM, y61⟩ := row4 qI.out
      have B62 : Below _ _ ((w60).alloc (.cells #[.int .i64 1, .string ⟨#[]⟩, .slice none 0 0, .int .i64 0] 109)) := (Below.refl _ _).alloc (Nat.le_refl _) _
      have Q62 : Hid (R < w60.heap.size) := hide H60.out.lt
      have G62 : Hid (w.heap.size ≤ w60.heap.size) := hide F60.out.size
      have qN : Hid (w.heap.size ≠ w60.heap.size) := hide (Nat.ne_of_lt (loc_lt qI.out))
      have qO : Hid (w60.heap.size ≠ w.heap.size) := hide (Nat.ne_of_gt (loc_lt qI.out))
      have qP := hide ((B62.block _ (loc_lt qI.out)).trans qI.out)
      clear qI
      have LB62 := hide (heap_alloc_new (w60) (.cells #[.int .i64 1, .string ⟨#[]⟩, .slice none 0 0, .int .i64 0] 109))
      have H62 := hide (H60.out.below B62)
      have F62 := hide (F60.out.trans (Fq.of_below B62))
      clear H60 F60 B62
      have C63 := hide (int_any R L N s st _ 1 1000 H62.out _ rfl)
      go_wp2_with fail
      refine C63.out.mono ?_
      intro e w63 he
      rcases he.split with ⟨a63, s63, v63, ho, rfl, hv, hR, hF⟩ | ⟨c, m, ho, rfl, hF⟩
      rotate_left 1
      · exact on_panic rfl (.of_bad (bind_no HO.out ho) (F62.out.trans hF))
      clear qJ qK qL qM y61
      have HO63 := hide (bind_go HO.out ho)
      have qQ := hide (hF.loc qP.out (Nat.ne_of_gt Q51.out))
      clear qP
      have qR := hide (hF.loc LB62.out (Nat.ne_of_gt Q62.out))
      clear LB62
      have H63 := hide hR
      have F63 := hide (F62.out.trans hF)
      cases hv
      clear he ho hR hF C63 H62 F62 HO
      obtain ⟨qS, qT, qU, qV, y64⟩ := row4 qQ.out
      obtain ⟨qW, qX, qY, qZ, y65⟩ := row4 qR.out
      have x66 := qN.out
      have x67 := qO.out
      have q10 := hide (loc_other (p := ⟨w60.heap.size, 0, none⟩) (v := .int .i64 a63) qQ.out (qN.out))
      have q11 := hide (loc_set (i := 0) (v := .int .i64 a63) qR.out)
      clear qQ qR
      have H68 := hide (H63.out.setLoc Q62.out 0 (.int .i64 a63))
      have F68 := hide (F63.out.setLoc G62.out 0 (.int .i64 a63))
      clear H63 F63
      have C69 := hide (wantMark_any R L N s63 st _ [42] H68.out _ rfl)
      go_wp2_with fail
      refine C69.out.mono ?_
      intro e w69 he
      rcases he.split with ⟨a69, s69, v69, ho, rfl, hv, hR, hF⟩ | ⟨c, m, ho, rfl, hF⟩
      rotate_left 1
      · exact on_panic rfl (.of_bad (bind_no HO63.out ho) (F68.out.trans hF))
      clear qS qT qU qV y64 qW qX qY qZ y65 x66 x67
      have HO69 := hide (bind_go HO63.out ho)
      have q12 := hide (hF.loc q10.out (Nat.ne_of_gt Q51.out))
      clear q10
      have q13 := hide (hF.loc q11.out (Nat.ne_of_gt Q62.out))
      clear q11
      have H69 := hide hR
      have F69 := hide (F68.out.trans hF)
      cases hv
      clear he ho hR hF C69 H68 F68 HO63
      obtain ⟨q14, q15, q16, q17, y70⟩ := row4 q12.out
      obtain ⟨q18, q19, q1a, q1b, y71⟩ := row4 q13.out
      have x72 := qN.out
      have x73 := qO.out
      have C74 := hide (name_any R L N s69 st _ H69.out _ rfl)
      go_wp2_with fail
      refine C74.out.mono ?_
      intro e w74 he
      rcases he.split with ⟨a74, s74, v74, ho, rfl, hv, hR, hF⟩ | ⟨c, m, ho, rfl, hF⟩
      rotate_left 1
      · exact on_panic rfl (.of_bad (bind_no HO69.out ho) (F69.out.trans hF))
      clear q14 q15 q16 q17 y70 q18 q19 q1a q1b y71 x72 x73
      have HO74 := hide (bind_go HO69.out ho)
      have q1c := hide (hF.loc q12.out (Nat.ne_of_gt Q51.out))
      clear q12
      have q1d := hide (hF.loc q13.out (Nat.ne_of_gt Q62.out))
      clear q13
      have H74 := hide hR
      have F74 := hide (F69.out.trans hF)
      cases hv
      clear he ho hR hF C74 H69 F69 HO69
      obtain ⟨q1e, q1f, q1g, q1h, y75⟩ := row4 q1c.out
      obtain ⟨q1i, q1j, q1k, q1l, y76⟩ := row4 q1d.out
      have x77 := qN.out
      have x78 := qO.out
      have q1m := hide (loc_other (p := ⟨w60.heap.size, 1, none⟩) (v := .string ⟨a74.toArray⟩) q1c.out (qN.out))
      have q1n := hide (loc_set (i := 1) (v := .string ⟨a74.toArray⟩) q1d.out)
      clear q1c q1d
      have H79 := hide (H74.out.setLoc Q62.out 1 (.string ⟨a74.toArray⟩))
      have F79 := hide (F74.out.setLoc G62.out 1 (.string ⟨a74.toArray⟩))
      clear H74 F74
      have C80 := hide (brackets_arg R L N s74 st _ H79.out _ rfl)
      go_wp2_with fail
      refine C80.out.mono ?_
      intro e w80 he
      rcases he.split with ⟨a80, s80, v80, ho, rfl, hv, hR, hF⟩ | ⟨c, m, ho, rfl, hF⟩
      rotate_left 1
      · exact on_panic rfl (.of_bad (bind_no HO74.out ho) (F79.out.trans hF))
      clear q1e q1f q1g q1h y75 q1i q1j q1k q1l y76 x77 x78
      have HO80 := hide (bind_go HO74.out ho)
      have q1o := hide (hF.loc q1m.out (Nat.ne_of_gt Q51.out))
      clear q1m
      have q1p := hide (hF.loc q1n.out (Nat.ne_of_gt Q62.out))
      clear q1n
      have H80 := hide hR
      have F80 := hide (F79.out.trans hF)
      obtain ⟨p80, r80, rfl⟩ := rows_form hv
      have V80 := hide (Strs.mono hv fun g hg => Nat.le_trans F79.out.size hg)
      clear hv
      clear he ho hR hF C80 H79 F79 HO74
      obtain ⟨q1q, q1r, q1s, q1t, y81⟩ := row4 q1o.out
      obtain ⟨q1u, q1v, q1w, q1x, y82⟩ := row4 q1p.out
      have x83 := qN.out
      have x84 := qO.out
      have q1y := hide (Strs.keep V80.out (Kp.setLoc (T := [9]) (i := 2) (v := .slice p80 a80.length r80) q1p.out (by decide)) (by decide))
      clear V80
      have q1z := hide (loc_other (p := ⟨w60.heap.size, 2, none⟩) (v := .slice p80 a80.length r80) q1o.out (qN.out))
      have q1A := hide (loc_set (i := 2) (v := .slice p80 a80.length r80) q1p.out)
      clear q1o q1p
      have H85 := hide (H80.out.setLoc Q62.out 2 (.slice p80 a80.length r80))
      have F85 := hide (F80.out.setLoc G62.out 2 (.slice p80 a80.length r80))
      clear H80 F80
      go_wp2_with fail
      have hz := (And.intro q1q (And.intro q1r (And.intro q1s (And.intro q1t (And.intro y81 (And.intro q1u (And.intro q1v (And.intro q1w (And.intro q1x (And.intro y82 (And.intro x83 x84)))))))))))
      simp [bodyPost, results, Tryz.results214, go_sem, hz]
      have q1B := hide (Strs.keep q1y.out (Kp.setLoc (T := [9]) (i := 0) (v := .int .i64 a63) q1z.out (by decide)) (by decide))
      clear q1y
      have q1C := hide (loc_set (i := 0) (v := .int .i64 a63) q1z.out)
      have q1D := hide (loc_other (p := ⟨w.heap.size, 0, none⟩) (v := .int .i64 a63) q1A.out (qO.out))
      clear q1z q1A
      have H86 := hide (H85.out.setLoc Q51.out 0 (.int .i64 a63))
      have F86 := hide (F85.out.setLoc G51.out 0 (.int .i64 a63))
      clear H85 F85
      have q1E := hide (Strs.keep q1B.out (Kp.setLoc (T := [9]) (i := 1) (v := .string ⟨a74.toArray⟩) q1C.out (by decide)) (by decide))
      clear q1B
      have q1F := hide (loc_set (i := 1) (v := .string ⟨a74.toArray⟩) q1C.out)
      have q1G := hide (loc_other (p := ⟨w.heap.size, 1, none⟩) (v := .string ⟨a74.toArray⟩) q1D.out (qO.out))
      clear q1C q1D
      have H87 := hide (H86.out.setLoc Q51.out 1 (.string ⟨a74.toArray⟩))
      have F87 := hide (F86.out.setLoc G51.out 1 (.string ⟨a74.toArray⟩))
      clear H86 F86
      have q1H := hide (Strs.keep q1E.out (Kp.setLoc (T := [9]) (i := 2) (v := .slice p80 a80.length r80) q1F.out (by decide)) (by decide))
      clear q1E
      have q1I := hide (loc_set (i := 2) (v := .slice p80 a80.length r80) q1F.out)
      have q1J := hide (loc_other (p := ⟨w.heap.size, 2, none⟩) (v := .slice p80 a80.length r80) q1G.out (qO.out))
      clear q1F q1G
      have H88 := hide (H87.out.setLoc Q51.out 2 (.slice p80 a80.length r80))
      have F88 := hide (F87.out.setLoc G51.out 2 (.slice p80 a80.length r80))
      clear H87 F87
      have q1K := hide (Strs.keep q1H.out (Kp.setLoc (T := [9]) (i := 3) (v := .int .i64 0) q1I.out (by decide)) (by decide))
      clear q1H
      have q1L := hide (loc_set (i := 3) (v := .int .i64 0) q1I.out)
      have q1M := hide (loc_other (p := ⟨w.heap.size, 3, none⟩) (v := .int .i64 0) q1J.out (qO.out))
      clear q1I q1J
      have H89 := hide (H88.out.setLoc Q51.out 3 (.int .i64 0))
      have F89 := hide (F88.out.setLoc G51.out 3 (.int .i64 0))
      clear H88 F88
      exact .of_ok HO80.out (⟨_, rfl, q1K.out⟩) H89.out F89.out
  · have ho := ask_go (ite_f ho (by simp [hk]))
    have hk' : ¬ ((kd (kt L) s.n : Nat) : Int) = 3 := by omega
    cases hm : markAt (kt L) s.n [45] with
    | true =>
      have HO := hide (ite_t ho hm)
      have CA0 := hide (fun w h => ahead_any R L N s st w h 0 (by omega))
      rw [show s.n + 0 = s.n from rfl] at CA0
      have CN := hide (markCall L s.n (placeAt L N s.n) [45])
      rw [hm] at CN
      clear ho hk hm
      go_enter Tryz.func214, Tryz.ntmps214
      have B1 : Below _ _ ((w).alloc (.cells #[.int .i64 0, .string ⟨#[]⟩, .slice none 0 0, .int .i64 0] 109)) := (Below.refl _ _).alloc (Nat.le_refl _) _
      have Q1 : Hid (R < w.heap.size) := hide H.out.lt
      have G1 : Hid (w.heap.size ≤ w.heap.size) := hide F.out.size
      have LB1 := hide (heap_alloc_new (w) (.cells #[.int .i64 0, .string ⟨#[]⟩, .slice none 0 0, .int .i64 0] 109))
      have H1 := hide (H.out.below B1)
      have F1 := hide (F.out.trans (Fq.of_below B1))
      clear H F B1
      go_wp2_with fail
      refine (CA0.out _ H1.out).mono ?_
      rintro _ w2 ⟨rfl, hb⟩
      have q1N := hide ((hb.block _ (loc_lt LB1.out)).trans LB1.out)
      clear LB1
      have H2 := hide (H1.out.below hb)
      have F2 := hide (F1.out.trans (Fq.of_below hb))
      clear hb H1 F1
      obtain ⟨q1O, q1P, q1Q, q1R, y3⟩ := row4 q1N.out
      go_wp2_with fail
      refine (CA0.out _ H2.out).mono ?_
      rintro _ w4 ⟨rfl, hb⟩
      clear q1O q1P q1Q q1R y3
      have q1S := hide ((hb.block _ (loc_lt q1N.out)).trans q1N.out)
      clear q1N
      have H4 := hide (H2.out.below hb)
      have F4 := hide (F2.out.trans (Fq.of_below hb))
      clear hb H2 F2
      obtain ⟨q1T, q1U, q1V, q1W, y5⟩ := row4 q1S.out
      go_wp2_with fail
      refine (CN.out _).mono ?_
      rintro _ w6 ⟨rfl, hb⟩
      clear q1T q1U q1V q1W y5
      have q1X := hide ((hb.block _ (loc_lt q1S.out)).trans q1S.out)
      clear q1S
      have H6 := hide (H4.out.below hb)
      have F6 := hide (F4.out.trans (Fq.of_below hb))
      clear hb H4 F4
      obtain ⟨q1Y, q1Z, q20, q21, y7⟩ := row4 q1X.out
      have C8 := hide (money_any R L N s st _ H6.out _ rfl)
      go_wp2_with fail
      refine C8.out.mono ?_
      intro e w8 he
      rcases he.split with ⟨a8, s8, v8, ho, rfl, hv, hR, hF⟩ | ⟨c, m, ho, rfl, hF⟩
      rotate_left 1
      · exact on_panic rfl (.of_bad (bind_no HO.out ho) (F6.out.trans hF))
      clear q1Y q1Z q20 q21 y7
      have HO8 := hide (bind_go HO.out ho)
      have q22 := hide (hF.loc q1X.out (Nat.ne_of_gt Q1.out))
      clear q1X
      have H8 := hide hR
      have F8 := hide (F6.out.trans hF)
      cases hv
      clear he ho hR hF C8 H6 F6 HO
      obtain ⟨q23, q24, q25, q26, y9⟩ := row4 q22.out
      go_wp2_with fail
      have hz := (And.intro q23 (And.intro q24 (And.intro q25 (And.intro q26 y9))))
      simp [bodyPost, results, Tryz.results214, go_sem, hz]
      have q27 := hide (loc_set (i := 0) (v := .int .i64 0) q22.out)
      clear q22
      have H10 := hide (H8.out.setLoc Q1.out 0 (.int .i64 0))
      have F10 := hide (F8.out.setLoc G1.out 0 (.int .i64 0))
      clear H8 F8
      have q28 := hide (loc_set (i := 1) (v := .string ⟨#[]⟩) q27.out)
      clear q27
      have H11 := hide (H10.out.setLoc Q1.out 1 (.string ⟨#[]⟩))
      have F11 := hide (F10.out.setLoc G1.out 1 (.string ⟨#[]⟩))
      clear H10 F10
      have q29 := hide (loc_set (i := 2) (v := .slice none 0 0) q28.out)
      clear q28
      have H12 := hide (H11.out.setLoc Q1.out 2 (.slice none 0 0))
      have F12 := hide (F11.out.setLoc G1.out 2 (.slice none 0 0))
      clear H11 F11
      have q2a := hide (loc_set (i := 3) (v := .int .i64 a8) q29.out)
      clear q29
      have H13 := hide (H12.out.setLoc Q1.out 3 (.int .i64 a8))
      have F13 := hide (F12.out.setLoc G1.out 3 (.int .i64 a8))
      clear H12 F12
      exact .of_ok HO8.out (⟨_, rfl, Rows.nil _ _ _ _ _⟩) H13.out F13.out
    | false =>
      have HO := hide (ite_f ho hm)
      have CA0 := hide (fun w h => ahead_any R L N s st w h 0 (by omega))
      rw [show s.n + 0 = s.n from rfl] at CA0
      have CN := hide (markCall L s.n (placeAt L N s.n) [45])
      rw [hm] at CN
      clear ho hk hm
      go_enter Tryz.func214, Tryz.ntmps214
      have B14 : Below _ _ ((w).alloc (.cells #[.int .i64 0, .string ⟨#[]⟩, .slice none 0 0, .int .i64 0] 109)) := (Below.refl _ _).alloc (Nat.le_refl _) _
      have Q14 : Hid (R < w.heap.size) := hide H.out.lt
      have G14 : Hid (w.heap.size ≤ w.heap.size) := hide F.out.size
      have LB14 := hide (heap_alloc_new (w) (.cells #[.int .i64 0, .string ⟨#[]⟩, .slice none 0 0, .int .i64 0] 109))
      have H14 := hide (H.out.below B14)
      have F14 := hide (F.out.trans (Fq.of_below B14))
      clear H F B14
      go_wp2_with fail
      refine (CA0.out _ H14.out).mono ?_
      rintro _ w15 ⟨rfl, hb⟩
      have q2b := hide ((hb.block _ (loc_lt LB14.out)).trans LB14.out)
      clear LB14
      have H15 := hide (H14.out.below hb)
      have F15 := hide (F14.out.trans (Fq.of_below hb))
      clear hb H14 F14
      obtain ⟨q2c, q2d, q2e, q2f, y16⟩ := row4 q2b.out
      go_wp2_with fail
      refine (CA0.out _ H15.out).mono ?_
      rintro _ w17 ⟨rfl, hb⟩
      clear q2c q2d q2e q2f y16
      have q2g := hide ((hb.block _ (loc_lt q2b.out)).trans q2b.out)
      clear q2b
      have H17 := hide (H15.out.below hb)
      have F17 := hide (F15.out.trans (Fq.of_below hb))
      clear hb H15 F15
      obtain ⟨q2h, q2i, q2j, q2k, y18⟩ := row4 q2g.out
      go_wp2_with fail
      refine (CN.out _).mono ?_
      rintro _ w19 ⟨rfl, hb⟩
      clear q2h q2i q2j q2k y18
      have q2l := hide ((hb.block _ (loc_lt q2g.out)).trans q2g.out)
      clear q2g
      have H19 := hide (H17.out.below hb)
      have F19 := hide (F17.out.trans (Fq.of_below hb))
      clear hb H17 F17
      obtain ⟨q2m, q2n, q2o, q2p, y20⟩ := row4 q2l.out
      have B21 : Below _ _ ((w19).alloc (.cells #[.int .i64 1, .string ⟨#[]⟩, .slice none 0 0, .int .i64 0] 109)) := (Below.refl _ _).alloc (Nat.le_refl _) _
      have Q21 : Hid (R < w19.heap.size) := hide H19.out.lt
      have G21 : Hid (w.heap.size ≤ w19.heap.size) := hide F19.out.size
      have qN : Hid (w.heap.size ≠ w19.heap.size) := hide (Nat.ne_of_lt (loc_lt q2l.out))
      have qO : Hid (w19.heap.size ≠ w.heap.size) := hide (Nat.ne_of_gt (loc_lt q2l.out))
      have q2q := hide ((B21.block _ (loc_lt q2l.out)).trans q2l.out)
      clear q2l
      have LB21 := hide (heap_alloc_new (w19) (.cells #[.int .i64 1, .string ⟨#[]⟩, .slice none 0 0, .int .i64 0] 109))
      have H21 := hide (H19.out.below B21)
      have F21 := hide (F19.out.trans (Fq.of_below B21))
      clear H19 F19 B21
      have C22 := hide (name_any R L N s st _ H21.out _ rfl)
      go_wp2_with fail
      refine C22.out.mono ?_
      intro e w22 he
      rcases he.split with ⟨a22, s22, v22, ho, rfl, hv, hR, hF⟩ | ⟨c, m, ho, rfl, hF⟩
      rotate_left 1
      · exact on_panic rfl (.of_bad (bind_no HO.out ho) (F21.out.trans hF))
      clear q2m q2n q2o q2p y20
      have HO22 := hide (bind_go HO.out ho)
      have q2r := hide (hF.loc q2q.out (Nat.ne_of_gt Q14.out))
      clear q2q
      have q2s := hide (hF.loc LB21.out (Nat.ne_of_gt Q21.out))
      clear LB21
      have H22 := hide hR
      have F22 := hide (F21.out.trans hF)
      cases hv
      clear he ho hR hF C22 H21 F21 HO
      obtain ⟨q2t, q2u, q2v, q2w, y23⟩ := row4 q2r.out
      obtain ⟨q2x, q2y, q2z, q2A, y24⟩ := row4 q2s.out
      have x25 := qN.out
      have x26 := qO.out
      have q2B := hide (loc_other (p := ⟨w19.heap.size, 1, none⟩) (v := .string ⟨a22.toArray⟩) q2r.out (qN.out))
      have q2C := hide (loc_set (i := 1) (v := .string ⟨a22.toArray⟩) q2s.out)
      clear q2r q2s
      have H27 := hide (H22.out.setLoc Q21.out 1 (.string ⟨a22.toArray⟩))
      have F27 := hide (F22.out.setLoc G21.out 1 (.string ⟨a22.toArray⟩))
      clear H22 F22
      have C28 := hide (brackets_arg R L N s22 st _ H27.out _ rfl)
      go_wp2_with fail
      refine C28.out.mono ?_
      intro e w28 he
      rcases he.split with ⟨a28, s28, v28, ho, rfl, hv, hR, hF⟩ | ⟨c, m, ho, rfl, hF⟩
      rotate_left 1
      · exact on_panic rfl (.of_bad (bind_no HO22.out ho) (F27.out.trans hF))
      clear q2t q2u q2v q2w y23 q2x q2y q2z q2A y24 x25 x26
      have HO28 := hide (bind_go HO22.out ho)
      have q2D := hide (hF.loc q2B.out (Nat.ne_of_gt Q14.out))
      clear q2B
      have q2E := hide (hF.loc q2C.out (Nat.ne_of_gt Q21.out))
      clear q2C
      have H28 := hide hR
      have F28 := hide (F27.out.trans hF)
      obtain ⟨p28, r28, rfl⟩ := rows_form hv
      have V28 := hide (Strs.mono hv fun g hg => Nat.le_trans F27.out.size hg)
      clear hv
      clear he ho hR hF C28 H27 F27 HO22
      obtain ⟨q2F, q2G, q2H, q2I, y29⟩ := row4 q2D.out
      obtain ⟨q2J, q2K, q2L, q2M, y30⟩ := row4 q2E.out
      have x31 := qN.out
      have x32 := qO.out
      have q2N := hide (Strs.keep V28.out (Kp.setLoc (T := [9]) (i := 2) (v := .slice p28 a28.length r28) q2E.out (by decide)) (by decide))
      clear V28
      have q2O := hide (loc_other (p := ⟨w19.heap.size, 2, none⟩) (v := .slice p28 a28.length r28) q2D.out (qN.out))
      have q2P := hide (loc_set (i := 2) (v := .slice p28 a28.length r28) q2E.out)
      clear q2D q2E
      have H33 := hide (H28.out.setLoc Q21.out 2 (.slice p28 a28.length r28))
      have F33 := hide (F28.out.setLoc G21.out 2 (.slice p28 a28.length r28))
      clear H28 F28
      go_wp2_with fail
      have hz := (And.intro q2F (And.intro q2G (And.intro q2H (And.intro q2I (And.intro y29 (And.intro q2J (And.intro q2K (And.intro q2L (And.intro q2M (And.intro y30 (And.intro x31 x32)))))))))))
      simp [bodyPost, results, Tryz.results214, go_sem, hz]
      have q2Q := hide (Strs.keep q2N.out (Kp.setLoc (T := [9]) (i := 0) (v := .int .i64 1) q2O.out (by decide)) (by decide))
      clear q2N
      have q2R := hide (loc_set (i := 0) (v := .int .i64 1) q2O.out)
      have q2S := hide (loc_other (p := ⟨w.heap.size, 0, none⟩) (v := .int .i64 1) q2P.out (qO.out))
      clear q2O q2P
      have H34 := hide (H33.out.setLoc Q14.out 0 (.int .i64 1))
      have F34 := hide (F33.out.setLoc G14.out 0 (.int .i64 1))
      clear H33 F33
      have q2T := hide (Strs.keep q2Q.out (Kp.setLoc (T := [9]) (i := 1) (v := .string ⟨a22.toArray⟩) q2R.out (by decide)) (by decide))
      clear q2Q
      have q2U := hide (loc_set (i := 1) (v := .string ⟨a22.toArray⟩) q2R.out)
      have q2V := hide (loc_other (p := ⟨w.heap.size, 1, none⟩) (v := .string ⟨a22.toArray⟩) q2S.out (qO.out))
      clear q2R q2S
      have H35 := hide (H34.out.setLoc Q14.out 1 (.string ⟨a22.toArray⟩))
      have F35 := hide (F34.out.setLoc G14.out 1 (.string ⟨a22.toArray⟩))
      clear H34 F34
      have q2W := hide (Strs.keep q2T.out (Kp.setLoc (T := [9]) (i := 2) (v := .slice p28 a28.length r28) q2U.out (by decide)) (by decide))
      clear q2T
      have q2X := hide (loc_set (i := 2) (v := .slice p28 a28.length r28) q2U.out)
      have q2Y := hide (loc_other (p := ⟨w.heap.size, 2, none⟩) (v := .slice p28 a28.length r28) q2V.out (qO.out))
      clear q2U q2V
      have H36 := hide (H35.out.setLoc Q14.out 2 (.slice p28 a28.length r28))
      have F36 := hide (F35.out.setLoc G14.out 2 (.slice p28 a28.length r28))
      clear H35 F35
      have q2Z := hide (Strs.keep q2W.out (Kp.setLoc (T := [9]) (i := 3) (v := .int .i64 0) q2X.out (by decide)) (by decide))
      clear q2W
      have q30 := hide (loc_set (i := 3) (v := .int .i64 0) q2X.out)
      have q31 := hide (loc_other (p := ⟨w.heap.size, 3, none⟩) (v := .int .i64 0) q2Y.out (qO.out))
      clear q2X q2Y
      have H37 := hide (H36.out.setLoc Q14.out 3 (.int .i64 0))
      have F37 := hide (F36.out.setLoc G14.out 3 (.int .i64 0))
      clear H36 F36
      exact .of_ok HO28.out (⟨_, rfl, q2Z.out⟩) H37.out F37.out

set_option maxRecDepth 100000 in
set_option maxHeartbeats 1600000 in
theorem term_any (h : Rd R L N s st w) (o : Out TermM) (ho : termM FN (kt L) s = o) :
    Calls Tryz.prog 196 #[.pointer (some ⟨R, 0, none⟩)] w (Ends R L N st w (vTerm (New w)) o) := by
  have HO := hide ho
  have H := hide h
  have F := hide (Fq.refl R w)
  clear h ho
  go_enter Tryz.func196, Tryz.ntmps196
  have B90 : Below _ _ ((w).alloc (.cells #[.int .i64 0, .string ⟨#[]⟩, .slice none 0 0, .int .i64 0] 109)) := (Below.refl _ _).alloc (Nat.le_refl _) _
  have Q90 : Hid (R < w.heap.size) := hide H.out.lt
  have G90 : Hid (w.heap.size ≤ w.heap.size) := hide F.out.size
  have LB90 := hide (heap_alloc_new (w) (.cells #[.int .i64 0, .string ⟨#[]⟩, .slice none 0 0, .int .i64 0] 109))
  have H90 := hide (H.out.below B90)
  have F90 := hide (F.out.trans (Fq.of_below B90))
  clear H F B90
  have C91 := hide (plainTerm_any R L N s st _ H90.out _ rfl)
  go_wp2_with fail
  refine C91.out.mono ?_
  intro e w91 he
  rcases he.split with ⟨a91, s91, v91, ho, rfl, hv, hR, hF⟩ | ⟨c, m, ho, rfl, hF⟩
  rotate_left 1
  · exact on_panic rfl (.of_bad (bind_no HO.out ho) (F90.out.trans hF))
  have HO91 := hide (bind_go HO.out ho)
  have q0 := hide (hF.loc LB90.out (Nat.ne_of_gt Q90.out))
  clear LB90
  have H91 := hide hR
  have F91 := hide (F90.out.trans hF)
  obtain ⟨av91, rfl, q1⟩ := hv
  obtain ⟨q2, q3, rfl⟩ := rows_form q1
  have q4 := hide (Strs.mono q1 fun g hg => Nat.le_trans F90.out.size hg)
  clear q1
  clear he ho hR hF C91 H90 F90 HO
  obtain ⟨q5, q6, q7, q8, y92⟩ := row4 q0.out
  have HOm := hide (ask_go HO91.out)
  clear HO91
  have c4 := (H91.out.below ((Below.refl _ _).alloc (Nat.le_refl _) (.cells #[.int .i64 a91.coef, .string ⟨a91.pred.toArray⟩, .slice q2 a91.args.length q3, .int .i64 a91.value] 109))).c4
  cases hmm : s91.minus with
  | false =>
    rw [hmm] at c4
    have HO := hide (ite_f HOm.out hmm)
    clear hmm
    have B93 : Below _ _ ((w91).alloc (.cells #[.int .i64 a91.coef, .string ⟨a91.pred.toArray⟩, .slice q2 a91.args.length q3, .int .i64 a91.value] 109)) := (Below.refl _ _).alloc (Nat.le_refl _) _
    have Q93 : Hid (R < w91.heap.size) := hide H91.out.lt
    have G93 : Hid (w.heap.size ≤ w91.heap.size) := hide F91.out.size
    have q9 : Hid (w.heap.size ≠ w91.heap.size) := hide (Nat.ne_of_lt (loc_lt q0.out))
    have qa : Hid (w91.heap.size ≠ w.heap.size) := hide (Nat.ne_of_gt (loc_lt q0.out))
    have qb := hide ((B93.block _ (loc_lt q0.out)).trans q0.out)
    clear q0
    have qc := hide (Strs.keep q4.out (Kp.of_below (T := [9]) B93) (by decide))
    clear q4
    have LB93 := hide (heap_alloc_new (w91) (.cells #[.int .i64 a91.coef, .string ⟨a91.pred.toArray⟩, .slice q2 a91.args.length q3, .int .i64 a91.value] 109))
    have H93 := hide (H91.out.below B93)
    have F93 := hide (F91.out.trans (Fq.of_below B93))
    clear H91 F91 B93
    obtain ⟨qd, qe, qf, qg, y94⟩ := row4 qb.out
    obtain ⟨qh, qi, qj, qk, y95⟩ := row4 LB93.out
    have x96 := q9.out
    have x97 := qa.out
    go_wp2_with fail
    have hz := (And.intro q5 (And.intro q6 (And.intro q7 (And.intro q8 (And.intro y92 (And.intro qd (And.intro qe (And.intro qf (And.intro qg (And.intro y94 (And.intro qh (And.intro qi (And.intro qj (And.intro qk (And.intro y95 (And.intro x96 (And.intro x97 c4)))))))))))))))))
    simp [bodyPost, results, Tryz.results196, go_sem, hz]
    have ql := hide (Strs.keep qc.out (Kp.setLoc (T := [9]) (i := 0) (v := .int .i64 a91.coef) qb.out (by decide)) (by decide))
    clear qc
    have qm := hide (loc_set (i := 0) (v := .int .i64 a91.coef) qb.out)
    have qn := hide (loc_other (p := ⟨w.heap.size, 0, none⟩) (v := .int .i64 a91.coef) LB93.out (qa.out))
    clear qb LB93
    have H98 := hide (H93.out.setLoc Q90.out 0 (.int .i64 a91.coef))
    have F98 := hide (F93.out.setLoc G90.out 0 (.int .i64 a91.coef))
    clear H93 F93
    have qo := hide (Strs.keep ql.out (Kp.setLoc (T := [9]) (i := 1) (v := .string ⟨a91.pred.toArray⟩) qm.out (by decide)) (by decide))
    clear ql
    have qp := hide (loc_set (i := 1) (v := .string ⟨a91.pred.toArray⟩) qm.out)
    have qq := hide (loc_other (p := ⟨w.heap.size, 1, none⟩) (v := .string ⟨a91.pred.toArray⟩) qn.out (qa.out))
    clear qm qn
    have H99 := hide (H98.out.setLoc Q90.out 1 (.string ⟨a91.pred.toArray⟩))
    have F99 := hide (F98.out.setLoc G90.out 1 (.string ⟨a91.pred.toArray⟩))
    clear H98 F98
    have qr := hide (Strs.keep qo.out (Kp.setLoc (T := [9]) (i := 2) (v := .slice q2 a91.args.length q3) qp.out (by decide)) (by decide))
    clear qo
    have qs := hide (loc_set (i := 2) (v := .slice q2 a91.args.length q3) qp.out)
    have qt := hide (loc_other (p := ⟨w.heap.size, 2, none⟩) (v := .slice q2 a91.args.length q3) qq.out (qa.out))
    clear qp qq
    have H100 := hide (H99.out.setLoc Q90.out 2 (.slice q2 a91.args.length q3))
    have F100 := hide (F99.out.setLoc G90.out 2 (.slice q2 a91.args.length q3))
    clear H99 F99
    have qu := hide (Strs.keep qr.out (Kp.setLoc (T := [9]) (i := 3) (v := .int .i64 a91.value) qs.out (by decide)) (by decide))
    clear qr
    have qv := hide (loc_set (i := 3) (v := .int .i64 a91.value) qs.out)
    have qw := hide (loc_other (p := ⟨w.heap.size, 3, none⟩) (v := .int .i64 a91.value) qt.out (qa.out))
    clear qs qt
    have H101 := hide (H100.out.setLoc Q90.out 3 (.int .i64 a91.value))
    have F101 := hide (F100.out.setLoc G90.out 3 (.int .i64 a91.value))
    clear H100 F100
    exact .of_ok HO.out (⟨_, rfl, qu.out⟩) H101.out F101.out
  | true =>
    rw [hmm] at c4
    have HO := hide (ite_t HOm.out hmm)
    clear hmm
    obtain ⟨m1, hm1⟩ : ∃ x, IntKind.i64.wrap (-a91.coef) = x := ⟨_, rfl⟩
    obtain ⟨m2, hm2⟩ : ∃ x, IntKind.i64.wrap (-a91.value) = x := ⟨_, rfl⟩
    have HO := hide (show Out.ok (⟨m1, a91.pred, a91.args, m2⟩ : TermM) s91 = o by rw [← hm1, ← hm2]; exact HO.out)
    have B102 : Below _ _ ((w91).alloc (.cells #[.int .i64 m1, .string ⟨a91.pred.toArray⟩, .slice q2 a91.args.length q3, .int .i64 m2] 109)) := (Below.refl _ _).alloc (Nat.le_refl _) _
    have Q102 : Hid (R < w91.heap.size) := hide H91.out.lt
    have G102 : Hid (w.heap.size ≤ w91.heap.size) := hide F91.out.size
    have q9 : Hid (w.heap.size ≠ w91.heap.size) := hide (Nat.ne_of_lt (loc_lt q0.out))
    have qa : Hid (w91.heap.size ≠ w.heap.size) := hide (Nat.ne_of_gt (loc_lt q0.out))
    have qx := hide ((B102.block _ (loc_lt q0.out)).trans q0.out)
    clear q0
    have qy := hide (Strs.keep q4.out (Kp.of_below (T := [9]) B102) (by decide))
    clear q4
    have LB102 := hide (heap_alloc_new (w91) (.cells #[.int .i64 m1, .string ⟨a91.pred.toArray⟩, .slice q2 a91.args.length q3, .int .i64 m2] 109))
    have H102 := hide (H91.out.below B102)
    have F102 := hide (F91.out.trans (Fq.of_below B102))
    clear H91 F91 B102
    obtain ⟨qz, qA, qB, qC, y103⟩ := row4 qx.out
    obtain ⟨qD, qE, qF, qG, y104⟩ := row4 LB102.out
    have x105 := q9.out
    have x106 := qa.out
    go_wp2_with fail
    have hz := (And.intro q5 (And.intro q6 (And.intro q7 (And.intro q8 (And.intro y92 (And.intro qz (And.intro qA (And.intro qB (And.intro qC (And.intro y103 (And.intro qD (And.intro qE (And.intro qF (And.intro qG (And.intro y104 (And.intro x105 (And.intro x106 c4)))))))))))))))))
    simp [bodyPost, results, Tryz.results196, go_sem, hz]
    have qH := hide (Strs.keep qy.out (Kp.setLoc (T := [9]) (i := 0) (v := .int .i64 m1) qx.out (by decide)) (by decide))
    clear qy
    have qI := hide (loc_set (i := 0) (v := .int .i64 m1) qx.out)
    have qJ := hide (loc_other (p := ⟨w.heap.size, 0, none⟩) (v := .int .i64 m1) LB102.out (qa.out))
    clear qx LB102
    have H107 := hide (H102.out.setLoc Q90.out 0 (.int .i64 m1))
    have F107 := hide (F102.out.setLoc G90.out 0 (.int .i64 m1))
    clear H102 F102
    have qK := hide (Strs.keep qH.out (Kp.setLoc (T := [9]) (i := 1) (v := .string ⟨a91.pred.toArray⟩) qI.out (by decide)) (by decide))
    clear qH
    have qL := hide (loc_set (i := 1) (v := .string ⟨a91.pred.toArray⟩) qI.out)
    have qM := hide (loc_other (p := ⟨w.heap.size, 1, none⟩) (v := .string ⟨a91.pred.toArray⟩) qJ.out (qa.out))
    clear qI qJ
    have H108 := hide (H107.out.setLoc Q90.out 1 (.string ⟨a91.pred.toArray⟩))
    have F108 := hide (F107.out.setLoc G90.out 1 (.string ⟨a91.pred.toArray⟩))
    clear H107 F107
    have qN := hide (Strs.keep qK.out (Kp.setLoc (T := [9]) (i := 2) (v := .slice q2 a91.args.length q3) qL.out (by decide)) (by decide))
    clear qK
    have qO := hide (loc_set (i := 2) (v := .slice q2 a91.args.length q3) qL.out)
    have qP := hide (loc_other (p := ⟨w.heap.size, 2, none⟩) (v := .slice q2 a91.args.length q3) qM.out (qa.out))
    clear qL qM
    have H109 := hide (H108.out.setLoc Q90.out 2 (.slice q2 a91.args.length q3))
    have F109 := hide (F108.out.setLoc G90.out 2 (.slice q2 a91.args.length q3))
    clear H108 F108
    have qQ := hide (Strs.keep qN.out (Kp.setLoc (T := [9]) (i := 3) (v := .int .i64 m2) qO.out (by decide)) (by decide))
    clear qN
    have qR := hide (loc_set (i := 3) (v := .int .i64 m2) qO.out)
    have qS := hide (loc_other (p := ⟨w.heap.size, 3, none⟩) (v := .int .i64 m2) qP.out (qa.out))
    clear qO qP
    have H110 := hide (H109.out.setLoc Q90.out 3 (.int .i64 m2))
    have F110 := hide (F109.out.setLoc G90.out 3 (.int .i64 m2))
    clear H109 F109
    exact .of_ok HO.out (⟨_, rfl, qQ.out⟩) H110.out F110.out

theorem sign_eats {K : Toks} {s u : RS} (h : signM K s = .ok true u) : s.n < u.n := by
  obtain ⟨m, v, h1, h2⟩ := bind_ok.1 h
  have h3 := set_go h2
  cases m with
  | true =>
    have h5 := hasMark_eats (t := [45]) h1
    cases h3
    exact h5
  | false =>
    have := (good_hasMark [45]).le _ _ _ _ h1
    have h4 := hasMark_eats (t := [43]) (K := K) (ite_f h3 rfl)
    exact Nat.lt_of_le_of_lt this h4

set_option maxRecDepth 100000 in
set_option maxHeartbeats 1600000 in
theorem side_any (h : Rd R L N s st w) (o : Out (List TermM)) (ho : sideM FN (kt L) s = o) :
    Calls Tryz.prog 177 #[.pointer (some ⟨R, 0, none⟩)] w (Ends R L N st w (Terms (New w)) o) := by
  have HO := hide ho
  have H := hide h
  have F := hide (Fq.refl R w)
  clear h ho
  have c4 := H.out.c4
  have f4 := H.out.frz 4
  have HO1 := hide (set_go HO.out)
  have HS := hide (H.out.setMinus false)
  have FS := hide (F.out.set 4 (.bool false))
  clear H F HO
  go_enter Tryz.func177, Tryz.ntmps177
  have C111 := hide (list_term_term R L N { s with minus := false } st _ (termM FN (kt L)) (fun s w h => term_any R L N s st w h _ rfl) (signM (kt L)) (fun s w h => sign_any R L N s st w h _ rfl) (fun s a u => eats_term FN _ s a u) (fun s u => sign_eats) 8 HS.out _ rfl)
  go_wp2_with fail
  refine C111.out.mono ?_
  intro e w111 he
  rcases he.split with ⟨a111, s111, v111, ho, rfl, hv, hR, hF⟩ | ⟨c, m, ho, rfl, hF⟩
  rotate_left 1
  · exact on_panic rfl (.of_bad (ho.symm.trans HO1.out) (FS.out.trans hF))
  have HO111 := hide (ho.symm.trans HO1.out)
  have H111 := hide hR
  have F111 := hide (FS.out.trans hF)
  obtain ⟨p111, r111, rfl⟩ := rows_form hv
  have V111 := hide (Terms.mono hv fun g hg => Nat.le_trans FS.out.size hg)
  clear hv
  clear he ho hR hF C111 HS FS HO1
  go_wp2_with fail
  go_ret
  exact .of_ok HO111.out V111.out H111.out F111.out

set_option maxRecDepth 100000 in
set_option maxHeartbeats 1600000 in
theorem guard_any (h : Rd R L N s st w) (o : Out GuardM) (ho : guardM FN (kt L) s = o) :
    Calls Tryz.prog 158 #[.pointer (some ⟨R, 0, none⟩)] w (Ends R L N st w (vGuard (New w)) o) := by
  have HO := hide ho
  have H := hide h
  have F := hide (Fq.refl R w)
  clear h ho
  go_enter Tryz.func158, Tryz.ntmps158
  have B112 : Below _ _ ((w).alloc (.cells #[.slice none 0 0, .int .i64 0, .slice none 0 0] 105)) := (Below.refl _ _).alloc (Nat.le_refl _) _
  have Q112 : Hid (R < w.heap.size) := hide H.out.lt
  have G112 : Hid (w.heap.size ≤ w.heap.size) := hide F.out.size
  have LB112 := hide (heap_alloc_new (w) (.cells #[.slice none 0 0, .int .i64 0, .slice none 0 0] 105))
  have H112 := hide (H.out.below B112)
  have F112 := hide (F.out.trans (Fq.of_below B112))
  clear H F B112
  have C113 := hide (wantMark_any R L N s st _ [123] H112.out _ rfl)
  go_wp2_with fail
  refine C113.out.mono ?_
  intro e w113 he
  rcases he.split with ⟨a113, s113, v113, ho, rfl, hv, hR, hF⟩ | ⟨c, m, ho, rfl, hF⟩
  rotate_left 1
  · exact on_panic rfl (.of_bad (bind_no HO.out ho) (F112.out.trans hF))
  have HO113 := hide (bind_go HO.out ho)
  have q0 := hide (hF.loc LB112.out (Nat.ne_of_gt Q112.out))
  clear LB112
  have H113 := hide hR
  have F113 := hide (F112.out.trans hF)
  cases hv
  clear he ho hR hF C113 H112 F112 HO
  obtain ⟨q1, q2, q3, y114⟩ := row3 q0.out
  have C115 := hide (side_any R L N s113 st _ H113.out _ rfl)
  go_wp2_with fail
  refine C115.out.mono ?_
  intro e w115 he
  rcases he.split with ⟨a115, s115, v115, ho, rfl, hv, hR, hF⟩ | ⟨c, m, ho, rfl, hF⟩
  rotate_left 1
  · exact on_panic rfl (.of_bad (bind_no HO113.out ho) (F113.out.trans hF))
  clear q1 q2 q3 y114
  have HO115 := hide (bind_go HO113.out ho)
  have q4 := hide (hF.loc q0.out (Nat.ne_of_gt Q112.out))
  clear q0
  have H115 := hide hR
  have F115 := hide (F113.out.trans hF)
  obtain ⟨p115, r115, rfl⟩ := rows_form hv
  have V115 := hide (Terms.mono hv fun g hg => Nat.le_trans F113.out.size hg)
  clear hv
  clear he ho hR hF C115 H113 F113 HO113
  obtain ⟨q5, q6, q7, y116⟩ := row3 q4.out
  have B117 : Below _ _ ((w115).alloc (.cells #[.slice p115 a115.length r115, .int .i64 0, .slice none 0 0] 105)) := (Below.refl _ _).alloc (Nat.le_refl _) _
  have Q117 : Hid (R < w115.heap.size) := hide H115.out.lt
  have G117 : Hid (w.heap.size ≤ w115.heap.size) := hide F115.out.size
  have q8 : Hid (w.heap.size ≠ w115.heap.size) := hide (Nat.ne_of_lt (loc_lt q4.out))
  have q9 : Hid (w115.heap.size ≠ w.heap.size) := hide (Nat.ne_of_gt (loc_lt q4.out))
  have qa := hide ((B117.block _ (loc_lt q4.out)).trans q4.out)
  clear q4
  have qb := hide (Terms.keep V115.out (Kp.of_below (T := [9, 109]) B117) (by decide) (by decide))
  clear V115
  have LB117 := hide (heap_alloc_new (w115) (.cells #[.slice p115 a115.length r115, .int .i64 0, .slice none 0 0] 105))
  have H117 := hide (H115.out.below B117)
  have F117 := hide (F115.out.trans (Fq.of_below B117))
  clear H115 F115 B117
  have C118 := hide (op_any R L N s115 st _ H117.out _ rfl)
  go_wp2_with fail
  refine C118.out.mono ?_
  intro e w118 he
  rcases he.split with ⟨a118, s118, v118, ho, rfl, hv, hR, hF⟩ | ⟨c, m, ho, rfl, hF⟩
  rotate_left 1
  · exact on_panic rfl (.of_bad (bind_no HO115.out ho) (F117.out.trans hF))
  clear q5 q6 q7 y116
  have HO118 := hide (bind_go HO115.out ho)
  have qc := hide (hF.loc qa.out (Nat.ne_of_gt Q112.out))
  clear qa
  have qd := hide (hF.loc LB117.out (Nat.ne_of_gt Q117.out))
  clear LB117
  have qe := hide (Terms.keep qb.out (Kp.of_fq (T := [9, 109]) hF H117.out (by decide)) (by decide) (by decide))
  clear qb
  have H118 := hide hR
  have F118 := hide (F117.out.trans hF)
  cases hv
  clear he ho hR hF C118 H117 F117 HO115
  obtain ⟨qf, qg, qh, y119⟩ := row3 qc.out
  obtain ⟨qi, qj, qk, y120⟩ := row3 qd.out
  have x121 := q8.out
  have x122 := q9.out
  have ql := hide (Terms.keep qe.out (Kp.setLoc (T := [9, 109]) (i := 1) (v := .int .i64 a118) qd.out (by decide)) (by decide) (by decide))
  clear qe
  have qm := hide (loc_other (p := ⟨w115.heap.size, 1, none⟩) (v := .int .i64 a118) qc.out (q8.out))
  have qn := hide (loc_set (i := 1) (v := .int .i64 a118) qd.out)
  clear qc qd
  have H123 := hide (H118.out.setLoc Q117.out 1 (.int .i64 a118))
  have F123 := hide (F118.out.setLoc G117.out 1 (.int .i64 a118))
  clear H118 F118
  have C124 := hide (side_any R L N s118 st _ H123.out _ rfl)
  go_wp2_with fail
  refine C124.out.mono ?_
  intro e w124 he
  rcases he.split with ⟨a124, s124, v124, ho, rfl, hv, hR, hF⟩ | ⟨c, m, ho, rfl, hF⟩
  rotate_left 1
  · exact on_panic rfl (.of_bad (bind_no HO118.out ho) (F123.out.trans hF))
  clear qf qg qh y119 qi qj qk y120 x121 x122
  have HO124 := hide (bind_go HO118.out ho)
  have qo := hide (hF.loc qm.out (Nat.ne_of_gt Q112.out))
  clear qm
  have qp := hide (hF.loc qn.out (Nat.ne_of_gt Q117.out))
  clear qn
  have qq := hide (Terms.keep ql.out (Kp.of_fq (T := [9, 109]) hF H123.out (by decide)) (by decide) (by decide))
  clear ql
  have H124 := hide hR
  have F124 := hide (F123.out.trans hF)
  obtain ⟨p124, r124, rfl⟩ := rows_form hv
  have V124 := hide (Terms.mono hv fun g hg => Nat.le_trans F123.out.size hg)
  clear hv
  clear he ho hR hF C124 H123 F123 HO118
  obtain ⟨qr, qs, qt, y125⟩ := row3 qo.out
  obtain ⟨qu, qv, qw, y126⟩ := row3 qp.out
  have x127 := q8.out
  have x128 := q9.out
  have qx := hide (Terms.keep qq.out (Kp.setLoc (T := [9, 109]) (i := 2) (v := .slice p124 a124.length r124) qp.out (by decide)) (by decide) (by decide))
  clear qq
  have qy := hide (Terms.keep V124.out (Kp.setLoc (T := [9, 109]) (i := 2) (v := .slice p124 a124.length r124) qp.out (by decide)) (by decide) (by decide))
  clear V124
  have qz := hide (loc_other (p := ⟨w115.heap.size, 2, none⟩) (v := .slice p124 a124.length r124) qo.out (q8.out))
  have qA := hide (loc_set (i := 2) (v := .slice p124 a124.length r124) qp.out)
  clear qo qp
  have H129 := hide (H124.out.setLoc Q117.out 2 (.slice p124 a124.length r124))
  have F129 := hide (F124.out.setLoc G117.out 2 (.slice p124 a124.length r124))
  clear H124 F124
  have C130 := hide (wantMark_any R L N s124 st _ [125] H129.out _ rfl)
  go_wp2_with fail
  refine C130.out.mono ?_
  intro e w130 he
  rcases he.split with ⟨a130, s130, v130, ho, rfl, hv, hR, hF⟩ | ⟨c, m, ho, rfl, hF⟩
  rotate_left 1
  · exact on_panic rfl (.of_bad (bind_no HO124.out ho) (F129.out.trans hF))
  clear qr qs qt y125 qu qv qw y126 x127 x128
  have HO130 := hide (bind_go HO124.out ho)
  have qB := hide (hF.loc qz.out (Nat.ne_of_gt Q112.out))
  clear qz
  have qC := hide (hF.loc qA.out (Nat.ne_of_gt Q117.out))
  clear qA
  have qD := hide (Terms.keep qx.out (Kp.of_fq (T := [9, 109]) hF H129.out (by decide)) (by decide) (by decide))
  clear qx
  have qE := hide (Terms.keep qy.out (Kp.of_fq (T := [9, 109]) hF H129.out (by decide)) (by decide) (by decide))
  clear qy
  have H130 := hide hR
  have F130 := hide (F129.out.trans hF)
  cases hv
  clear he ho hR hF C130 H129 F129 HO124
  obtain ⟨qF, qG, qH, y131⟩ := row3 qB.out
  obtain ⟨qI, qJ, qK, y132⟩ := row3 qC.out
  have x133 := q8.out
  have x134 := q9.out
  go_wp2_with fail
  have hz := (And.intro qF (And.intro qG (And.intro qH (And.intro y131 (And.intro qI (And.intro qJ (And.intro qK (And.intro y132 (And.intro x133 x134)))))))))
  simp [bodyPost, results, Tryz.results158, go_sem, hz]
  have qL := hide (Terms.keep qD.out (Kp.setLoc (T := [9, 109]) (i := 0) (v := .slice p115 a115.length r115) qB.out (by decide)) (by decide) (by decide))
  clear qD
  have qM := hide (Terms.keep qE.out (Kp.setLoc (T := [9, 109]) (i := 0) (v := .slice p115 a115.length r115) qB.out (by decide)) (by decide) (by decide))
  clear qE
  have qN := hide (loc_set (i := 0) (v := .slice p115 a115.length r115) qB.out)
  have qO := hide (loc_other (p := ⟨w.heap.size, 0, none⟩) (v := .slice p115 a115.length r115) qC.out (q9.out))
  clear qB qC
  have H135 := hide (H130.out.setLoc Q112.out 0 (.slice p115 a115.length r115))
  have F135 := hide (F130.out.setLoc G112.out 0 (.slice p115 a115.length r115))
  clear H130 F130
  have qP := hide (Terms.keep qL.out (Kp.setLoc (T := [9, 109]) (i := 1) (v := .int .i64 a118) qN.out (by decide)) (by decide) (by decide))
  clear qL
  have qQ := hide (Terms.keep qM.out (Kp.setLoc (T := [9, 109]) (i := 1) (v := .int .i64 a118) qN.out (by decide)) (by decide) (by decide))
  clear qM
  have qR := hide (loc_set (i := 1) (v := .int .i64 a118) qN.out)
  have qS := hide (loc_other (p := ⟨w.heap.size, 1, none⟩) (v := .int .i64 a118) qO.out (q9.out))
  clear qN qO
  have H136 := hide (H135.out.setLoc Q112.out 1 (.int .i64 a118))
  have F136 := hide (F135.out.setLoc G112.out 1 (.int .i64 a118))
  clear H135 F135
  have qT := hide (Terms.keep qP.out (Kp.setLoc (T := [9, 109]) (i := 2) (v := .slice p124 a124.length r124) qR.out (by decide)) (by decide) (by decide))
  clear qP
  have qU := hide (Terms.keep qQ.out (Kp.setLoc (T := [9, 109]) (i := 2) (v := .slice p124 a124.length r124) qR.out (by decide)) (by decide) (by decide))
  clear qQ
  have qV := hide (loc_set (i := 2) (v := .slice p124 a124.length r124) qR.out)
  have qW := hide (loc_other (p := ⟨w.heap.size, 2, none⟩) (v := .slice p124 a124.length r124) qS.out (q9.out))
  clear qR qS
  have H137 := hide (H136.out.setLoc Q112.out 2 (.slice p124 a124.length r124))
  have F137 := hide (F136.out.setLoc G112.out 2 (.slice p124 a124.length r124))
  clear H136 F136
  exact .of_ok HO130.out (⟨_, _, rfl, qT.out, qU.out⟩) H137.out F137.out

end
end Go.Proofs.YthnjmfkiohgkkaaGreatDoor.Sy
