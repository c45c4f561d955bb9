/- A rule. By program. -/
import Derived.Test.YthnjmfkiohgkkaaGreatDoorPrem5
namespace Go.Proofs.YthnjmfkiohgkkaaGreatDoor.Sy
open Go.RowKit

theorem bind_two {α β γ : Type} {x : M α} {g : α → M β} {f : β → M γ} {s : RS} {o : Out γ} (h : ((x >>= g) >>= f) s = o) : (x >>= fun a => g a >>= f) s = o := by
  rw [← h]
  show (match x s with | .ok a t => (g a >>= f) t | .bad e n => .bad e n) = (match (match x s with | .ok a t => g a t | .bad e n => .bad e n) with | .ok a t => f a t | .bad e n => .bad e n)
  cases x s with
  | ok a t => rfl
  | bad e n => rfl
theorem bind_t {α β : Type} {A B : M α} {f : α → M β} {s : RS} {o : Out β} {c : Bool} (h : ((if c = true then A else B) >>= f) s = o) (hc : c = true) : (A >>= f) s = o := by rw [if_pos hc] at h; exact h
theorem bind_f {α β : Type} {A B : M α} {f : α → M β} {s : RS} {o : Out β} {c : Bool} (h : ((if c = true then A else B) >>= f) s = o) (hc : c = false) : (B >>= f) s = o := by rw [if_neg (by simp [hc])] at h; exact h
theorem bind_pure {α β : Type} {a : α} {f : α → M β} {s : RS} {o : Out β} (h : ((pure a : M α) >>= f) s = o) : f a s = o := h

theorem eats_premise (F : Fns) : Eats (premiseM F) :=
  .ask fun b => .ite b eats_unlike (.ask fun b => .ite b (.bind (eats_guard F) fun _ => .pure _) (.bind (eats_literal F) fun _ => .pure _))

section
variable (R : Nat) (L : List Tok) (N : Nat) (s : RS) (st : St9) (w : World)

set_option maxRecDepth 100000 in
set_option maxHeartbeats 1600000 in
theorem rule_any (h : Rd R L N s st w) (o : Out RuleM) (ho : ruleM FN (kt L) s = o) :
    Calls Tryz.prog 83 #[.pointer (some ⟨R, 0, none⟩)] w (Ends R L N st w (vRule (New w)) o) := by
  have HO := hide ho
  have H := hide h
  have F := hide (Fq.refl R w)
  clear h ho
  go_enter Tryz.func83, Tryz.ntmps83
  have B1 : Below _ _ ((w).alloc (.cells #[.string ⟨#[]⟩, .string ⟨#[]⟩, .int .i64 0, .int .i64 0, .slice none 0 0, .int .i64 0, .bool false, .string ⟨#[]⟩, .slice none 0 0, .bool false, .int .i64 0] 100)) := (Below.refl _ _).alloc (Nat.le_refl _) _
  have Q1 : Hid (R < w.heap.size) := hide H.out.lt
  have G1 : Hid (w.heap.size ≤ w.heap.size) := hide F.out.size
  have LB1 := hide (heap_alloc_new (w) (.cells #[.string ⟨#[]⟩, .string ⟨#[]⟩, .int .i64 0, .int .i64 0, .slice none 0 0, .int .i64 0, .bool false, .string ⟨#[]⟩, .slice none 0 0, .bool false, .int .i64 0] 100))
  have H1 := hide (H.out.below B1)
  have F1 := hide (F.out.trans (Fq.of_below B1))
  clear H F B1
  have C2 := hide (name_any R L N s st _ H1.out _ rfl)
  go_wp2_with fail
  refine C2.out.mono ?_
  intro e w2 he
  rcases he.split with ⟨a2, s2, v2, ho, rfl, hv, hR, hF⟩ | ⟨c, m, ho, rfl, hF⟩
  rotate_left 1
  · exact on_panic rfl (.of_bad (bind_no HO.out ho) (F1.out.trans hF))
  have HO2 := hide (bind_go HO.out ho)
  have q0 := hide (hF.loc LB1.out (Nat.ne_of_gt Q1.out))
  clear LB1
  have H2 := hide hR
  have F2 := hide (F1.out.trans hF)
  cases hv
  clear he ho hR hF C2 H1 F1 HO
  obtain ⟨q1, q2, q3, q4, q5, q6, q7, q8, q9, qa, qb, y3⟩ := row11 q0.out
  have B4 : Below _ _ ((w2).alloc (.cells #[.string ⟨a2.toArray⟩, .string ⟨#[]⟩, .int .i64 0, .int .i64 0, .slice none 0 0, .int .i64 0, .bool false, .string ⟨#[]⟩, .slice none 0 0, .bool false, .int .i64 0] 100)) := (Below.refl _ _).alloc (Nat.le_refl _) _
  have Q4 : Hid (R < w2.heap.size) := hide H2.out.lt
  have G4 : Hid (w.heap.size ≤ w2.heap.size) := hide F2.out.size
  have qc : Hid (w.heap.size ≠ w2.heap.size) := hide (Nat.ne_of_lt (loc_lt q0.out))
  have qd : Hid (w2.heap.size ≠ w.heap.size) := hide (Nat.ne_of_gt (loc_lt q0.out))
  have qe := hide ((B4.block _ (loc_lt q0.out)).trans q0.out)
  clear q0
  have LB4 := hide (heap_alloc_new (w2) (.cells #[.string ⟨a2.toArray⟩, .string ⟨#[]⟩, .int .i64 0, .int .i64 0, .slice none 0 0, .int .i64 0, .bool false, .string ⟨#[]⟩, .slice none 0 0, .bool false, .int .i64 0] 100))
  have H4 := hide (H2.out.below B4)
  have F4 := hide (F2.out.trans (Fq.of_below B4))
  clear H2 F2 B4
  have C5 := hide (wantWord_any R L N s2 st _ [111, 102] H4.out _ rfl)
  go_wp2_with fail
  refine C5.out.mono ?_
  intro e w5 he
  rcases he.split with ⟨a5, s5, v5, ho, rfl, hv, hR, hF⟩ | ⟨c, m, ho, rfl, hF⟩
  rotate_left 1
  · exact on_panic rfl (.of_bad (bind_no HO2.out ho) (F4.out.trans hF))
  clear q1 q2 q3 q4 q5 q6 q7 q8 q9 qa qb y3
  have HO5 := hide (bind_go HO2.out ho)
  have qf := hide (hF.loc qe.out (Nat.ne_of_gt Q1.out))
  clear qe
  have qg := hide (hF.loc LB4.out (Nat.ne_of_gt Q4.out))
  clear LB4
  have H5 := hide hR
  have F5 := hide (F4.out.trans hF)
  cases hv
  clear he ho hR hF C5 H4 F4 HO2
  obtain ⟨qh, qi, qj, qk, ql, qm, qn, qo, qp, qq, qr, y6⟩ := row11 qf.out
  obtain ⟨qs, qt, qu, qv, qw, qx, qy, qz, qA, qB, qC, y7⟩ := row11 qg.out
  have x8 := qc.out
  have x9 := qd.out
  have C10 := hide (name_any R L N s5 st _ H5.out _ rfl)
  go_wp2_with fail
  refine C10.out.mono ?_
  intro e w10 he
  rcases he.split with ⟨a10, s10, v10, ho, rfl, hv, hR, hF⟩ | ⟨c, m, ho, rfl, hF⟩
  rotate_left 1
  · exact on_panic rfl (.of_bad (bind_no HO5.out ho) (F5.out.trans hF))
  clear qh qi qj qk ql qm qn qo qp qq qr y6 qs qt qu qv qw qx qy qz qA qB qC y7 x8 x9
  have HO10 := hide (bind_go HO5.out ho)
  have qD := hide (hF.loc qf.out (Nat.ne_of_gt Q1.out))
  clear qf
  have qE := hide (hF.loc qg.out (Nat.ne_of_gt Q4.out))
  clear qg
  have H10 := hide hR
  have F10 := hide (F5.out.trans hF)
  cases hv
  clear he ho hR hF C10 H5 F5 HO5
  obtain ⟨qF, qG, qH, qI, qJ, qK, qL, qM, qN, qO, qP, y11⟩ := row11 qD.out
  obtain ⟨qQ, qR, qS, qT, qU, qV, qW, qX, qY, qZ, q10, y12⟩ := row11 qE.out
  have x13 := qc.out
  have x14 := qd.out
  have q11 := hide (loc_other (p := ⟨w2.heap.size, 1, none⟩) (v := .string ⟨a10.toArray⟩) qD.out (qc.out))
  have q12 := hide (loc_set (i := 1) (v := .string ⟨a10.toArray⟩) qE.out)
  clear qD qE
  have H15 := hide (H10.out.setLoc Q4.out 1 (.string ⟨a10.toArray⟩))
  have F15 := hide (F10.out.setLoc G4.out 1 (.string ⟨a10.toArray⟩))
  clear H10 F10
  have C16 := hide (wantWord_any R L N s10 st _ [97, 116] H15.out _ rfl)
  go_wp2_with fail
  refine C16.out.mono ?_
  intro e w16 he
  rcases he.split with ⟨a16, s16, v16, ho, rfl, hv, hR, hF⟩ | ⟨c, m, ho, rfl, hF⟩
  rotate_left 1
  · exact on_panic rfl (.of_bad (bind_no HO10.out ho) (F15.out.trans hF))
  clear qF qG qH qI qJ qK qL qM qN qO qP y11 qQ qR qS qT qU qV qW qX qY qZ q10 y12 x13 x14
  have HO16 := hide (bind_go HO10.out ho)
  have q13 := hide (hF.loc q11.out (Nat.ne_of_gt Q1.out))
  clear q11
  have q14 := hide (hF.loc q12.out (Nat.ne_of_gt Q4.out))
  clear q12
  have H16 := hide hR
  have F16 := hide (F15.out.trans hF)
  cases hv
  clear he ho hR hF C16 H15 F15 HO10
  obtain ⟨q15, q16, q17, q18, q19, q1a, q1b, q1c, q1d, q1e, q1f, y17⟩ := row11 q13.out
  obtain ⟨q1g, q1h, q1i, q1j, q1k, q1l, q1m, q1n, q1o, q1p, q1q, y18⟩ := row11 q14.out
  have x19 := qc.out
  have x20 := qd.out
  have C21 := hide (date_any R L N s16 st _ H16.out _ rfl)
  go_wp2_with fail
  refine C21.out.mono ?_
  intro e w21 he
  rcases he.split with ⟨a21, s21, v21, ho, rfl, hv, hR, hF⟩ | ⟨c, m, ho, rfl, hF⟩
  rotate_left 1
  · exact on_panic rfl (.of_bad (bind_no HO16.out ho) (F16.out.trans hF))
  clear q15 q16 q17 q18 q19 q1a q1b q1c q1d q1e q1f y17 q1g q1h q1i q1j q1k q1l q1m q1n q1o q1p q1q y18 x19 x20
  have HO21 := hide (bind_go HO16.out ho)
  have q1r := hide (hF.loc q13.out (Nat.ne_of_gt Q1.out))
  clear q13
  have q1s := hide (hF.loc q14.out (Nat.ne_of_gt Q4.out))
  clear q14
  have H21 := hide hR
  have F21 := hide (F16.out.trans hF)
  cases hv
  clear he ho hR hF C21 H16 F16 HO16
  obtain ⟨q1t, q1u, q1v, q1w, q1x, q1y, q1z, q1A, q1B, q1C, q1D, y22⟩ := row11 q1r.out
  obtain ⟨q1E, q1F, q1G, q1H, q1I, q1J, q1K, q1L, q1M, q1N, q1O, y23⟩ := row11 q1s.out
  have x24 := qc.out
  have x25 := qd.out
  have q1P := hide (loc_other (p := ⟨w2.heap.size, 2, none⟩) (v := .int .i64 a21) q1r.out (qc.out))
  have q1Q := hide (loc_set (i := 2) (v := .int .i64 a21) q1s.out)
  clear q1r q1s
  have H26 := hide (H21.out.setLoc Q4.out 2 (.int .i64 a21))
  have F26 := hide (F21.out.setLoc G4.out 2 (.int .i64 a21))
  clear H21 F21
  have HOu := hide (bind_two HO21.out)
  clear HO21
  have C27 := hide (hasWord_any R L N s21 st _ [117, 110, 116, 105, 108] H26.out _ rfl)
  go_wp2_with fail
  refine C27.out.mono ?_
  intro e w27 he
  rcases he.split with ⟨a27, s27, v27, ho, rfl, hv, hR, hF⟩ | ⟨c, m, ho, rfl, hF⟩
  rotate_left 1
  · exact on_panic rfl (.of_bad (bind_no HOu.out ho) (F26.out.trans hF))
  clear q1t q1u q1v q1w q1x q1y q1z q1A q1B q1C q1D y22 q1E q1F q1G q1H q1I q1J q1K q1L q1M q1N q1O y23 x24 x25
  have HO27 := hide (bind_go HOu.out ho)
  have q1R := hide (hF.loc q1P.out (Nat.ne_of_gt Q1.out))
  clear q1P
  have q1S := hide (hF.loc q1Q.out (Nat.ne_of_gt Q4.out))
  clear q1Q
  have H27 := hide hR
  have F27 := hide (F26.out.trans hF)
  cases hv
  clear he ho hR hF C27 H26 F26 HOu
  obtain ⟨q1T, q1U, q1V, q1W, q1X, q1Y, q1Z, q20, q21, q22, q23, y28⟩ := row11 q1R.out
  obtain ⟨q24, q25, q26, q27, q28, q29, q2a, q2b, q2c, q2d, q2e, y29⟩ := row11 q1S.out
  have x30 := qc.out
  have x31 := qd.out
  cases a27 with
  | false =>
    have HO := hide (bind_pure (bind_f HO27.out rfl))
    clear HO27
    have C32 := hide (wantMark_any R L N s27 st _ [58] H27.out _ rfl)
    go_wp2_with fail
    refine C32.out.mono ?_
    intro e w32 he
    rcases he.split with ⟨a32, s32, v32, ho, rfl, hv, hR, hF⟩ | ⟨c, m, ho, rfl, hF⟩
    rotate_left 1
    · exact on_panic rfl (.of_bad (bind_no HO.out ho) (F27.out.trans hF))
    clear q1T q1U q1V q1W q1X q1Y q1Z q20 q21 q22 q23 y28 q24 q25 q26 q27 q28 q29 q2a q2b q2c q2d q2e y29 x30 x31
    have HO32 := hide (bind_go HO.out ho)
    have q2f := hide (hF.loc q1R.out (Nat.ne_of_gt Q1.out))
    clear q1R
    have q2g := hide (hF.loc q1S.out (Nat.ne_of_gt Q4.out))
    clear q1S
    have H32 := hide hR
    have F32 := hide (F27.out.trans hF)
    cases hv
    clear he ho hR hF C32 H27 F27 HO
    obtain ⟨q2h, q2i, q2j, q2k, q2l, q2m, q2n, q2o, q2p, q2q, q2r, y33⟩ := row11 q2f.out
    obtain ⟨q2s, q2t, q2u, q2v, q2w, q2x, q2y, q2z, q2A, q2B, q2C, y34⟩ := row11 q2g.out
    have x35 := qc.out
    have x36 := qd.out
    have HOb := hide (ask_go (bind_two HO32.out))
    clear HO32
    have CO := hide (arrowOf_any L s32.n (placeAt L N s32.n))
    have CA0 := hide (fun w h => ahead_any R L N s32 st w h 0 (by omega))
    rw [show s32.n + 0 = s32.n from rfl] at CA0
    cases har : decide (arrowAt (kt L) s32.n = 0) with
    | false =>
      have HOc := hide (bind_pure (bind_f HOb.out har))
      have hr' : ¬ ((arrowAt (kt L) s32.n : Nat) : Int) = 0 := by simp at har; omega
      clear HOb har
      go_wp2_with fail
      refine (CA0.out _ H32.out).mono ?_
      rintro _ w37 ⟨rfl, hb⟩
      clear q2h q2i q2j q2k q2l q2m q2n q2o q2p q2q q2r y33 q2s q2t q2u q2v q2w q2x q2y q2z q2A q2B q2C y34 x35 x36
      have q2D := hide ((hb.block _ (loc_lt q2f.out)).trans q2f.out)
      clear q2f
      have q2E := hide ((hb.block _ (loc_lt q2g.out)).trans q2g.out)
      clear q2g
      have H37 := hide (H32.out.below hb)
      have F37 := hide (F32.out.trans (Fq.of_below hb))
      clear hb H32 F32
      obtain ⟨q2F, q2G, q2H, q2I, q2J, q2K, q2L, q2M, q2N, q2O, q2P, y38⟩ := row11 q2D.out
      obtain ⟨q2Q, q2R, q2S, q2T, q2U, q2V, q2W, q2X, q2Y, q2Z, q30, y39⟩ := row11 q2E.out
      have x40 := qc.out
      have x41 := qd.out
      go_wp2_with fail
      refine (CO.out _).mono ?_
      rintro _ w42 ⟨rfl, hb⟩
      clear q2F q2G q2H q2I q2J q2K q2L q2M q2N q2O q2P y38 q2Q q2R q2S q2T q2U q2V q2W q2X q2Y q2Z q30 y39 x40 x41
      have q31 := hide ((hb.block _ (loc_lt q2D.out)).trans q2D.out)
      clear q2D
      have q32 := hide ((hb.block _ (loc_lt q2E.out)).trans q2E.out)
      clear q2E
      have H42 := hide (H37.out.below hb)
      have F42 := hide (F37.out.trans (Fq.of_below hb))
      clear hb H37 F37
      obtain ⟨q33, q34, q35, q36, q37, q38, q39, q3a, q3b, q3c, q3d, y43⟩ := row11 q31.out
      obtain ⟨q3e, q3f, q3g, q3h, q3i, q3j, q3k, q3l, q3m, q3n, q3o, y44⟩ := row11 q32.out
      have x45 := qc.out
      have x46 := qd.out
      have C47 := hide (arrow_any R L N s32 st _ H42.out _ rfl)
      go_wp2_with fail
      refine C47.out.mono ?_
      intro e w47 he
      rcases he.split with ⟨a47, s47, v47, ho, rfl, hv, hR, hF⟩ | ⟨c, m, ho, rfl, hF⟩
      rotate_left 1
      · exact on_panic rfl (.of_bad (bind_no HOc.out ho) (F42.out.trans hF))
      clear q33 q34 q35 q36 q37 q38 q39 q3a q3b q3c q3d y43 q3e q3f q3g q3h q3i q3j q3k q3l q3m q3n q3o y44 x45 x46
      have HO47 := hide (bind_go HOc.out ho)
      have q3p := hide (hF.loc q31.out (Nat.ne_of_gt Q1.out))
      clear q31
      have q3q := hide (hF.loc q32.out (Nat.ne_of_gt Q4.out))
      clear q32
      have H47 := hide hR
      have F47 := hide (F42.out.trans hF)
      cases hv
      clear he ho hR hF C47 H42 F42 HOc
      obtain ⟨q3r, q3s, q3t, q3u, q3v, q3w, q3x, q3y, q3z, q3A, q3B, y48⟩ := row11 q3p.out
      obtain ⟨q3C, q3D, q3E, q3F, q3G, q3H, q3I, q3J, q3K, q3L, q3M, y49⟩ := row11 q3q.out
      have x50 := qc.out
      have x51 := qd.out
      have q3N := hide (loc_other (p := ⟨w2.heap.size, 5, none⟩) (v := .int .i64 a47) q3p.out (qc.out))
      have q3O := hide (loc_set (i := 5) (v := .int .i64 a47) q3q.out)
      clear q3p q3q
      have H52 := hide (H47.out.setLoc Q4.out 5 (.int .i64 a47))
      have F52 := hide (F47.out.setLoc G4.out 5 (.int .i64 a47))
      clear H47 F47
      have C53 := hide (literal_any R L N s47 st _ H52.out _ rfl)
      go_wp2_with fail
      refine C53.out.mono ?_
      intro e w53 he
      rcases he.split with ⟨a53, s53, v53, ho, rfl, hv, hR, hF⟩ | ⟨c, m, ho, rfl, hF⟩
      rotate_left 1
      · exact on_panic rfl (.of_bad (bind_no HO47.out ho) (F52.out.trans hF))
      clear q3r q3s q3t q3u q3v q3w q3x q3y q3z q3A q3B y48 q3C q3D q3E q3F q3G q3H q3I q3J q3K q3L q3M y49 x50 x51
      have HO53 := hide (bind_go HO47.out ho)
      have q3P := hide (hF.loc q3N.out (Nat.ne_of_gt Q1.out))
      clear q3N
      have q3Q := hide (hF.loc q3O.out (Nat.ne_of_gt Q4.out))
      clear q3O
      have H53 := hide hR
      have F53 := hide (F52.out.trans hF)
      obtain ⟨av53, rfl, q3R⟩ := hv
      obtain ⟨q3S, q3T, rfl⟩ := rows_form q3R
      have q3U := hide (Strs.mono q3R fun g hg => Nat.le_trans F52.out.size hg)
      clear q3R
      clear he ho hR hF C53 H52 F52 HO47
      obtain ⟨q3V, q3W, q3X, q3Y, q3Z, q40, q41, q42, q43, q44, q45, y54⟩ := row11 q3P.out
      obtain ⟨q46, q47, q48, q49, q4a, q4b, q4c, q4d, q4e, q4f, q4g, y55⟩ := row11 q3Q.out
      have x56 := qc.out
      have x57 := qd.out
      have q4h := hide (Strs.keep q3U.out (Kp.setLoc (T := [9]) (i := 6) (v := .bool a53.neg) q3Q.out (by decide)) (by decide))
      clear q3U
      have q4i := hide (loc_other (p := ⟨w2.heap.size, 6, none⟩) (v := .bool a53.neg) q3P.out (qc.out))
      have q4j := hide (loc_set (i := 6) (v := .bool a53.neg) q3Q.out)
      clear q3P q3Q
      have H58 := hide (H53.out.setLoc Q4.out 6 (.bool a53.neg))
      have F58 := hide (F53.out.setLoc G4.out 6 (.bool a53.neg))
      clear H53 F53
      have q4k := hide (Strs.keep q4h.out (Kp.setLoc (T := [9]) (i := 7) (v := .string ⟨a53.pred.toArray⟩) q4j.out (by decide)) (by decide))
      clear q4h
      have q4l := hide (loc_other (p := ⟨w2.heap.size, 7, none⟩) (v := .string ⟨a53.pred.toArray⟩) q4i.out (qc.out))
      have q4m := hide (loc_set (i := 7) (v := .string ⟨a53.pred.toArray⟩) q4j.out)
      clear q4i q4j
      have H59 := hide (H58.out.setLoc Q4.out 7 (.string ⟨a53.pred.toArray⟩))
      have F59 := hide (F58.out.setLoc G4.out 7 (.string ⟨a53.pred.toArray⟩))
      clear H58 F58
      have q4n := hide (Strs.keep q4k.out (Kp.setLoc (T := [9]) (i := 8) (v := .slice q3S a53.args.length q3T) q4m.out (by decide)) (by decide))
      clear q4k
      have q4o := hide (loc_other (p := ⟨w2.heap.size, 8, none⟩) (v := .slice q3S a53.args.length q3T) q4l.out (qc.out))
      have q4p := hide (loc_set (i := 8) (v := .slice q3S a53.args.length q3T) q4m.out)
      clear q4l q4m
      have H60 := hide (H59.out.setLoc Q4.out 8 (.slice q3S a53.args.length q3T))
      have F60 := hide (F59.out.setLoc G4.out 8 (.slice q3S a53.args.length q3T))
      clear H59 F59
      have q4q := hide (Strs.keep q4n.out (Kp.setLoc (T := [9]) (i := 9) (v := .bool a53.hasValue) q4p.out (by decide)) (by decide))
      clear q4n
      have q4r := hide (loc_other (p := ⟨w2.heap.size, 9, none⟩) (v := .bool a53.hasValue) q4o.out (qc.out))
      have q4s := hide (loc_set (i := 9) (v := .bool a53.hasValue) q4p.out)
      clear q4o q4p
      have H61 := hide (H60.out.setLoc Q4.out 9 (.bool a53.hasValue))
      have F61 := hide (F60.out.setLoc G4.out 9 (.bool a53.hasValue))
      clear H60 F60
      have q4t := hide (Strs.keep q4q.out (Kp.setLoc (T := [9]) (i := 10) (v := .int .i64 a53.value) q4s.out (by decide)) (by decide))
      clear q4q
      have q4u := hide (loc_other (p := ⟨w2.heap.size, 10, none⟩) (v := .int .i64 a53.value) q4r.out (qc.out))
      have q4v := hide (loc_set (i := 10) (v := .int .i64 a53.value) q4s.out)
      clear q4r q4s
      have H62 := hide (H61.out.setLoc Q4.out 10 (.int .i64 a53.value))
      have F62 := hide (F61.out.setLoc G4.out 10 (.int .i64 a53.value))
      clear H61 F61
      go_wp2_with fail
      have hz := (And.intro q3V (And.intro q3W (And.intro q3X (And.intro q3Y (And.intro q3Z (And.intro q40 (And.intro q41 (And.intro q42 (And.intro q43 (And.intro q44 (And.intro q45 (And.intro y54 (And.intro q46 (And.intro q47 (And.intro q48 (And.intro q49 (And.intro q4a (And.intro q4b (And.intro q4c (And.intro q4d (And.intro q4e (And.intro q4f (And.intro q4g (And.intro y55 (And.intro x56 x57)))))))))))))))))))))))))
      simp [bodyPost, results, Tryz.results83, go_sem, hz]
      have q4w := hide (Strs.keep q4t.out (Kp.setLoc (T := [9]) (i := 0) (v := .string ⟨a2.toArray⟩) q4u.out (by decide)) (by decide))
      clear q4t
      have q4x := hide (loc_set (i := 0) (v := .string ⟨a2.toArray⟩) q4u.out)
      have q4y := hide (loc_other (p := ⟨w.heap.size, 0, none⟩) (v := .string ⟨a2.toArray⟩) q4v.out (qd.out))
      clear q4u q4v
      have H63 := hide (H62.out.setLoc Q1.out 0 (.string ⟨a2.toArray⟩))
      have F63 := hide (F62.out.setLoc G1.out 0 (.string ⟨a2.toArray⟩))
      clear H62 F62
      have q4z := hide (Strs.keep q4w.out (Kp.setLoc (T := [9]) (i := 1) (v := .string ⟨a10.toArray⟩) q4x.out (by decide)) (by decide))
      clear q4w
      have q4A := hide (loc_set (i := 1) (v := .string ⟨a10.toArray⟩) q4x.out)
      have q4B := hide (loc_other (p := ⟨w.heap.size, 1, none⟩) (v := .string ⟨a10.toArray⟩) q4y.out (qd.out))
      clear q4x q4y
      have H64 := hide (H63.out.setLoc Q1.out 1 (.string ⟨a10.toArray⟩))
      have F64 := hide (F63.out.setLoc G1.out 1 (.string ⟨a10.toArray⟩))
      clear H63 F63
      have q4C := hide (Strs.keep q4z.out (Kp.setLoc (T := [9]) (i := 2) (v := .int .i64 a21) q4A.out (by decide)) (by decide))
      clear q4z
      have q4D := hide (loc_set (i := 2) (v := .int .i64 a21) q4A.out)
      have q4E := hide (loc_other (p := ⟨w.heap.size, 2, none⟩) (v := .int .i64 a21) q4B.out (qd.out))
      clear q4A q4B
      have H65 := hide (H64.out.setLoc Q1.out 2 (.int .i64 a21))
      have F65 := hide (F64.out.setLoc G1.out 2 (.int .i64 a21))
      clear H64 F64
      have q4F := hide (Strs.keep q4C.out (Kp.setLoc (T := [9]) (i := 3) (v := .int .i64 0) q4D.out (by decide)) (by decide))
      clear q4C
      have q4G := hide (loc_set (i := 3) (v := .int .i64 0) q4D.out)
      have q4H := hide (loc_other (p := ⟨w.heap.size, 3, none⟩) (v := .int .i64 0) q4E.out (qd.out))
      clear q4D q4E
      have H66 := hide (H65.out.setLoc Q1.out 3 (.int .i64 0))
      have F66 := hide (F65.out.setLoc G1.out 3 (.int .i64 0))
      clear H65 F65
      have q4I := hide (Strs.keep q4F.out (Kp.setLoc (T := [9]) (i := 4) (v := .slice none 0 0) q4G.out (by decide)) (by decide))
      clear q4F
      have q4J := hide (loc_set (i := 4) (v := .slice none 0 0) q4G.out)
      have q4K := hide (loc_other (p := ⟨w.heap.size, 4, none⟩) (v := .slice none 0 0) q4H.out (qd.out))
      clear q4G q4H
      have H67 := hide (H66.out.setLoc Q1.out 4 (.slice none 0 0))
      have F67 := hide (F66.out.setLoc G1.out 4 (.slice none 0 0))
      clear H66 F66
      have q4L := hide (Strs.keep q4I.out (Kp.setLoc (T := [9]) (i := 5) (v := .int .i64 a47) q4J.out (by decide)) (by decide))
      clear q4I
      have q4M := hide (loc_set (i := 5) (v := .int .i64 a47) q4J.out)
      have q4N := hide (loc_other (p := ⟨w.heap.size, 5, none⟩) (v := .int .i64 a47) q4K.out (qd.out))
      clear q4J q4K
      have H68 := hide (H67.out.setLoc Q1.out 5 (.int .i64 a47))
      have F68 := hide (F67.out.setLoc G1.out 5 (.int .i64 a47))
      clear H67 F67
      have q4O := hide (Strs.keep q4L.out (Kp.setLoc (T := [9]) (i := 6) (v := .bool a53.neg) q4M.out (by decide)) (by decide))
      clear q4L
      have q4P := hide (loc_set (i := 6) (v := .bool a53.neg) q4M.out)
      have q4Q := hide (loc_other (p := ⟨w.heap.size, 6, none⟩) (v := .bool a53.neg) q4N.out (qd.out))
      clear q4M q4N
      have H69 := hide (H68.out.setLoc Q1.out 6 (.bool a53.neg))
      have F69 := hide (F68.out.setLoc G1.out 6 (.bool a53.neg))
      clear H68 F68
      have q4R := hide (Strs.keep q4O.out (Kp.setLoc (T := [9]) (i := 7) (v := .string ⟨a53.pred.toArray⟩) q4P.out (by decide)) (by decide))
      clear q4O
      have q4S := hide (loc_set (i := 7) (v := .string ⟨a53.pred.toArray⟩) q4P.out)
      have q4T := hide (loc_other (p := ⟨w.heap.size, 7, none⟩) (v := .string ⟨a53.pred.toArray⟩) q4Q.out (qd.out))
      clear q4P q4Q
      have H70 := hide (H69.out.setLoc Q1.out 7 (.string ⟨a53.pred.toArray⟩))
      have F70 := hide (F69.out.setLoc G1.out 7 (.string ⟨a53.pred.toArray⟩))
      clear H69 F69
      have q4U := hide (Strs.keep q4R.out (Kp.setLoc (T := [9]) (i := 8) (v := .slice q3S a53.args.length q3T) q4S.out (by decide)) (by decide))
      clear q4R
      have q4V := hide (loc_set (i := 8) (v := .slice q3S a53.args.length q3T) q4S.out)
      have q4W := hide (loc_other (p := ⟨w.heap.size, 8, none⟩) (v := .slice q3S a53.args.length q3T) q4T.out (qd.out))
      clear q4S q4T
      have H71 := hide (H70.out.setLoc Q1.out 8 (.slice q3S a53.args.length q3T))
      have F71 := hide (F70.out.setLoc G1.out 8 (.slice q3S a53.args.length q3T))
      clear H70 F70
      have q4X := hide (Strs.keep q4U.out (Kp.setLoc (T := [9]) (i := 9) (v := .bool a53.hasValue) q4V.out (by decide)) (by decide))
      clear q4U
      have q4Y := hide (loc_set (i := 9) (v := .bool a53.hasValue) q4V.out)
      have q4Z := hide (loc_other (p := ⟨w.heap.size, 9, none⟩) (v := .bool a53.hasValue) q4W.out (qd.out))
      clear q4V q4W
      have H72 := hide (H71.out.setLoc Q1.out 9 (.bool a53.hasValue))
      have F72 := hide (F71.out.setLoc G1.out 9 (.bool a53.hasValue))
      clear H71 F71
      have q50 := hide (Strs.keep q4X.out (Kp.setLoc (T := [9]) (i := 10) (v := .int .i64 a53.value) q4Y.out (by decide)) (by decide))
      clear q4X
      have q51 := hide (loc_set (i := 10) (v := .int .i64 a53.value) q4Y.out)
      have q52 := hide (loc_other (p := ⟨w.heap.size, 10, none⟩) (v := .int .i64 a53.value) q4Z.out (qd.out))
      clear q4Y q4Z
      have H73 := hide (H72.out.setLoc Q1.out 10 (.int .i64 a53.value))
      have F73 := hide (F72.out.setLoc G1.out 10 (.int .i64 a53.value))
      clear H72 F72
      exact .of_ok HO53.out (⟨_, _, rfl, Rows.nil _ _ _ _ _, q50.out⟩) H73.out F73.out
    | true =>
      have HOc := hide (bind_t HOb.out har)
      have hr' : arrowAt (kt L) s32.n = 0 := by simpa using har
      rw [hr'] at CO
      clear HOb har hr'
      go_wp2_with fail
      refine (CA0.out _ H32.out).mono ?_
      rintro _ w74 ⟨rfl, hb⟩
      clear q2h q2i q2j q2k q2l q2m q2n q2o q2p q2q q2r y33 q2s q2t q2u q2v q2w q2x q2y q2z q2A q2B q2C y34 x35 x36
      have q53 := hide ((hb.block _ (loc_lt q2f.out)).trans q2f.out)
      clear q2f
      have q54 := hide ((hb.block _ (loc_lt q2g.out)).trans q2g.out)
      clear q2g
      have H74 := hide (H32.out.below hb)
      have F74 := hide (F32.out.trans (Fq.of_below hb))
      clear hb H32 F32
      obtain ⟨q55, q56, q57, q58, q59, q5a, q5b, q5c, q5d, q5e, q5f, y75⟩ := row11 q53.out
      obtain ⟨q5g, q5h, q5i, q5j, q5k, q5l, q5m, q5n, q5o, q5p, q5q, y76⟩ := row11 q54.out
      have x77 := qc.out
      have x78 := qd.out
      go_wp2_with fail
      refine (CO.out _).mono ?_
      rintro _ w79 ⟨rfl, hb⟩
      clear q55 q56 q57 q58 q59 q5a q5b q5c q5d q5e q5f y75 q5g q5h q5i q5j q5k q5l q5m q5n q5o q5p q5q y76 x77 x78
      have q5r := hide ((hb.block _ (loc_lt q53.out)).trans q53.out)
      clear q53
      have q5s := hide ((hb.block _ (loc_lt q54.out)).trans q54.out)
      clear q54
      have H79 := hide (H74.out.below hb)
      have F79 := hide (F74.out.trans (Fq.of_below hb))
      clear hb H74 F74
      obtain ⟨q5t, q5u, q5v, q5w, q5x, q5y, q5z, q5A, q5B, q5C, q5D, y80⟩ := row11 q5r.out
      obtain ⟨q5E, q5F, q5G, q5H, q5I, q5J, q5K, q5L, q5M, q5N, q5O, y81⟩ := row11 q5s.out
      have x82 := qc.out
      have x83 := qd.out
      have C84 := hide (list_prem_prem R L N s32 st _ (premiseM FN (kt L)) (fun s w h => premise_any R L N s st w h _ rfl) (commaM (kt L)) (fun s w h => comma_any R L N s st w h _ rfl) (fun s a u => eats_premise FN _ s a u) (fun s u => hasMark_eats) 16 H79.out _ rfl)
      go_wp2_with fail
      refine C84.out.mono ?_
      intro e w84 he
      rcases he.split with ⟨a84, s84, v84, ho, rfl, hv, hR, hF⟩ | ⟨c, m, ho, rfl, hF⟩
      rotate_left 1
      · exact on_panic rfl (.of_bad (bind_no HOc.out ho) (F79.out.trans hF))
      clear q5t q5u q5v q5w q5x q5y q5z q5A q5B q5C q5D y80 q5E q5F q5G q5H q5I q5J q5K q5L q5M q5N q5O y81 x82 x83
      have HO84 := hide (bind_go HOc.out ho)
      have q5P := hide (hF.loc q5r.out (Nat.ne_of_gt Q1.out))
      clear q5r
      have q5Q := hide (hF.loc q5s.out (Nat.ne_of_gt Q4.out))
      clear q5s
      have H84 := hide hR
      have F84 := hide (F79.out.trans hF)
      obtain ⟨p84, r84, rfl⟩ := rows_form hv
      have V84 := hide (Prems.mono hv fun g hg => Nat.le_trans F79.out.size hg)
      clear hv
      clear he ho hR hF C84 H79 F79 HOc
      obtain ⟨q5R, q5S, q5T, q5U, q5V, q5W, q5X, q5Y, q5Z, q60, q61, y85⟩ := row11 q5P.out
      obtain ⟨q62, q63, q64, q65, q66, q67, q68, q69, q6a, q6b, q6c, y86⟩ := row11 q5Q.out
      have x87 := qc.out
      have x88 := qd.out
      have q6d := hide (Prems.keep V84.out (Kp.setLoc (T := inner) (i := 4) (v := .slice p84 a84.length r84) q5Q.out (by decide)))
      clear V84
      have q6e := hide (loc_other (p := ⟨w2.heap.size, 4, none⟩) (v := .slice p84 a84.length r84) q5P.out (qc.out))
      have q6f := hide (loc_set (i := 4) (v := .slice p84 a84.length r84) q5Q.out)
      clear q5P q5Q
      have H89 := hide (H84.out.setLoc Q4.out 4 (.slice p84 a84.length r84))
      have F89 := hide (F84.out.setLoc G4.out 4 (.slice p84 a84.length r84))
      clear H84 F84
      have C90 := hide (arrow_any R L N s84 st _ H89.out _ rfl)
      go_wp2_with fail
      refine C90.out.mono ?_
      intro e w90 he
      rcases he.split with ⟨a90, s90, v90, ho, rfl, hv, hR, hF⟩ | ⟨c, m, ho, rfl, hF⟩
      rotate_left 1
      · exact on_panic rfl (.of_bad (bind_no HO84.out ho) (F89.out.trans hF))
      clear q5R q5S q5T q5U q5V q5W q5X q5Y q5Z q60 q61 y85 q62 q63 q64 q65 q66 q67 q68 q69 q6a q6b q6c y86 x87 x88
      have HO90 := hide (bind_go HO84.out ho)
      have q6g := hide (hF.loc q6e.out (Nat.ne_of_gt Q1.out))
      clear q6e
      have q6h := hide (hF.loc q6f.out (Nat.ne_of_gt Q4.out))
      clear q6f
      have q6i := hide (Prems.keep q6d.out (Kp.of_fq (T := inner) hF H89.out (by decide)))
      clear q6d
      have H90 := hide hR
      have F90 := hide (F89.out.trans hF)
      cases hv
      clear he ho hR hF C90 H89 F89 HO84
      obtain ⟨q6j, q6k, q6l, q6m, q6n, q6o, q6p, q6q, q6r, q6s, q6t, y91⟩ := row11 q6g.out
      obtain ⟨q6u, q6v, q6w, q6x, q6y, q6z, q6A, q6B, q6C, q6D, q6E, y92⟩ := row11 q6h.out
      have x93 := qc.out
      have x94 := qd.out
      have q6F := hide (Prems.keep q6i.out (Kp.setLoc (T := inner) (i := 5) (v := .int .i64 a90) q6h.out (by decide)))
      clear q6i
      have q6G := hide (loc_other (p := ⟨w2.heap.size, 5, none⟩) (v := .int .i64 a90) q6g.out (qc.out))
      have q6H := hide (loc_set (i := 5) (v := .int .i64 a90) q6h.out)
      clear q6g q6h
      have H95 := hide (H90.out.setLoc Q4.out 5 (.int .i64 a90))
      have F95 := hide (F90.out.setLoc G4.out 5 (.int .i64 a90))
      clear H90 F90
      have C96 := hide (literal_any R L N s90 st _ H95.out _ rfl)
      go_wp2_with fail
      refine C96.out.mono ?_
      intro e w96 he
      rcases he.split with ⟨a96, s96, v96, ho, rfl, hv, hR, hF⟩ | ⟨c, m, ho, rfl, hF⟩
      rotate_left 1
      · exact on_panic rfl (.of_bad (bind_no HO90.out ho) (F95.out.trans hF))
      clear q6j q6k q6l q6m q6n q6o q6p q6q q6r q6s q6t y91 q6u q6v q6w q6x q6y q6z q6A q6B q6C q6D q6E y92 x93 x94
      have HO96 := hide (bind_go HO90.out ho)
      have q6I := hide (hF.loc q6G.out (Nat.ne_of_gt Q1.out))
      clear q6G
      have q6J := hide (hF.loc q6H.out (Nat.ne_of_gt Q4.out))
      clear q6H
      have q6K := hide (Prems.keep q6F.out (Kp.of_fq (T := inner) hF H95.out (by decide)))
      clear q6F
      have H96 := hide hR
      have F96 := hide (F95.out.trans hF)
      obtain ⟨av96, rfl, q6L⟩ := hv
      obtain ⟨q6M, q6N, rfl⟩ := rows_form q6L
      have q6O := hide (Strs.mono q6L fun g hg => Nat.le_trans F95.out.size hg)
      clear q6L
      clear he ho hR hF C96 H95 F95 HO90
      obtain ⟨q6P, q6Q, q6R, q6S, q6T, q6U, q6V, q6W, q6X, q6Y, q6Z, y97⟩ := row11 q6I.out
      obtain ⟨q70, q71, q72, q73, q74, q75, q76, q77, q78, q79, q7a, y98⟩ := row11 q6J.out
      have x99 := qc.out
      have x100 := qd.out
      have q7b := hide (Prems.keep q6K.out (Kp.setLoc (T := inner) (i := 6) (v := .bool a96.neg) q6J.out (by decide)))
      clear q6K
      have q7c := hide (Strs.keep q6O.out (Kp.setLoc (T := [9]) (i := 6) (v := .bool a96.neg) q6J.out (by decide)) (by decide))
      clear q6O
      have q7d := hide (loc_other (p := ⟨w2.heap.size, 6, none⟩) (v := .bool a96.neg) q6I.out (qc.out))
      have q7e := hide (loc_set (i := 6) (v := .bool a96.neg) q6J.out)
      clear q6I q6J
      have H101 := hide (H96.out.setLoc Q4.out 6 (.bool a96.neg))
      have F101 := hide (F96.out.setLoc G4.out 6 (.bool a96.neg))
      clear H96 F96
      have q7f := hide (Prems.keep q7b.out (Kp.setLoc (T := inner) (i := 7) (v := .string ⟨a96.pred.toArray⟩) q7e.out (by decide)))
      clear q7b
      have q7g := hide (Strs.keep q7c.out (Kp.setLoc (T := [9]) (i := 7) (v := .string ⟨a96.pred.toArray⟩) q7e.out (by decide)) (by decide))
      clear q7c
      have q7h := hide (loc_other (p := ⟨w2.heap.size, 7, none⟩) (v := .string ⟨a96.pred.toArray⟩) q7d.out (qc.out))
      have q7i := hide (loc_set (i := 7) (v := .string ⟨a96.pred.toArray⟩) q7e.out)
      clear q7d q7e
      have H102 := hide (H101.out.setLoc Q4.out 7 (.string ⟨a96.pred.toArray⟩))
      have F102 := hide (F101.out.setLoc G4.out 7 (.string ⟨a96.pred.toArray⟩))
      clear H101 F101
      have q7j := hide (Prems.keep q7f.out (Kp.setLoc (T := inner) (i := 8) (v := .slice q6M a96.args.length q6N) q7i.out (by decide)))
      clear q7f
      have q7k := hide (Strs.keep q7g.out (Kp.setLoc (T := [9]) (i := 8) (v := .slice q6M a96.args.length q6N) q7i.out (by decide)) (by decide))
      clear q7g
      have q7l := hide (loc_other (p := ⟨w2.heap.size, 8, none⟩) (v := .slice q6M a96.args.length q6N) q7h.out (qc.out))
      have q7m := hide (loc_set (i := 8) (v := .slice q6M a96.args.length q6N) q7i.out)
      clear q7h q7i
      have H103 := hide (H102.out.setLoc Q4.out 8 (.slice q6M a96.args.length q6N))
      have F103 := hide (F102.out.setLoc G4.out 8 (.slice q6M a96.args.length q6N))
      clear H102 F102
      have q7n := hide (Prems.keep q7j.out (Kp.setLoc (T := inner) (i := 9) (v := .bool a96.hasValue) q7m.out (by decide)))
      clear q7j
      have q7o := hide (Strs.keep q7k.out (Kp.setLoc (T := [9]) (i := 9) (v := .bool a96.hasValue) q7m.out (by decide)) (by decide))
      clear q7k
      have q7p := hide (loc_other (p := ⟨w2.heap.size, 9, none⟩) (v := .bool a96.hasValue) q7l.out (qc.out))
      have q7q := hide (loc_set (i := 9) (v := .bool a96.hasValue) q7m.out)
      clear q7l q7m
      have H104 := hide (H103.out.setLoc Q4.out 9 (.bool a96.hasValue))
      have F104 := hide (F103.out.setLoc G4.out 9 (.bool a96.hasValue))
      clear H103 F103
      have q7r := hide (Prems.keep q7n.out (Kp.setLoc (T := inner) (i := 10) (v := .int .i64 a96.value) q7q.out (by decide)))
      clear q7n
      have q7s := hide (Strs.keep q7o.out (Kp.setLoc (T := [9]) (i := 10) (v := .int .i64 a96.value) q7q.out (by decide)) (by decide))
      clear q7o
      have q7t := hide (loc_other (p := ⟨w2.heap.size, 10, none⟩) (v := .int .i64 a96.value) q7p.out (qc.out))
      have q7u := hide (loc_set (i := 10) (v := .int .i64 a96.value) q7q.out)
      clear q7p q7q
      have H105 := hide (H104.out.setLoc Q4.out 10 (.int .i64 a96.value))
      have F105 := hide (F104.out.setLoc G4.out 10 (.int .i64 a96.value))
      clear H104 F104
      go_wp2_with fail
      have hz := (And.intro q6P (And.intro q6Q (And.intro q6R (And.intro q6S (And.intro q6T (And.intro q6U (And.intro q6V (And.intro q6W (And.intro q6X (And.intro q6Y (And.intro q6Z (And.intro y97 (And.intro q70 (And.intro q71 (And.intro q72 (And.intro q73 (And.intro q74 (And.intro q75 (And.intro q76 (And.intro q77 (And.intro q78 (And.intro q79 (And.intro q7a (And.intro y98 (And.intro x99 x100)))))))))))))))))))))))))
      simp [bodyPost, results, Tryz.results83, go_sem, hz]
      have q7v := hide (Prems.keep q7r.out (Kp.setLoc (T := inner) (i := 0) (v := .string ⟨a2.toArray⟩) q7t.out (by decide)))
      clear q7r
      have q7w := hide (Strs.keep q7s.out (Kp.setLoc (T := [9]) (i := 0) (v := .string ⟨a2.toArray⟩) q7t.out (by decide)) (by decide))
      clear q7s
      have q7x := hide (loc_set (i := 0) (v := .string ⟨a2.toArray⟩) q7t.out)
      have q7y := hide (loc_other (p := ⟨w.heap.size, 0, none⟩) (v := .string ⟨a2.toArray⟩) q7u.out (qd.out))
      clear q7t q7u
      have H106 := hide (H105.out.setLoc Q1.out 0 (.string ⟨a2.toArray⟩))
      have F106 := hide (F105.out.setLoc G1.out 0 (.string ⟨a2.toArray⟩))
      clear H105 F105
      have q7z := hide (Prems.keep q7v.out (Kp.setLoc (T := inner) (i := 1) (v := .string ⟨a10.toArray⟩) q7x.out (by decide)))
      clear q7v
      have q7A := hide (Strs.keep q7w.out (Kp.setLoc (T := [9]) (i := 1) (v := .string ⟨a10.toArray⟩) q7x.out (by decide)) (by decide))
      clear q7w
      have q7B := hide (loc_set (i := 1) (v := .string ⟨a10.toArray⟩) q7x.out)
      have q7C := hide (loc_other (p := ⟨w.heap.size, 1, none⟩) (v := .string ⟨a10.toArray⟩) q7y.out (qd.out))
      clear q7x q7y
      have H107 := hide (H106.out.setLoc Q1.out 1 (.string ⟨a10.toArray⟩))
      have F107 := hide (F106.out.setLoc G1.out 1 (.string ⟨a10.toArray⟩))
      clear H106 F106
      have q7D := hide (Prems.keep q7z.out (Kp.setLoc (T := inner) (i := 2) (v := .int .i64 a21) q7B.out (by decide)))
      clear q7z
      have q7E := hide (Strs.keep q7A.out (Kp.setLoc (T := [9]) (i := 2) (v := .int .i64 a21) q7B.out (by decide)) (by decide))
      clear q7A
      have q7F := hide (loc_set (i := 2) (v := .int .i64 a21) q7B.out)
      have q7G := hide (loc_other (p := ⟨w.heap.size, 2, none⟩) (v := .int .i64 a21) q7C.out (qd.out))
      clear q7B q7C
      have H108 := hide (H107.out.setLoc Q1.out 2 (.int .i64 a21))
      have F108 := hide (F107.out.setLoc G1.out 2 (.int .i64 a21))
      clear H107 F107
      have q7H := hide (Prems.keep q7D.out (Kp.setLoc (T := inner) (i := 3) (v := .int .i64 0) q7F.out (by decide)))
      clear q7D
      have q7I := hide (Strs.keep q7E.out (Kp.setLoc (T := [9]) (i := 3) (v := .int .i64 0) q7F.out (by decide)) (by decide))
      clear q7E
      have q7J := hide (loc_set (i := 3) (v := .int .i64 0) q7F.out)
      have q7K := hide (loc_other (p := ⟨w.heap.size, 3, none⟩) (v := .int .i64 0) q7G.out (qd.out))
      clear q7F q7G
      have H109 := hide (H108.out.setLoc Q1.out 3 (.int .i64 0))
      have F109 := hide (F108.out.setLoc G1.out 3 (.int .i64 0))
      clear H108 F108
      have q7L := hide (Prems.keep q7H.out (Kp.setLoc (T := inner) (i := 4) (v := .slice p84 a84.length r84) q7J.out (by decide)))
      clear q7H
      have q7M := hide (Strs.keep q7I.out (Kp.setLoc (T := [9]) (i := 4) (v := .slice p84 a84.length r84) q7J.out (by decide)) (by decide))
      clear q7I
      have q7N := hide (loc_set (i := 4) (v := .slice p84 a84.length r84) q7J.out)
      have q7O := hide (loc_other (p := ⟨w.heap.size, 4, none⟩) (v := .slice p84 a84.length r84) q7K.out (qd.out))
      clear q7J q7K
      have H110 := hide (H109.out.setLoc Q1.out 4 (.slice p84 a84.length r84))
      have F110 := hide (F109.out.setLoc G1.out 4 (.slice p84 a84.length r84))
      clear H109 F109
      have q7P := hide (Prems.keep q7L.out (Kp.setLoc (T := inner) (i := 5) (v := .int .i64 a90) q7N.out (by decide)))
      clear q7L
      have q7Q := hide (Strs.keep q7M.out (Kp.setLoc (T := [9]) (i := 5) (v := .int .i64 a90) q7N.out (by decide)) (by decide))
      clear q7M
      have q7R := hide (loc_set (i := 5) (v := .int .i64 a90) q7N.out)
      have q7S := hide (loc_other (p := ⟨w.heap.size, 5, none⟩) (v := .int .i64 a90) q7O.out (qd.out))
      clear q7N q7O
      have H111 := hide (H110.out.setLoc Q1.out 5 (.int .i64 a90))
      have F111 := hide (F110.out.setLoc G1.out 5 (.int .i64 a90))
      clear H110 F110
      have q7T := hide (Prems.keep q7P.out (Kp.setLoc (T := inner) (i := 6) (v := .bool a96.neg) q7R.out (by decide)))
      clear q7P
      have q7U := hide (Strs.keep q7Q.out (Kp.setLoc (T := [9]) (i := 6) (v := .bool a96.neg) q7R.out (by decide)) (by decide))
      clear q7Q
      have q7V := hide (loc_set (i := 6) (v := .bool a96.neg) q7R.out)
      have q7W := hide (loc_other (p := ⟨w.heap.size, 6, none⟩) (v := .bool a96.neg) q7S.out (qd.out))
      clear q7R q7S
      have H112 := hide (H111.out.setLoc Q1.out 6 (.bool a96.neg))
      have F112 := hide (F111.out.setLoc G1.out 6 (.bool a96.neg))
      clear H111 F111
      have q7X := hide (Prems.keep q7T.out (Kp.setLoc (T := inner) (i := 7) (v := .string ⟨a96.pred.toArray⟩) q7V.out (by decide)))
      clear q7T
      have q7Y := hide (Strs.keep q7U.out (Kp.setLoc (T := [9]) (i := 7) (v := .string ⟨a96.pred.toArray⟩) q7V.out (by decide)) (by decide))
      clear q7U
      have q7Z := hide (loc_set (i := 7) (v := .string ⟨a96.pred.toArray⟩) q7V.out)
      have q80 := hide (loc_other (p := ⟨w.heap.size, 7, none⟩) (v := .string ⟨a96.pred.toArray⟩) q7W.out (qd.out))
      clear q7V q7W
      have H113 := hide (H112.out.setLoc Q1.out 7 (.string ⟨a96.pred.toArray⟩))
      have F113 := hide (F112.out.setLoc G1.out 7 (.string ⟨a96.pred.toArray⟩))
      clear H112 F112
      have q81 := hide (Prems.keep q7X.out (Kp.setLoc (T := inner) (i := 8) (v := .slice q6M a96.args.length q6N) q7Z.out (by decide)))
      clear q7X
      have q82 := hide (Strs.keep q7Y.out (Kp.setLoc (T := [9]) (i := 8) (v := .slice q6M a96.args.length q6N) q7Z.out (by decide)) (by decide))
      clear q7Y
      have q83 := hide (loc_set (i := 8) (v := .slice q6M a96.args.length q6N) q7Z.out)
      have q84 := hide (loc_other (p := ⟨w.heap.size, 8, none⟩) (v := .slice q6M a96.args.length q6N) q80.out (qd.out))
      clear q7Z q80
      have H114 := hide (H113.out.setLoc Q1.out 8 (.slice q6M a96.args.length q6N))
      have F114 := hide (F113.out.setLoc G1.out 8 (.slice q6M a96.args.length q6N))
      clear H113 F113
      have q85 := hide (Prems.keep q81.out (Kp.setLoc (T := inner) (i := 9) (v := .bool a96.hasValue) q83.out (by decide)))
      clear q81
      have q86 := hide (Strs.keep q82.out (Kp.setLoc (T := [9]) (i := 9) (v := .bool a96.hasValue) q83.out (by decide)) (by decide))
      clear q82
      have q87 := hide (loc_set (i := 9) (v := .bool a96.hasValue) q83.out)
      have q88 := hide (loc_other (p := ⟨w.heap.size, 9, none⟩) (v := .bool a96.hasValue) q84.out (qd.out))
      clear q83 q84
      have H115 := hide (H114.out.setLoc Q1.out 9 (.bool a96.hasValue))
      have F115 := hide (F114.out.setLoc G1.out 9 (.bool a96.hasValue))
      clear H114 F114
      have q89 := hide (Prems.keep q85.out (Kp.setLoc (T := inner) (i := 10) (v := .int .i64 a96.value) q87.out (by decide)))
      clear q85
      have q8a := hide (Strs.keep q86.out (Kp.setLoc (T := [9]) (i := 10) (v := .int .i64 a96.value) q87.out (by decide)) (by decide))
      clear q86
      have q8b := hide (loc_set (i := 10) (v := .int .i64 a96.value) q87.out)
      have q8c := hide (loc_other (p := ⟨w.heap.size, 10, none⟩) (v := .int .i64 a96.value) q88.out (qd.out))
      clear q87 q88
      have H116 := hide (H115.out.setLoc Q1.out 10 (.int .i64 a96.value))
      have F116 := hide (F115.out.setLoc G1.out 10 (.int .i64 a96.value))
      clear H115 F115
      exact .of_ok HO96.out (⟨_, _, rfl, q89.out, q8a.out⟩) H116.out F116.out
  | true =>
    have HO := hide (bind_t HO27.out rfl)
    clear HO27
    have C117 := hide (date_any R L N s27 st _ H27.out _ rfl)
    go_wp2_with fail
    refine C117.out.mono ?_
    intro e w117 he
    rcases he.split with ⟨a117, s117, v117, ho, rfl, hv, hR, hF⟩ | ⟨c, m, ho, rfl, hF⟩
    rotate_left 1
    · exact on_panic rfl (.of_bad (bind_no HO.out ho) (F27.out.trans hF))
    clear q1T q1U q1V q1W q1X q1Y q1Z q20 q21 q22 q23 y28 q24 q25 q26 q27 q28 q29 q2a q2b q2c q2d q2e y29 x30 x31
    have HO117 := hide (bind_go HO.out ho)
    have q8d := hide (hF.loc q1R.out (Nat.ne_of_gt Q1.out))
    clear q1R
    have q8e := hide (hF.loc q1S.out (Nat.ne_of_gt Q4.out))
    clear q1S
    have H117 := hide hR
    have F117 := hide (F27.out.trans hF)
    cases hv
    clear he ho hR hF C117 H27 F27 HO
    obtain ⟨q8f, q8g, q8h, q8i, q8j, q8k, q8l, q8m, q8n, q8o, q8p, y118⟩ := row11 q8d.out
    obtain ⟨q8q, q8r, q8s, q8t, q8u, q8v, q8w, q8x, q8y, q8z, q8A, y119⟩ := row11 q8e.out
    have x120 := qc.out
    have x121 := qd.out
    have q8B := hide (loc_other (p := ⟨w2.heap.size, 3, none⟩) (v := .int .i64 a117) q8d.out (qc.out))
    have q8C := hide (loc_set (i := 3) (v := .int .i64 a117) q8e.out)
    clear q8d q8e
    have H122 := hide (H117.out.setLoc Q4.out 3 (.int .i64 a117))
    have F122 := hide (F117.out.setLoc G4.out 3 (.int .i64 a117))
    clear H117 F117
    have C123 := hide (wantMark_any R L N s117 st _ [58] H122.out _ rfl)
    go_wp2_with fail
    refine C123.out.mono ?_
    intro e w123 he
    rcases he.split with ⟨a123, s123, v123, ho, rfl, hv, hR, hF⟩ | ⟨c, m, ho, rfl, hF⟩
    rotate_left 1
    · exact on_panic rfl (.of_bad (bind_no HO117.out ho) (F122.out.trans hF))
    clear q8f q8g q8h q8i q8j q8k q8l q8m q8n q8o q8p y118 q8q q8r q8s q8t q8u q8v q8w q8x q8y q8z q8A y119 x120 x121
    have HO123 := hide (bind_go HO117.out ho)
    have q8D := hide (hF.loc q8B.out (Nat.ne_of_gt Q1.out))
    clear q8B
    have q8E := hide (hF.loc q8C.out (Nat.ne_of_gt Q4.out))
    clear q8C
    have H123 := hide hR
    have F123 := hide (F122.out.trans hF)
    cases hv
    clear he ho hR hF C123 H122 F122 HO117
    obtain ⟨q8F, q8G, q8H, q8I, q8J, q8K, q8L, q8M, q8N, q8O, q8P, y124⟩ := row11 q8D.out
    obtain ⟨q8Q, q8R, q8S, q8T, q8U, q8V, q8W, q8X, q8Y, q8Z, q90, y125⟩ := row11 q8E.out
    have x126 := qc.out
    have x127 := qd.out
    have HOb := hide (ask_go (bind_two HO123.out))
    clear HO123
    have CO := hide (arrowOf_any L s123.n (placeAt L N s123.n))
    have CA0 := hide (fun w h => ahead_any R L N s123 st w h 0 (by omega))
    rw [show s123.n + 0 = s123.n from rfl] at CA0
    cases har : decide (arrowAt (kt L) s123.n = 0) with
    | false =>
      have HOc := hide (bind_pure (bind_f HOb.out har))
      have hr' : ¬ ((arrowAt (kt L) s123.n : Nat) : Int) = 0 := by simp at har; omega
      clear HOb har
      go_wp2_with fail
      refine (CA0.out _ H123.out).mono ?_
      rintro _ w128 ⟨rfl, hb⟩
      clear q8F q8G q8H q8I q8J q8K q8L q8M q8N q8O q8P y124 q8Q q8R q8S q8T q8U q8V q8W q8X q8Y q8Z q90 y125 x126 x127
      have q91 := hide ((hb.block _ (loc_lt q8D.out)).trans q8D.out)
      clear q8D
      have q92 := hide ((hb.block _ (loc_lt q8E.out)).trans q8E.out)
      clear q8E
      have H128 := hide (H123.out.below hb)
      have F128 := hide (F123.out.trans (Fq.of_below hb))
      clear hb H123 F123
      obtain ⟨q93, q94, q95, q96, q97, q98, q99, q9a, q9b, q9c, q9d, y129⟩ := row11 q91.out
      obtain ⟨q9e, q9f, q9g, q9h, q9i, q9j, q9k, q9l, q9m, q9n, q9o, y130⟩ := row11 q92.out
      have x131 := qc.out
      have x132 := qd.out
      go_wp2_with fail
      refine (CO.out _).mono ?_
      rintro _ w133 ⟨rfl, hb⟩
      clear q93 q94 q95 q96 q97 q98 q99 q9a q9b q9c q9d y129 q9e q9f q9g q9h q9i q9j q9k q9l q9m q9n q9o y130 x131 x132
      have q9p := hide ((hb.block _ (loc_lt q91.out)).trans q91.out)
      clear q91
      have q9q := hide ((hb.block _ (loc_lt q92.out)).trans q92.out)
      clear q92
      have H133 := hide (H128.out.below hb)
      have F133 := hide (F128.out.trans (Fq.of_below hb))
      clear hb H128 F128
      obtain ⟨q9r, q9s, q9t, q9u, q9v, q9w, q9x, q9y, q9z, q9A, q9B, y134⟩ := row11 q9p.out
      obtain ⟨q9C, q9D, q9E, q9F, q9G, q9H, q9I, q9J, q9K, q9L, q9M, y135⟩ := row11 q9q.out
      have x136 := qc.out
      have x137 := qd.out
      have C138 := hide (arrow_any R L N s123 st _ H133.out _ rfl)
      go_wp2_with fail
      refine C138.out.mono ?_
      intro e w138 he
      rcases he.split with ⟨a138, s138, v138, ho, rfl, hv, hR, hF⟩ | ⟨c, m, ho, rfl, hF⟩
      rotate_left 1
      · exact on_panic rfl (.of_bad (bind_no HOc.out ho) (F133.out.trans hF))
      clear q9r q9s q9t q9u q9v q9w q9x q9y q9z q9A q9B y134 q9C q9D q9E q9F q9G q9H q9I q9J q9K q9L q9M y135 x136 x137
      have HO138 := hide (bind_go HOc.out ho)
      have q9N := hide (hF.loc q9p.out (Nat.ne_of_gt Q1.out))
      clear q9p
      have q9O := hide (hF.loc q9q.out (Nat.ne_of_gt Q4.out))
      clear q9q
      have H138 := hide hR
      have F138 := hide (F133.out.trans hF)
      cases hv
      clear he ho hR hF C138 H133 F133 HOc
      obtain ⟨q9P, q9Q, q9R, q9S, q9T, q9U, q9V, q9W, q9X, q9Y, q9Z, y139⟩ := row11 q9N.out
      obtain ⟨qa0, qa1, qa2, qa3, qa4, qa5, qa6, qa7, qa8, qa9, qaa, y140⟩ := row11 q9O.out
      have x141 := qc.out
      have x142 := qd.out
      have qab := hide (loc_other (p := ⟨w2.heap.size, 5, none⟩) (v := .int .i64 a138) q9N.out (qc.out))
      have qac := hide (loc_set (i := 5) (v := .int .i64 a138) q9O.out)
      clear q9N q9O
      have H143 := hide (H138.out.setLoc Q4.out 5 (.int .i64 a138))
      have F143 := hide (F138.out.setLoc G4.out 5 (.int .i64 a138))
      clear H138 F138
      have C144 := hide (literal_any R L N s138 st _ H143.out _ rfl)
      go_wp2_with fail
      refine C144.out.mono ?_
      intro e w144 he
      rcases he.split with ⟨a144, s144, v144, ho, rfl, hv, hR, hF⟩ | ⟨c, m, ho, rfl, hF⟩
      rotate_left 1
      · exact on_panic rfl (.of_bad (bind_no HO138.out ho) (F143.out.trans hF))
      clear q9P q9Q q9R q9S q9T q9U q9V q9W q9X q9Y q9Z y139 qa0 qa1 qa2 qa3 qa4 qa5 qa6 qa7 qa8 qa9 qaa y140 x141 x142
      have HO144 := hide (bind_go HO138.out ho)
      have qad := hide (hF.loc qab.out (Nat.ne_of_gt Q1.out))
      clear qab
      have qae := hide (hF.loc qac.out (Nat.ne_of_gt Q4.out))
      clear qac
      have H144 := hide hR
      have F144 := hide (F143.out.trans hF)
      obtain ⟨av144, rfl, qaf⟩ := hv
      obtain ⟨qag, qah, rfl⟩ := rows_form qaf
      have qai := hide (Strs.mono qaf fun g hg => Nat.le_trans F143.out.size hg)
      clear qaf
      clear he ho hR hF C144 H143 F143 HO138
      obtain ⟨qaj, qak, qal, qam, qan, qao, qap, qaq, qar, qas, qat, y145⟩ := row11 qad.out
      obtain ⟨qau, qav, qaw, qax, qay, qaz, qaA, qaB, qaC, qaD, qaE, y146⟩ := row11 qae.out
      have x147 := qc.out
      have x148 := qd.out
      have qaF := hide (Strs.keep qai.out (Kp.setLoc (T := [9]) (i := 6) (v := .bool a144.neg) qae.out (by decide)) (by decide))
      clear qai
      have qaG := hide (loc_other (p := ⟨w2.heap.size, 6, none⟩) (v := .bool a144.neg) qad.out (qc.out))
      have qaH := hide (loc_set (i := 6) (v := .bool a144.neg) qae.out)
      clear qad qae
      have H149 := hide (H144.out.setLoc Q4.out 6 (.bool a144.neg))
      have F149 := hide (F144.out.setLoc G4.out 6 (.bool a144.neg))
      clear H144 F144
      have qaI := hide (Strs.keep qaF.out (Kp.setLoc (T := [9]) (i := 7) (v := .string ⟨a144.pred.toArray⟩) qaH.out (by decide)) (by decide))
      clear qaF
      have qaJ := hide (loc_other (p := ⟨w2.heap.size, 7, none⟩) (v := .string ⟨a144.pred.toArray⟩) qaG.out (qc.out))
      have qaK := hide (loc_set (i := 7) (v := .string ⟨a144.pred.toArray⟩) qaH.out)
      clear qaG qaH
      have H150 := hide (H149.out.setLoc Q4.out 7 (.string ⟨a144.pred.toArray⟩))
      have F150 := hide (F149.out.setLoc G4.out 7 (.string ⟨a144.pred.toArray⟩))
      clear H149 F149
      have qaL := hide (Strs.keep qaI.out (Kp.setLoc (T := [9]) (i := 8) (v := .slice qag a144.args.length qah) qaK.out (by decide)) (by decide))
      clear qaI
      have qaM := hide (loc_other (p := ⟨w2.heap.size, 8, none⟩) (v := .slice qag a144.args.length qah) qaJ.out (qc.out))
      have qaN := hide (loc_set (i := 8) (v := .slice qag a144.args.length qah) qaK.out)
      clear qaJ qaK
      have H151 := hide (H150.out.setLoc Q4.out 8 (.slice qag a144.args.length qah))
      have F151 := hide (F150.out.setLoc G4.out 8 (.slice qag a144.args.length qah))
      clear H150 F150
      have qaO := hide (Strs.keep qaL.out (Kp.setLoc (T := [9]) (i := 9) (v := .bool a144.hasValue) qaN.out (by decide)) (by decide))
      clear qaL
      have qaP := hide (loc_other (p := ⟨w2.heap.size, 9, none⟩) (v := .bool a144.hasValue) qaM.out (qc.out))
      have qaQ := hide (loc_set (i := 9) (v := .bool a144.hasValue) qaN.out)
      clear qaM qaN
      have H152 := hide (H151.out.setLoc Q4.out 9 (.bool a144.hasValue))
      have F152 := hide (F151.out.setLoc G4.out 9 (.bool a144.hasValue))
      clear H151 F151
      have qaR := hide (Strs.keep qaO.out (Kp.setLoc (T := [9]) (i := 10) (v := .int .i64 a144.value) qaQ.out (by decide)) (by decide))
      clear qaO
      have qaS := hide (loc_other (p := ⟨w2.heap.size, 10, none⟩) (v := .int .i64 a144.value) qaP.out (qc.out))
      have qaT := hide (loc_set (i := 10) (v := .int .i64 a144.value) qaQ.out)
      clear qaP qaQ
      have H153 := hide (H152.out.setLoc Q4.out 10 (.int .i64 a144.value))
      have F153 := hide (F152.out.setLoc G4.out 10 (.int .i64 a144.value))
      clear H152 F152
      go_wp2_with fail
      have hz := (And.intro qaj (And.intro qak (And.intro qal (And.intro qam (And.intro qan (And.intro qao (And.intro qap (And.intro qaq (And.intro qar (And.intro qas (And.intro qat (And.intro y145 (And.intro qau (And.intro qav (And.intro qaw (And.intro qax (And.intro qay (And.intro qaz (And.intro qaA (And.intro qaB (And.intro qaC (And.intro qaD (And.intro qaE (And.intro y146 (And.intro x147 x148)))))))))))))))))))))))))
      simp [bodyPost, results, Tryz.results83, go_sem, hz]
      have qaU := hide (Strs.keep qaR.out (Kp.setLoc (T := [9]) (i := 0) (v := .string ⟨a2.toArray⟩) qaS.out (by decide)) (by decide))
      clear qaR
      have qaV := hide (loc_set (i := 0) (v := .string ⟨a2.toArray⟩) qaS.out)
      have qaW := hide (loc_other (p := ⟨w.heap.size, 0, none⟩) (v := .string ⟨a2.toArray⟩) qaT.out (qd.out))
      clear qaS qaT
      have H154 := hide (H153.out.setLoc Q1.out 0 (.string ⟨a2.toArray⟩))
      have F154 := hide (F153.out.setLoc G1.out 0 (.string ⟨a2.toArray⟩))
      clear H153 F153
      have qaX := hide (Strs.keep qaU.out (Kp.setLoc (T := [9]) (i := 1) (v := .string ⟨a10.toArray⟩) qaV.out (by decide)) (by decide))
      clear qaU
      have qaY := hide (loc_set (i := 1) (v := .string ⟨a10.toArray⟩) qaV.out)
      have qaZ := hide (loc_other (p := ⟨w.heap.size, 1, none⟩) (v := .string ⟨a10.toArray⟩) qaW.out (qd.out))
      clear qaV qaW
      have H155 := hide (H154.out.setLoc Q1.out 1 (.string ⟨a10.toArray⟩))
      have F155 := hide (F154.out.setLoc G1.out 1 (.string ⟨a10.toArray⟩))
      clear H154 F154
      have qb0 := hide (Strs.keep qaX.out (Kp.setLoc (T := [9]) (i := 2) (v := .int .i64 a21) qaY.out (by decide)) (by decide))
      clear qaX
      have qb1 := hide (loc_set (i := 2) (v := .int .i64 a21) qaY.out)
      have qb2 := hide (loc_other (p := ⟨w.heap.size, 2, none⟩) (v := .int .i64 a21) qaZ.out (qd.out))
      clear qaY qaZ
      have H156 := hide (H155.out.setLoc Q1.out 2 (.int .i64 a21))
      have F156 := hide (F155.out.setLoc G1.out 2 (.int .i64 a21))
      clear H155 F155
      have qb3 := hide (Strs.keep qb0.out (Kp.setLoc (T := [9]) (i := 3) (v := .int .i64 a117) qb1.out (by decide)) (by decide))
      clear qb0
      have qb4 := hide (loc_set (i := 3) (v := .int .i64 a117) qb1.out)
      have qb5 := hide (loc_other (p := ⟨w.heap.size, 3, none⟩) (v := .int .i64 a117) qb2.out (qd.out))
      clear qb1 qb2
      have H157 := hide (H156.out.setLoc Q1.out 3 (.int .i64 a117))
      have F157 := hide (F156.out.setLoc G1.out 3 (.int .i64 a117))
      clear H156 F156
      have qb6 := hide (Strs.keep qb3.out (Kp.setLoc (T := [9]) (i := 4) (v := .slice none 0 0) qb4.out (by decide)) (by decide))
      clear qb3
      have qb7 := hide (loc_set (i := 4) (v := .slice none 0 0) qb4.out)
      have qb8 := hide (loc_other (p := ⟨w.heap.size, 4, none⟩) (v := .slice none 0 0) qb5.out (qd.out))
      clear qb4 qb5
      have H158 := hide (H157.out.setLoc Q1.out 4 (.slice none 0 0))
      have F158 := hide (F157.out.setLoc G1.out 4 (.slice none 0 0))
      clear H157 F157
      have qb9 := hide (Strs.keep qb6.out (Kp.setLoc (T := [9]) (i := 5) (v := .int .i64 a138) qb7.out (by decide)) (by decide))
      clear qb6
      have qba := hide (loc_set (i := 5) (v := .int .i64 a138) qb7.out)
      have qbb := hide (loc_other (p := ⟨w.heap.size, 5, none⟩) (v := .int .i64 a138) qb8.out (qd.out))
      clear qb7 qb8
      have H159 := hide (H158.out.setLoc Q1.out 5 (.int .i64 a138))
      have F159 := hide (F158.out.setLoc G1.out 5 (.int .i64 a138))
      clear H158 F158
      have qbc := hide (Strs.keep qb9.out (Kp.setLoc (T := [9]) (i := 6) (v := .bool a144.neg) qba.out (by decide)) (by decide))
      clear qb9
      have qbd := hide (loc_set (i := 6) (v := .bool a144.neg) qba.out)
      have qbe := hide (loc_other (p := ⟨w.heap.size, 6, none⟩) (v := .bool a144.neg) qbb.out (qd.out))
      clear qba qbb
      have H160 := hide (H159.out.setLoc Q1.out 6 (.bool a144.neg))
      have F160 := hide (F159.out.setLoc G1.out 6 (.bool a144.neg))
      clear H159 F159
      have qbf := hide (Strs.keep qbc.out (Kp.setLoc (T := [9]) (i := 7) (v := .string ⟨a144.pred.toArray⟩) qbd.out (by decide)) (by decide))
      clear qbc
      have qbg := hide (loc_set (i := 7) (v := .string ⟨a144.pred.toArray⟩) qbd.out)
      have qbh := hide (loc_other (p := ⟨w.heap.size, 7, none⟩) (v := .string ⟨a144.pred.toArray⟩) qbe.out (qd.out))
      clear qbd qbe
      have H161 := hide (H160.out.setLoc Q1.out 7 (.string ⟨a144.pred.toArray⟩))
      have F161 := hide (F160.out.setLoc G1.out 7 (.string ⟨a144.pred.toArray⟩))
      clear H160 F160
      have qbi := hide (Strs.keep qbf.out (Kp.setLoc (T := [9]) (i := 8) (v := .slice qag a144.args.length qah) qbg.out (by decide)) (by decide))
      clear qbf
      have qbj := hide (loc_set (i := 8) (v := .slice qag a144.args.length qah) qbg.out)
      have qbk := hide (loc_other (p := ⟨w.heap.size, 8, none⟩) (v := .slice qag a144.args.length qah) qbh.out (qd.out))
      clear qbg qbh
      have H162 := hide (H161.out.setLoc Q1.out 8 (.slice qag a144.args.length qah))
      have F162 := hide (F161.out.setLoc G1.out 8 (.slice qag a144.args.length qah))
      clear H161 F161
      have qbl := hide (Strs.keep qbi.out (Kp.setLoc (T := [9]) (i := 9) (v := .bool a144.hasValue) qbj.out (by decide)) (by decide))
      clear qbi
      have qbm := hide (loc_set (i := 9) (v := .bool a144.hasValue) qbj.out)
      have qbn := hide (loc_other (p := ⟨w.heap.size, 9, none⟩) (v := .bool a144.hasValue) qbk.out (qd.out))
      clear qbj qbk
      have H163 := hide (H162.out.setLoc Q1.out 9 (.bool a144.hasValue))
      have F163 := hide (F162.out.setLoc G1.out 9 (.bool a144.hasValue))
      clear H162 F162
      have qbo := hide (Strs.keep qbl.out (Kp.setLoc (T := [9]) (i := 10) (v := .int .i64 a144.value) qbm.out (by decide)) (by decide))
      clear qbl
      have qbp := hide (loc_set (i := 10) (v := .int .i64 a144.value) qbm.out)
      have qbq := hide (loc_other (p := ⟨w.heap.size, 10, none⟩) (v := .int .i64 a144.value) qbn.out (qd.out))
      clear qbm qbn
      have H164 := hide (H163.out.setLoc Q1.out 10 (.int .i64 a144.value))
      have F164 := hide (F163.out.setLoc G1.out 10 (.int .i64 a144.value))
      clear H163 F163
      exact .of_ok HO144.out (⟨_, _, rfl, Rows.nil _ _ _ _ _, qbo.out⟩) H164.out F164.out
    | true =>
      have HOc := hide (bind_t HOb.out har)
      have hr' : arrowAt (kt L) s123.n = 0 := by simpa using har
      rw [hr'] at CO
      clear HOb har hr'
      go_wp2_with fail
      refine (CA0.out _ H123.out).mono ?_
      rintro _ w165 ⟨rfl, hb⟩
      clear q8F q8G q8H q8I q8J q8K q8L q8M q8N q8O q8P y124 q8Q q8R q8S q8T q8U q8V q8W q8X q8Y q8Z q90 y125 x126 x127
      have qbr := hide ((hb.block _ (loc_lt q8D.out)).trans q8D.out)
      clear q8D
      have qbs := hide ((hb.block _ (loc_lt q8E.out)).trans q8E.out)
      clear q8E
      have H165 := hide (H123.out.below hb)
      have F165 := hide (F123.out.trans (Fq.of_below hb))
      clear hb H123 F123
      obtain ⟨qbt, qbu, qbv, qbw, qbx, qby, qbz, qbA, qbB, qbC, qbD, y166⟩ := row11 qbr.out
      obtain ⟨qbE, qbF, qbG, qbH, qbI, qbJ, qbK, qbL, qbM, qbN, qbO, y167⟩ := row11 qbs.out
      have x168 := qc.out
      have x169 := qd.out
      go_wp2_with fail
      refine (CO.out _).mono ?_
      rintro _ w170 ⟨rfl, hb⟩
      clear qbt qbu qbv qbw qbx qby qbz qbA qbB qbC qbD y166 qbE qbF qbG qbH qbI qbJ qbK qbL qbM qbN qbO y167 x168 x169
      have qbP := hide ((hb.block _ (loc_lt qbr.out)).trans qbr.out)
      clear qbr
      have qbQ := hide ((hb.block _ (loc_lt qbs.out)).trans qbs.out)
      clear qbs
      have H170 := hide (H165.out.below hb)
      have F170 := hide (F165.out.trans (Fq.of_below hb))
      clear hb H165 F165
      obtain ⟨qbR, qbS, qbT, qbU, qbV, qbW, qbX, qbY, qbZ, qc0, qc1, y171⟩ := row11 qbP.out
      obtain ⟨qc2, qc3, qc4, qc5, qc6, qc7, qc8, qc9, qca, qcb, qcc, y172⟩ := row11 qbQ.out
      have x173 := qc.out
      have x174 := qd.out
      have C175 := hide (list_prem_prem R L N s123 st _ (premiseM FN (kt L)) (fun s w h => premise_any R L N s st w h _ rfl) (commaM (kt L)) (fun s w h => comma_any R L N s st w h _ rfl) (fun s a u => eats_premise FN _ s a u) (fun s u => hasMark_eats) 16 H170.out _ rfl)
      go_wp2_with fail
      refine C175.out.mono ?_
      intro e w175 he
      rcases he.split with ⟨a175, s175, v175, ho, rfl, hv, hR, hF⟩ | ⟨c, m, ho, rfl, hF⟩
      rotate_left 1
      · exact on_panic rfl (.of_bad (bind_no HOc.out ho) (F170.out.trans hF))
      clear qbR qbS qbT qbU qbV qbW qbX qbY qbZ qc0 qc1 y171 qc2 qc3 qc4 qc5 qc6 qc7 qc8 qc9 qca qcb qcc y172 x173 x174
      have HO175 := hide (bind_go HOc.out ho)
      have qcd := hide (hF.loc qbP.out (Nat.ne_of_gt Q1.out))
      clear qbP
      have qce := hide (hF.loc qbQ.out (Nat.ne_of_gt Q4.out))
      clear qbQ
      have H175 := hide hR
      have F175 := hide (F170.out.trans hF)
      obtain ⟨p175, r175, rfl⟩ := rows_form hv
      have V175 := hide (Prems.mono hv fun g hg => Nat.le_trans F170.out.size hg)
      clear hv
      clear he ho hR hF C175 H170 F170 HOc
      obtain ⟨qcf, qcg, qch, qci, qcj, qck, qcl, qcm, qcn, qco, qcp, y176⟩ := row11 qcd.out
      obtain ⟨qcq, qcr, qcs, qct, qcu, qcv, qcw, qcx, qcy, qcz, qcA, y177⟩ := row11 qce.out
      have x178 := qc.out
      have x179 := qd.out
      have qcB := hide (Prems.keep V175.out (Kp.setLoc (T := inner) (i := 4) (v := .slice p175 a175.length r175) qce.out (by decide)))
      clear V175
      have qcC := hide (loc_other (p := ⟨w2.heap.size, 4, none⟩) (v := .slice p175 a175.length r175) qcd.out (qc.out))
      have qcD := hide (loc_set (i := 4) (v := .slice p175 a175.length r175) qce.out)
      clear qcd qce
      have H180 := hide (H175.out.setLoc Q4.out 4 (.slice p175 a175.length r175))
      have F180 := hide (F175.out.setLoc G4.out 4 (.slice p175 a175.length r175))
      clear H175 F175
      have C181 := hide (arrow_any R L N s175 st _ H180.out _ rfl)
      go_wp2_with fail
      refine C181.out.mono ?_
      intro e w181 he
      rcases he.split with ⟨a181, s181, v181, ho, rfl, hv, hR, hF⟩ | ⟨c, m, ho, rfl, hF⟩
      rotate_left 1
      · exact on_panic rfl (.of_bad (bind_no HO175.out ho) (F180.out.trans hF))
      clear qcf qcg qch qci qcj qck qcl qcm qcn qco qcp y176 qcq qcr qcs qct qcu qcv qcw qcx qcy qcz qcA y177 x178 x179
      have HO181 := hide (bind_go HO175.out ho)
      have qcE := hide (hF.loc qcC.out (Nat.ne_of_gt Q1.out))
      clear qcC
      have qcF := hide (hF.loc qcD.out (Nat.ne_of_gt Q4.out))
      clear qcD
      have qcG := hide (Prems.keep qcB.out (Kp.of_fq (T := inner) hF H180.out (by decide)))
      clear qcB
      have H181 := hide hR
      have F181 := hide (F180.out.trans hF)
      cases hv
      clear he ho hR hF C181 H180 F180 HO175
      obtain ⟨qcH, qcI, qcJ, qcK, qcL, qcM, qcN, qcO, qcP, qcQ, qcR, y182⟩ := row11 qcE.out
      obtain ⟨qcS, qcT, qcU, qcV, qcW, qcX, qcY, qcZ, qd0, qd1, qd2, y183⟩ := row11 qcF.out
      have x184 := qc.out
      have x185 := qd.out
      have qd3 := hide (Prems.keep qcG.out (Kp.setLoc (T := inner) (i := 5) (v := .int .i64 a181) qcF.out (by decide)))
      clear qcG
      have qd4 := hide (loc_other (p := ⟨w2.heap.size, 5, none⟩) (v := .int .i64 a181) qcE.out (qc.out))
      have qd5 := hide (loc_set (i := 5) (v := .int .i64 a181) qcF.out)
      clear qcE qcF
      have H186 := hide (H181.out.setLoc Q4.out 5 (.int .i64 a181))
      have F186 := hide (F181.out.setLoc G4.out 5 (.int .i64 a181))
      clear H181 F181
      have C187 := hide (literal_any R L N s181 st _ H186.out _ rfl)
      go_wp2_with fail
      refine C187.out.mono ?_
      intro e w187 he
      rcases he.split with ⟨a187, s187, v187, ho, rfl, hv, hR, hF⟩ | ⟨c, m, ho, rfl, hF⟩
      rotate_left 1
      · exact on_panic rfl (.of_bad (bind_no HO181.out ho) (F186.out.trans hF))
      clear qcH qcI qcJ qcK qcL qcM qcN qcO qcP qcQ qcR y182 qcS qcT qcU qcV qcW qcX qcY qcZ qd0 qd1 qd2 y183 x184 x185
      have HO187 := hide (bind_go HO181.out ho)
      have qd6 := hide (hF.loc qd4.out (Nat.ne_of_gt Q1.out))
      clear qd4
      have qd7 := hide (hF.loc qd5.out (Nat.ne_of_gt Q4.out))
      clear qd5
      have qd8 := hide (Prems.keep qd3.out (Kp.of_fq (T := inner) hF H186.out (by decide)))
      clear qd3
      have H187 := hide hR
      have F187 := hide (F186.out.trans hF)
      obtain ⟨av187, rfl, qd9⟩ := hv
      obtain ⟨qda, qdb, rfl⟩ := rows_form qd9
      have qdc := hide (Strs.mono qd9 fun g hg => Nat.le_trans F186.out.size hg)
      clear qd9
      clear he ho hR hF C187 H186 F186 HO181
      obtain ⟨qdd, qde, qdf, qdg, qdh, qdi, qdj, qdk, qdl, qdm, qdn, y188⟩ := row11 qd6.out
      obtain ⟨qdo, qdp, qdq, qdr, qds, qdt, qdu, qdv, qdw, qdx, qdy, y189⟩ := row11 qd7.out
      have x190 := qc.out
      have x191 := qd.out
      have qdz := hide (Prems.keep qd8.out (Kp.setLoc (T := inner) (i := 6) (v := .bool a187.neg) qd7.out (by decide)))
      clear qd8
      have qdA := hide (Strs.keep qdc.out (Kp.setLoc (T := [9]) (i := 6) (v := .bool a187.neg) qd7.out (by decide)) (by decide))
      clear qdc
      have qdB := hide (loc_other (p := ⟨w2.heap.size, 6, none⟩) (v := .bool a187.neg) qd6.out (qc.out))
      have qdC := hide (loc_set (i := 6) (v := .bool a187.neg) qd7.out)
      clear qd6 qd7
      have H192 := hide (H187.out.setLoc Q4.out 6 (.bool a187.neg))
      have F192 := hide (F187.out.setLoc G4.out 6 (.bool a187.neg))
      clear H187 F187
      have qdD := hide (Prems.keep qdz.out (Kp.setLoc (T := inner) (i := 7) (v := .string ⟨a187.pred.toArray⟩) qdC.out (by decide)))
      clear qdz
      have qdE := hide (Strs.keep qdA.out (Kp.setLoc (T := [9]) (i := 7) (v := .string ⟨a187.pred.toArray⟩) qdC.out (by decide)) (by decide))
      clear qdA
      have qdF := hide (loc_other (p := ⟨w2.heap.size, 7, none⟩) (v := .string ⟨a187.pred.toArray⟩) qdB.out (qc.out))
      have qdG := hide (loc_set (i := 7) (v := .string ⟨a187.pred.toArray⟩) qdC.out)
      clear qdB qdC
      have H193 := hide (H192.out.setLoc Q4.out 7 (.string ⟨a187.pred.toArray⟩))
      have F193 := hide (F192.out.setLoc G4.out 7 (.string ⟨a187.pred.toArray⟩))
      clear H192 F192
      have qdH := hide (Prems.keep qdD.out (Kp.setLoc (T := inner) (i := 8) (v := .slice qda a187.args.length qdb) qdG.out (by decide)))
      clear qdD
      have qdI := hide (Strs.keep qdE.out (Kp.setLoc (T := [9]) (i := 8) (v := .slice qda a187.args.length qdb) qdG.out (by decide)) (by decide))
      clear qdE
      have qdJ := hide (loc_other (p := ⟨w2.heap.size, 8, none⟩) (v := .slice qda a187.args.length qdb) qdF.out (qc.out))
      have qdK := hide (loc_set (i := 8) (v := .slice qda a187.args.length qdb) qdG.out)
      clear qdF qdG
      have H194 := hide (H193.out.setLoc Q4.out 8 (.slice qda a187.args.length qdb))
      have F194 := hide (F193.out.setLoc G4.out 8 (.slice qda a187.args.length qdb))
      clear H193 F193
      have qdL := hide (Prems.keep qdH.out (Kp.setLoc (T := inner) (i := 9) (v := .bool a187.hasValue) qdK.out (by decide)))
      clear qdH
      have qdM := hide (Strs.keep qdI.out (Kp.setLoc (T := [9]) (i := 9) (v := .bool a187.hasValue) qdK.out (by decide)) (by decide))
      clear qdI
      have qdN := hide (loc_other (p := ⟨w2.heap.size, 9, none⟩) (v := .bool a187.hasValue) qdJ.out (qc.out))
      have qdO := hide (loc_set (i := 9) (v := .bool a187.hasValue) qdK.out)
      clear qdJ qdK
      have H195 := hide (H194.out.setLoc Q4.out 9 (.bool a187.hasValue))
      have F195 := hide (F194.out.setLoc G4.out 9 (.bool a187.hasValue))
      clear H194 F194
      have qdP := hide (Prems.keep qdL.out (Kp.setLoc (T := inner) (i := 10) (v := .int .i64 a187.value) qdO.out (by decide)))
      clear qdL
      have qdQ := hide (Strs.keep qdM.out (Kp.setLoc (T := [9]) (i := 10) (v := .int .i64 a187.value) qdO.out (by decide)) (by decide))
      clear qdM
      have qdR := hide (loc_other (p := ⟨w2.heap.size, 10, none⟩) (v := .int .i64 a187.value) qdN.out (qc.out))
      have qdS := hide (loc_set (i := 10) (v := .int .i64 a187.value) qdO.out)
      clear qdN qdO
      have H196 := hide (H195.out.setLoc Q4.out 10 (.int .i64 a187.value))
      have F196 := hide (F195.out.setLoc G4.out 10 (.int .i64 a187.value))
      clear H195 F195
      go_wp2_with fail
      have hz := (And.intro qdd (And.intro qde (And.intro qdf (And.intro qdg (And.intro qdh (And.intro qdi (And.intro qdj (And.intro qdk (And.intro qdl (And.intro qdm (And.intro qdn (And.intro y188 (And.intro qdo (And.intro qdp (And.intro qdq (And.intro qdr (And.intro qds (And.intro qdt (And.intro qdu (And.intro qdv (And.intro qdw (And.intro qdx (And.intro qdy (And.intro y189 (And.intro x190 x191)))))))))))))))))))))))))
      simp [bodyPost, results, Tryz.results83, go_sem, hz]
      have qdT := hide (Prems.keep qdP.out (Kp.setLoc (T := inner) (i := 0) (v := .string ⟨a2.toArray⟩) qdR.out (by decide)))
      clear qdP
      have qdU := hide (Strs.keep qdQ.out (Kp.setLoc (T := [9]) (i := 0) (v := .string ⟨a2.toArray⟩) qdR.out (by decide)) (by decide))
      clear qdQ
      have qdV := hide (loc_set (i := 0) (v := .string ⟨a2.toArray⟩) qdR.out)
      have qdW := hide (loc_other (p := ⟨w.heap.size, 0, none⟩) (v := .string ⟨a2.toArray⟩) qdS.out (qd.out))
      clear qdR qdS
      have H197 := hide (H196.out.setLoc Q1.out 0 (.string ⟨a2.toArray⟩))
      have F197 := hide (F196.out.setLoc G1.out 0 (.string ⟨a2.toArray⟩))
      clear H196 F196
      have qdX := hide (Prems.keep qdT.out (Kp.setLoc (T := inner) (i := 1) (v := .string ⟨a10.toArray⟩) qdV.out (by decide)))
      clear qdT
      have qdY := hide (Strs.keep qdU.out (Kp.setLoc (T := [9]) (i := 1) (v := .string ⟨a10.toArray⟩) qdV.out (by decide)) (by decide))
      clear qdU
      have qdZ := hide (loc_set (i := 1) (v := .string ⟨a10.toArray⟩) qdV.out)
      have qe0 := hide (loc_other (p := ⟨w.heap.size, 1, none⟩) (v := .string ⟨a10.toArray⟩) qdW.out (qd.out))
      clear qdV qdW
      have H198 := hide (H197.out.setLoc Q1.out 1 (.string ⟨a10.toArray⟩))
      have F198 := hide (F197.out.setLoc G1.out 1 (.string ⟨a10.toArray⟩))
      clear H197 F197
      have qe1 := hide (Prems.keep qdX.out (Kp.setLoc (T := inner) (i := 2) (v := .int .i64 a21) qdZ.out (by decide)))
      clear qdX
      have qe2 := hide (Strs.keep qdY.out (Kp.setLoc (T := [9]) (i := 2) (v := .int .i64 a21) qdZ.out (by decide)) (by decide))
      clear qdY
      have qe3 := hide (loc_set (i := 2) (v := .int .i64 a21) qdZ.out)
      have qe4 := hide (loc_other (p := ⟨w.heap.size, 2, none⟩) (v := .int .i64 a21) qe0.out (qd.out))
      clear qdZ qe0
      have H199 := hide (H198.out.setLoc Q1.out 2 (.int .i64 a21))
      have F199 := hide (F198.out.setLoc G1.out 2 (.int .i64 a21))
      clear H198 F198
      have qe5 := hide (Prems.keep qe1.out (Kp.setLoc (T := inner) (i := 3) (v := .int .i64 a117) qe3.out (by decide)))
      clear qe1
      have qe6 := hide (Strs.keep qe2.out (Kp.setLoc (T := [9]) (i := 3) (v := .int .i64 a117) qe3.out (by decide)) (by decide))
      clear qe2
      have qe7 := hide (loc_set (i := 3) (v := .int .i64 a117) qe3.out)
      have qe8 := hide (loc_other (p := ⟨w.heap.size, 3, none⟩) (v := .int .i64 a117) qe4.out (qd.out))
      clear qe3 qe4
      have H200 := hide (H199.out.setLoc Q1.out 3 (.int .i64 a117))
      have F200 := hide (F199.out.setLoc G1.out 3 (.int .i64 a117))
      clear H199 F199
      have qe9 := hide (Prems.keep qe5.out (Kp.setLoc (T := inner) (i := 4) (v := .slice p175 a175.length r175) qe7.out (by decide)))
      clear qe5
      have qea := hide (Strs.keep qe6.out (Kp.setLoc (T := [9]) (i := 4) (v := .slice p175 a175.length r175) qe7.out (by decide)) (by decide))
      clear qe6
      have qeb := hide (loc_set (i := 4) (v := .slice p175 a175.length r175) qe7.out)
      have qec := hide (loc_other (p := ⟨w.heap.size, 4, none⟩) (v := .slice p175 a175.length r175) qe8.out (qd.out))
      clear qe7 qe8
      have H201 := hide (H200.out.setLoc Q1.out 4 (.slice p175 a175.length r175))
      have F201 := hide (F200.out.setLoc G1.out 4 (.slice p175 a175.length r175))
      clear H200 F200
      have qed := hide (Prems.keep qe9.out (Kp.setLoc (T := inner) (i := 5) (v := .int .i64 a181) qeb.out (by decide)))
      clear qe9
      have qee := hide (Strs.keep qea.out (Kp.setLoc (T := [9]) (i := 5) (v := .int .i64 a181) qeb.out (by decide)) (by decide))
      clear qea
      have qef := hide (loc_set (i := 5) (v := .int .i64 a181) qeb.out)
      have qeg := hide (loc_other (p := ⟨w.heap.size, 5, none⟩) (v := .int .i64 a181) qec.out (qd.out))
      clear qeb qec
      have H202 := hide (H201.out.setLoc Q1.out 5 (.int .i64 a181))
      have F202 := hide (F201.out.setLoc G1.out 5 (.int .i64 a181))
      clear H201 F201
      have qeh := hide (Prems.keep qed.out (Kp.setLoc (T := inner) (i := 6) (v := .bool a187.neg) qef.out (by decide)))
      clear qed
      have qei := hide (Strs.keep qee.out (Kp.setLoc (T := [9]) (i := 6) (v := .bool a187.neg) qef.out (by decide)) (by decide))
      clear qee
      have qej := hide (loc_set (i := 6) (v := .bool a187.neg) qef.out)
      have qek := hide (loc_other (p := ⟨w.heap.size, 6, none⟩) (v := .bool a187.neg) qeg.out (qd.out))
      clear qef qeg
      have H203 := hide (H202.out.setLoc Q1.out 6 (.bool a187.neg))
      have F203 := hide (F202.out.setLoc G1.out 6 (.bool a187.neg))
      clear H202 F202
      have qel := hide (Prems.keep qeh.out (Kp.setLoc (T := inner) (i := 7) (v := .string ⟨a187.pred.toArray⟩) qej.out (by decide)))
      clear qeh
      have qem := hide (Strs.keep qei.out (Kp.setLoc (T := [9]) (i := 7) (v := .string ⟨a187.pred.toArray⟩) qej.out (by decide)) (by decide))
      clear qei
      have qen := hide (loc_set (i := 7) (v := .string ⟨a187.pred.toArray⟩) qej.out)
      have qeo := hide (loc_other (p := ⟨w.heap.size, 7, none⟩) (v := .string ⟨a187.pred.toArray⟩) qek.out (qd.out))
      clear qej qek
      have H204 := hide (H203.out.setLoc Q1.out 7 (.string ⟨a187.pred.toArray⟩))
      have F204 := hide (F203.out.setLoc G1.out 7 (.string ⟨a187.pred.toArray⟩))
      clear H203 F203
      have qep := hide (Prems.keep qel.out (Kp.setLoc (T := inner) (i := 8) (v := .slice qda a187.args.length qdb) qen.out (by decide)))
      clear qel
      have qeq := hide (Strs.keep qem.out (Kp.setLoc (T := [9]) (i := 8) (v := .slice qda a187.args.length qdb) qen.out (by decide)) (by decide))
      clear qem
      have qer := hide (loc_set (i := 8) (v := .slice qda a187.args.length qdb) qen.out)
      have qes := hide (loc_other (p := ⟨w.heap.size, 8, none⟩) (v := .slice qda a187.args.length qdb) qeo.out (qd.out))
      clear qen qeo
      have H205 := hide (H204.out.setLoc Q1.out 8 (.slice qda a187.args.length qdb))
      have F205 := hide (F204.out.setLoc G1.out 8 (.slice qda a187.args.length qdb))
      clear H204 F204
      have qet := hide (Prems.keep qep.out (Kp.setLoc (T := inner) (i := 9) (v := .bool a187.hasValue) qer.out (by decide)))
      clear qep
      have qeu := hide (Strs.keep qeq.out (Kp.setLoc (T := [9]) (i := 9) (v := .bool a187.hasValue) qer.out (by decide)) (by decide))
      clear qeq
      have qev := hide (loc_set (i := 9) (v := .bool a187.hasValue) qer.out)
      have qew := hide (loc_other (p := ⟨w.heap.size, 9, none⟩) (v := .bool a187.hasValue) qes.out (qd.out))
      clear qer qes
      have H206 := hide (H205.out.setLoc Q1.out 9 (.bool a187.hasValue))
      have F206 := hide (F205.out.setLoc G1.out 9 (.bool a187.hasValue))
      clear H205 F205
      have qex := hide (Prems.keep qet.out (Kp.setLoc (T := inner) (i := 10) (v := .int .i64 a187.value) qev.out (by decide)))
      clear qet
      have qey := hide (Strs.keep qeu.out (Kp.setLoc (T := [9]) (i := 10) (v := .int .i64 a187.value) qev.out (by decide)) (by decide))
      clear qeu
      have qez := hide (loc_set (i := 10) (v := .int .i64 a187.value) qev.out)
      have qeA := hide (loc_other (p := ⟨w.heap.size, 10, none⟩) (v := .int .i64 a187.value) qew.out (qd.out))
      clear qev qew
      have H207 := hide (H206.out.setLoc Q1.out 10 (.int .i64 a187.value))
      have F207 := hide (F206.out.setLoc G1.out 10 (.int .i64 a187.value))
      clear H206 F206
      exact .of_ok HO187.out (⟨_, _, rfl, qex.out, qey.out⟩) H207.out F207.out

end
end Go.Proofs.YthnjmfkiohgkkaaGreatDoor.Sy
