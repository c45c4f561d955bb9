import Derived.Test.YtbpphlmakmeoaaaGreatDoorAddAll
set_option maxRecDepth 100000
set_option maxHeartbeats 1600000
namespace Go.Proofs.YtbpphlmakmeoaaaGreatDoor.Sy
open Go.RowKit
section
variable (R : Nat) (L : List fw) (N : Nat) (s : RS) (st : St9) (w : World)
theorem sd (h : Rd R L N s st w) (o : Out (List ee)) (ho : iW (kt L) (gw (kt L)) s = o) :
    Calls Tryz.prog 291 #[.pointer (some ⟨R, 0, none⟩), .func (.func 183) #[.pointer (some ⟨R, 0, none⟩)] #[]] w (Ends R L N st w (Strs (fo w)) o) := by
 have HO := ec ho
 have H := ec h
 have F := ec (Fq.refl R w)
 clear h ho
 go_enter Tryz.func291, Tryz.ntmps291
 have C1 := ec (ig R L N s st _ [40] H.out _ rfl)
 go_wp2_with fail
 refine C1.out.mono ?_
 intro e w1 he
 rcases he.split with ⟨a1, s1, v1, ho, rfl, hv, hR, hF⟩ | ⟨c, m, ho, rfl, hF⟩
 rotate_left 1
 · exact eg rfl (.of_bad (el HO.out ho) (F.out.trans hF))
 have Ab := ec (ej HO.out ho)
 have H1 := ec hR
 have F1 := ec (F.out.trans hF)
 cases hv
 clear he ho hR hF C1 H F HO
 cases a1 with
 | false =>
  have HO := ec (fc Ab.out rfl)
  go_wp2_with fail
  go_ret
  exact .of_ok HO.out (Rows.nil _ _ _ _ _) H1.out F1.out
 | true =>
  have HO := ec (fs Ab.out rfl)
  have C2 := ec (jn R L N s1 st _ (gw (kt L)) (fun s w h => gv R L N s st w h _ rfl) (iz (kt L)) (fun s w h => jk R L N s st w h _ rfl) (fun s a u => go _ s a u) (fun s u => gC) 4 H1.out _ rfl)
  go_wp2_with fail
  refine C2.out.mono ?_
  intro e w2 he
  rcases he.split with ⟨a2, s2, v2, ho, rfl, hv, hR, hF⟩ | ⟨c, m, ho, rfl, hF⟩
  rotate_left 1
  · exact eg rfl (.of_bad (el HO.out ho) (F1.out.trans hF))
  have Aa := ec (ej HO.out ho)
  have H2 := ec hR
  have F2 := ec (F1.out.trans hF)
  obtain ⟨p2, r2, rfl⟩ := ed hv
  have V2 := ec (Strs.mono hv fun g hg => Nat.le_trans F1.out.size hg)
  clear hv
  clear he ho hR hF C2 H1 F1 HO
  have C3 := ec (fM R L N s2 st _ [41] H2.out _ rfl)
  go_wp2_with fail
  refine C3.out.mono ?_
  intro e w3 he
  rcases he.split with ⟨a3, s3, v3, ho, rfl, hv, hR, hF⟩ | ⟨c, m, ho, rfl, hF⟩
  rotate_left 1
  · exact eg rfl (.of_bad (el Aa.out ho) (F2.out.trans hF))
  have Ac := ec (ej Aa.out ho)
  have q0 := ec (Strs.keep V2.out (Kp.of_fq (T := [9]) hF H2.out (by decide)) (by decide))
  clear V2
  have H3 := ec hR
  have F3 := ec (F2.out.trans hF)
  cases hv
  clear he ho hR hF C3 H2 F2 Aa
  go_wp2_with fail
  go_ret
  exact .of_ok Ac.out q0.out H3.out F3.out
theorem lE (h : Rd R L N s st w) (o : Out (List ee)) (ho : iW (kt L) (la (kt L)) s = o) :
    Calls Tryz.prog 291 #[.pointer (some ⟨R, 0, none⟩), .func (.func 300) #[.pointer (some ⟨R, 0, none⟩)] #[]] w (Ends R L N st w (Strs (fo w)) o) := by
 have HO := ec ho
 have H := ec h
 have F := ec (Fq.refl R w)
 clear h ho
 go_enter Tryz.func291, Tryz.ntmps291
 have C4 := ec (ig R L N s st _ [40] H.out _ rfl)
 go_wp2_with fail
 refine C4.out.mono ?_
 intro e w4 he
 rcases he.split with ⟨a4, s4, v4, ho, rfl, hv, hR, hF⟩ | ⟨c, m, ho, rfl, hF⟩
 rotate_left 1
 · exact eg rfl (.of_bad (el HO.out ho) (F.out.trans hF))
 have Ab := ec (ej HO.out ho)
 have H4 := ec hR
 have F4 := ec (F.out.trans hF)
 cases hv
 clear he ho hR hF C4 H F HO
 cases a4 with
 | false =>
  have HO := ec (fc Ab.out rfl)
  go_wp2_with fail
  go_ret
  exact .of_ok HO.out (Rows.nil _ _ _ _ _) H4.out F4.out
 | true =>
  have HO := ec (fs Ab.out rfl)
  have C5 := ec (oS R L N s4 st _ (la (kt L)) (fun s w h => rp R L N s st w h _ rfl) (iz (kt L)) (fun s w h => jk R L N s st w h _ rfl) (fun s a u => tA _ s a u) (fun s u => gC) 4 H4.out _ rfl)
  go_wp2_with fail
  refine C5.out.mono ?_
  intro e w5 he
  rcases he.split with ⟨a5, s5, v5, ho, rfl, hv, hR, hF⟩ | ⟨c, m, ho, rfl, hF⟩
  rotate_left 1
  · exact eg rfl (.of_bad (el HO.out ho) (F4.out.trans hF))
  have Aa := ec (ej HO.out ho)
  have H5 := ec hR
  have F5 := ec (F4.out.trans hF)
  obtain ⟨p5, r5, rfl⟩ := ed hv
  have V5 := ec (Strs.mono hv fun g hg => Nat.le_trans F4.out.size hg)
  clear hv
  clear he ho hR hF C5 H4 F4 HO
  have C6 := ec (fM R L N s5 st _ [41] H5.out _ rfl)
  go_wp2_with fail
  refine C6.out.mono ?_
  intro e w6 he
  rcases he.split with ⟨a6, s6, v6, ho, rfl, hv, hR, hF⟩ | ⟨c, m, ho, rfl, hF⟩
  rotate_left 1
  · exact eg rfl (.of_bad (el Aa.out ho) (F5.out.trans hF))
  have Ac := ec (ej Aa.out ho)
  have q0 := ec (Strs.keep V5.out (Kp.of_fq (T := [9]) hF H5.out (by decide)) (by decide))
  clear V5
  have H6 := ec hR
  have F6 := ec (F5.out.trans hF)
  cases hv
  clear he ho hR hF C6 H5 F5 Aa
  go_wp2_with fail
  go_ret
  exact .of_ok Ac.out q0.out H6.out F6.out
theorem i7 (h : Rd R L N s st w) (o : Out jQ) (ho : jB FN (kt L) s = o) :
    Calls Tryz.prog 254 #[.pointer (some ⟨R, 0, none⟩)] w (Ends R L N st w (vG (fo w)) o) := by
 have HO := ec ho
 have H := ec h
 have F := ec (Fq.refl R w)
 clear h ho
 go_enter Tryz.func254, Tryz.ntmps254
 have B7 : Below _ _ ((w).alloc (.cells #[.bool false, .string ⟨#[]⟩, .slice none 0 0, .bool false, .int .i64 0] 47)) := (Below.refl _ _).alloc (Nat.le_refl _) _
 have Q7 : Hid (R < w.heap.size) := ec H.out.lt
 have G7 : Hid (w.heap.size ≤ w.heap.size) := ec F.out.size
 have Bb := ec (heap_alloc_new (w) (.cells #[.bool false, .string ⟨#[]⟩, .slice none 0 0, .bool false, .int .i64 0] 47))
 have H7 := ec (H.out.below B7)
 have F7 := ec (F.out.trans (Fq.of_below B7))
 clear H F B7
 have C8 := ec (ig R L N s st _ [45] H7.out _ rfl)
 go_wp2_with fail
 refine C8.out.mono ?_
 intro e w8 he
 rcases he.split with ⟨a8, s8, v8, ho, rfl, hv, hR, hF⟩ | ⟨c, m, ho, rfl, hF⟩
 rotate_left 1
 · exact eg rfl (.of_bad (el HO.out ho) (F7.out.trans hF))
 have Av := ec (ej HO.out ho)
 have q0 := eW hF Bb Q7
 clear Bb
 have H8 := ec hR
 have F8 := ec (F7.out.trans hF)
 cases hv
 clear he ho hR hF C8 H7 F7 HO
 obtain ⟨q1, q2, q3, q4, q5, y9⟩ := gN q0.out
 have An : Below _ _ ((w8).alloc (.cells #[.bool a8, .string ⟨#[]⟩, .slice none 0 0, .bool false, .int .i64 0] 47)) := (Below.refl _ _).alloc (Nat.le_refl _) _
 have Af : Hid (R < w8.heap.size) := ec H8.out.lt
 have Aj : Hid (w.heap.size ≤ w8.heap.size) := ec F8.out.size
 have q6 : Hid (w.heap.size ≠ w8.heap.size) := ec (Nat.ne_of_lt (eN q0.out))
 have q7 : Hid (w8.heap.size ≠ w.heap.size) := ec (Nat.ne_of_gt (eN q0.out))
 have q8 := ec ((An.block _ (eN q0.out)).trans q0.out)
 clear q0
 have AA := ec (heap_alloc_new (w8) (.cells #[.bool a8, .string ⟨#[]⟩, .slice none 0 0, .bool false, .int .i64 0] 47))
 have AR := ec (H8.out.below An)
 have As := ec (F8.out.trans (Fq.of_below An))
 clear H8 F8 An
 have Bo := ec (gv R L N s8 st _ AR.out _ rfl)
 go_wp2_with fail
 refine Bo.out.mono ?_
 intro e Cs he
 rcases he.split with ⟨Ad, s11, Ci, ho, rfl, hv, hR, hF⟩ | ⟨c, m, ho, rfl, hF⟩
 rotate_left 1
 · exact eg rfl (.of_bad (el Av.out ho) (As.out.trans hF))
 clear q1 q2 q3 q4 q5 y9
 have Ah := ec (ej Av.out ho)
 have q9 := eW hF q8 Q7
 clear q8
 have qa := eW hF AA Af
 clear AA
 have Bk := ec hR
 have AN := ec (As.out.trans hF)
 cases hv
 clear he ho hR hF Bo AR As Av
 obtain ⟨qb, qc, qd, qe, qf, BN⟩ := gN q9.out
 obtain ⟨qg, qh, qi, qj, qk, Cf⟩ := gN qa.out
 have BO := q6.out
 have Cd := q7.out
 have ql := ew w8 1 (.string ⟨Ad.toArray⟩) q9 q6
 have qm := ep 1 (.string ⟨Ad.toArray⟩) qa
 clear q9 qa
 have AU := eo Bk Af 1 (.string ⟨Ad.toArray⟩)
 have Ai := em AN Aj 1 (.string ⟨Ad.toArray⟩)
 clear Bk AN
 have AL := ec (lE R L N s11 st _ AU.out _ rfl)
 go_wp2_with fail
 refine AL.out.mono ?_
 intro e Ch he
 rcases he.split with ⟨Ac, BM, Cl, ho, rfl, hv, hR, hF⟩ | ⟨c, m, ho, rfl, hF⟩
 rotate_left 1
 · exact eg rfl (.of_bad (el Ah.out ho) (Ai.out.trans hF))
 clear qb qc qd qe qf BN qg qh qi qj qk Cf BO Cd
 have Ag := ec (ej Ah.out ho)
 have qn := eW hF ql Q7
 clear ql
 have qo := eW hF qm Af
 clear qm
 have AC := ec hR
 have AD := ec (Ai.out.trans hF)
 obtain ⟨Ab, Aa, rfl⟩ := ed hv
 have Bf := ec (Strs.mono hv fun g hg => Nat.le_trans Ai.out.size hg)
 clear hv
 clear he ho hR hF AL AU Ai Ah
 obtain ⟨qp, qq, qr, qs, qt, BX⟩ := gN qn.out
 obtain ⟨qu, qv, qw, qx, qy, Ce⟩ := gN qo.out
 have BJ := q6.out
 have BY := q7.out
 have qz := eH 2 (.slice Ab Ac.length Aa) Bf qo
 clear Bf
 have qA := ew w8 2 (.slice Ab Ac.length Aa) qn q6
 have qB := ep 2 (.slice Ab Ac.length Aa) qo
 clear qn qo
 have Aq := eo AC Af 2 (.slice Ab Ac.length Aa)
 have Ao := em AD Aj 2 (.slice Ab Ac.length Aa)
 clear AC AD
 have Bd := ec (ig R L N BM st _ [61] Aq.out _ rfl)
 go_wp2_with fail
 refine Bd.out.mono ?_
 intro e Cr he
 rcases he.split with ⟨Cg, BP, Co, ho, rfl, hv, hR, hF⟩ | ⟨c, m, ho, rfl, hF⟩
 rotate_left 1
 · exact eg rfl (.of_bad (el Ag.out ho) (Ao.out.trans hF))
 clear qp qq qr qs qt BX qu qv qw qx qy Ce BJ BY
 have Ar := ec (ej Ag.out ho)
 have qC := eW hF qA Q7
 clear qA
 have qD := eW hF qB Af
 clear qB
 have qE := ec (Strs.keep qz.out (Kp.of_fq (T := [9]) hF Aq.out (by decide)) (by decide))
 clear qz
 have Am := ec hR
 have Al := ec (Ao.out.trans hF)
 cases hv
 clear he ho hR hF Bd Aq Ao Ag
 obtain ⟨qF, qG, qH, qI, qJ, AK⟩ := gN qC.out
 obtain ⟨qK, qL, qM, qN, qO, AM⟩ := gN qD.out
 have Bl := q6.out
 have AV := q7.out
 cases Cg with
 | false =>
  have HO := ec (fc Ar.out rfl)
  go_wp2_with fail
  have hz := (And.intro qF (And.intro qG (And.intro qH (And.intro qI (And.intro qJ (And.intro AK (And.intro qK (And.intro qL (And.intro qM (And.intro qN (And.intro qO (And.intro AM (And.intro Bl AV)))))))))))))
  simp [bodyPost, results, Tryz.results254, go_sem, hz]
  have qP := eH 0 (.bool a8) qE qC
  clear qE
  have qQ := ep 0 (.bool a8) qC
  have qR := ew w 0 (.bool a8) qD q7
  clear qC qD
  have AJ := eo Am Q7 0 (.bool a8)
  have Br := em Al G7 0 (.bool a8)
  clear Am Al
  have qS := eH 1 (.string ⟨Ad.toArray⟩) qP qQ
  clear qP
  have qT := ep 1 (.string ⟨Ad.toArray⟩) qQ
  have qU := ew w 1 (.string ⟨Ad.toArray⟩) qR q7
  clear qQ qR
  have Bp := eo AJ Q7 1 (.string ⟨Ad.toArray⟩)
  have AX := em Br G7 1 (.string ⟨Ad.toArray⟩)
  clear AJ Br
  have qV := eH 2 (.slice Ab Ac.length Aa) qS qT
  clear qS
  have qW := ep 2 (.slice Ab Ac.length Aa) qT
  have qX := ew w 2 (.slice Ab Ac.length Aa) qU q7
  clear qT qU
  have Ba := eo Bp Q7 2 (.slice Ab Ac.length Aa)
  have AI := em AX G7 2 (.slice Ab Ac.length Aa)
  clear Bp AX
  have qY := eH 3 (.bool false) qV qW
  clear qV
  have qZ := ep 3 (.bool false) qW
  have Bj := ew w 3 (.bool false) qX q7
  clear qW qX
  have Bc := eo Ba Q7 3 (.bool false)
  have Bm := em AI G7 3 (.bool false)
  clear Ba AI
  have Ca := eH 4 (.int .i64 0) qY qZ
  clear qY
  have Cq := ep 4 (.int .i64 0) qZ
  have Ck := ew w 4 (.int .i64 0) Bj q7
  clear qZ Bj
  have BF := eo Bc Q7 4 (.int .i64 0)
  have BG := em Bm G7 4 (.int .i64 0)
  clear Bc Bm
  exact .of_ok HO.out (⟨_, rfl, Ca.out⟩) BF.out BG.out
 | true =>
  have HO := ec (fs Ar.out rfl)
  have Bz := eH 3 (.bool true) qE qD
  clear qE
  have AF := ew w8 3 (.bool true) qC q6
  have AP := ep 3 (.bool true) qD
  clear qC qD
  have Ax := eo Am Af 3 (.bool true)
  have At := em Al Aj 3 (.bool true)
  clear Am Al
  have Bn := ec (kM R L N BP st _ Ax.out _ rfl)
  go_wp2_with fail
  refine Bn.out.mono ?_
  intro e Cj he
  rcases he.split with ⟨Ae, Cn, Cm, ho, rfl, hv, hR, hF⟩ | ⟨c, m, ho, rfl, hF⟩
  rotate_left 1
  · exact eg rfl (.of_bad (el HO.out ho) (At.out.trans hF))
  clear qF qG qH qI qJ AK qK qL qM qN qO AM Bl AV
  have BB := ec (ej HO.out ho)
  have AB := eW hF AF Q7
  clear AF
  have Ak := eW hF AP Af
  clear AP
  have Bw := ec (Strs.keep Bz.out (Kp.of_fq (T := [9]) hF Ax.out (by decide)) (by decide))
  clear Bz
  have AW := ec hR
  have Bh := ec (At.out.trans hF)
  cases hv
  clear he ho hR hF Bn Ax At HO
  obtain ⟨BS, BH, BC, BL, BU, BR⟩ := gN AB.out
  obtain ⟨BD, BK, BI, BQ, BZ, Cc⟩ := gN Ak.out
  have BT := q6.out
  have BW := q7.out
  have BA := eH 4 (.int .i64 Ae) Bw Ak
  clear Bw
  have Au := ew w8 4 (.int .i64 Ae) AB q6
  have Be := ep 4 (.int .i64 Ae) Ak
  clear AB Ak
  have AZ := eo AW Af 4 (.int .i64 Ae)
  have Bt := em Bh Aj 4 (.int .i64 Ae)
  clear AW Bh
  go_wp2_with fail
  have hz := (And.intro BS (And.intro BH (And.intro BC (And.intro BL (And.intro BU (And.intro BR (And.intro BD (And.intro BK (And.intro BI (And.intro BQ (And.intro BZ (And.intro Cc (And.intro BT BW)))))))))))))
  simp [bodyPost, results, Tryz.results254, go_sem, hz]
  have AG := eH 0 (.bool a8) BA Au
  clear BA
  have Aw := ep 0 (.bool a8) Au
  have AS := ew w 0 (.bool a8) Be q7
  clear Au Be
  have AY := eo AZ Q7 0 (.bool a8)
  have Bu := em Bt G7 0 (.bool a8)
  clear AZ Bt
  have Bs := eH 1 (.string ⟨Ad.toArray⟩) AG Aw
  clear AG
  have Ay := ep 1 (.string ⟨Ad.toArray⟩) Aw
  have Bv := ew w 1 (.string ⟨Ad.toArray⟩) AS q7
  clear Aw AS
  have AE := eo AY Q7 1 (.string ⟨Ad.toArray⟩)
  have AO := em Bu G7 1 (.string ⟨Ad.toArray⟩)
  clear AY Bu
  have Bq := eH 2 (.slice Ab Ac.length Aa) Bs Ay
  clear Bs
  have Ap := ep 2 (.slice Ab Ac.length Aa) Ay
  have Bi := ew w 2 (.slice Ab Ac.length Aa) Bv q7
  clear Ay Bv
  have Bg := eo AE Q7 2 (.slice Ab Ac.length Aa)
  have AT := em AO G7 2 (.slice Ab Ac.length Aa)
  clear AE AO
  have AH := eH 3 (.bool true) Bq Ap
  clear Bq
  have Az := ep 3 (.bool true) Ap
  have By := ew w 3 (.bool true) Bi q7
  clear Ap Bi
  have Bx := eo Bg Q7 3 (.bool true)
  have AQ := em AT G7 3 (.bool true)
  clear Bg AT
  have BV := eH 4 (.int .i64 Ae) AH Az
  clear AH
  have Cp := ep 4 (.int .i64 Ae) Az
  have Ct := ew w 4 (.int .i64 Ae) By q7
  clear Az By
  have Cb := eo Bx Q7 4 (.int .i64 Ae)
  have BE := em AQ G7 4 (.int .i64 Ae)
  clear Bx AQ
  exact .of_ok BB.out (⟨_, rfl, BV.out⟩) Cb.out BE.out
end
end Go.Proofs.YtbpphlmakmeoaaaGreatDoor.Sy
