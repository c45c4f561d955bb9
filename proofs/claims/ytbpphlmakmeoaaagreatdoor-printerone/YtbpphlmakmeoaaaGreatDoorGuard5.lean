import Derived.Test.YtbpphlmakmeoaaaGreatDoorMarks5
set_option maxRecDepth 100000
set_option maxHeartbeats 1600000
namespace Go.Proofs.YtbpphlmakmeoaaaGreatDoor.Sy
open Go.RowKit
section
variable (R : Nat) (L : List fw) (N : Nat) (s : RS) (st : St9) (w : World)
theorem rZ (h : Rd R L N s st w) (o : Out ft) (ho : jp FN (kt L) s = o) :
    Calls Tryz.prog 363 #[.pointer (some ⟨R, 0, none⟩)] w (Ends R L N st w (kg (fo w)) o) := by
 have HO := ec ho
 have H := ec h
 have F := ec (Fq.refl R w)
 clear h ho
 have f0 := fun a b c w => (ws a b c w).1
 have ho := gc HO.out
 clear HO
 by_cases hk : kd (kt L) s.n = 3
 · have ho := gc (fs ho (by simp [hk]))
   cases hm : eT (kt L) (s.n + 1) [42] with
   | false =>
    have HO := ec (fc ho hm)
    have Ar : eT (kt L) s.n [45] = false := by unfold eT; rw [hk]; rfl
    have Aa := ec (fun w h => fm R L N s st w h 0 (by omega))
    rw [show s.n + 0 = s.n from rfl, hk] at Aa
    have CN := ec (ib L s.n (eI L N s.n) [45])
    rw [Ar, hk] at CN
    have CM := ec (ib L (s.n + 1) (eI L N (s.n + 1)) [42])
    rw [hm] at CM
    clear ho hk hm Ar
    go_enter Tryz.func363, Tryz.ntmps363
    have AU : Below _ _ ((w).alloc (.cells #[.int .i64 0, .string ⟨#[]⟩, .slice none 0 0, .int .i64 0] 192)) := (Below.refl _ _).alloc (Nat.le_refl _) _
    have Aq : Hid (R < w.heap.size) := ec H.out.lt
    have AF : Hid (w.heap.size ≤ w.heap.size) := ec F.out.size
    have By := ec (heap_alloc_new (w) (.cells #[.int .i64 0, .string ⟨#[]⟩, .slice none 0 0, .int .i64 0] 192))
    have AM := ec (H.out.below AU)
    have Db := ec (F.out.trans (Fq.of_below AU))
    clear H F AU
    go_wp2_with fail
    refine (Aa.out _ AM.out).mono ?_
    rintro _ Gt ⟨rfl, hb⟩
    have q0 := eK hb By
    clear By
    have Bm := ec (AM.out.below hb)
    have Du := ec (Db.out.trans (Fq.of_below hb))
    clear hb AM Db
    obtain ⟨q1, q2, q3, q4, EA⟩ := fy q0.out
    go_wp2_with fail
    refine (fm R L N s st _ Bm.out 1 (by omega)).mono ?_
    rintro _ Gk ⟨rfl, hb⟩
    clear q1 q2 q3 q4 EA
    have q5 := eK hb q0
    clear q0
    have CB := ec (Bm.out.below hb)
    have BF := ec (Du.out.trans (Fq.of_below hb))
    clear hb Bm Du
    obtain ⟨q6, q7, q8, q9, EU⟩ := fy q5.out
    go_wp2_with fail
    refine (CM.out _).mono ?_
    rintro _ Gb ⟨rfl, hb⟩
    clear q6 q7 q8 q9 EU
    have qa := eK hb q5
    clear q5
    have BY := ec (CB.out.below hb)
    have AW := ec (BF.out.trans (Fq.of_below hb))
    clear hb CB BF
    obtain ⟨qb, qc, qd, qe, DH⟩ := fy qa.out
    have CT := ec (kM R L N s st _ BY.out _ rfl)
    go_wp2_with fail
    refine CT.out.mono ?_
    intro e Gr he
    rcases he.split with ⟨Bo, Gc, Gj, ho, rfl, hv, hR, hF⟩ | ⟨c, m, ho, rfl, hF⟩
    rotate_left 1
    · exact eg rfl (.of_bad (el HO.out ho) (AW.out.trans hF))
    clear qb qc qd qe DH
    have DB := ec (ej HO.out ho)
    have qf := eW hF qa Aq
    clear qa
    have Dh := ec hR
    have CO := ec (AW.out.trans hF)
    cases hv
    clear he ho hR hF CT BY AW HO
    obtain ⟨qg, qh, qi, qj, Fi⟩ := fy qf.out
    go_wp2_with fail
    have hz := (And.intro qg (And.intro qh (And.intro qi (And.intro qj Fi))))
    simp [bodyPost, results, Tryz.results363, go_sem, hz]
    have qk := ep 0 (.int .i64 0) qf
    clear qf
    have BO := eo Dh Aq 0 (.int .i64 0)
    have BM := em CO AF 0 (.int .i64 0)
    clear Dh CO
    have ql := ep 1 (.string ⟨#[]⟩) qk
    clear qk
    have Ct := eo BO Aq 1 (.string ⟨#[]⟩)
    have BJ := em BM AF 1 (.string ⟨#[]⟩)
    clear BO BM
    have qm := ep 2 (.slice none 0 0) ql
    clear ql
    have Dn := eo Ct Aq 2 (.slice none 0 0)
    have Dd := em BJ AF 2 (.slice none 0 0)
    clear Ct BJ
    have qn := ep 3 (.int .i64 Bo) qm
    clear qm
    have DF := eo Dn Aq 3 (.int .i64 Bo)
    have FD := em Dd AF 3 (.int .i64 Bo)
    clear Dn Dd
    exact .of_ok DB.out (⟨_, rfl, Rows.nil _ _ _ _ _⟩) DF.out FD.out
   | true =>
    have HO := ec (fs ho hm)
    have Ar : eT (kt L) s.n [45] = false := by unfold eT; rw [hk]; rfl
    have Aa := ec (fun w h => fm R L N s st w h 0 (by omega))
    rw [show s.n + 0 = s.n from rfl, hk] at Aa
    have CN := ec (ib L s.n (eI L N s.n) [45])
    rw [Ar, hk] at CN
    have CM := ec (ib L (s.n + 1) (eI L N (s.n + 1)) [42])
    rw [hm] at CM
    clear ho hk hm Ar
    go_enter Tryz.func363, Tryz.ntmps363
    have Bk : Below _ _ ((w).alloc (.cells #[.int .i64 0, .string ⟨#[]⟩, .slice none 0 0, .int .i64 0] 192)) := (Below.refl _ _).alloc (Nat.le_refl _) _
    have Al : Hid (R < w.heap.size) := ec H.out.lt
    have Az : Hid (w.heap.size ≤ w.heap.size) := ec F.out.size
    have Bf := ec (heap_alloc_new (w) (.cells #[.int .i64 0, .string ⟨#[]⟩, .slice none 0 0, .int .i64 0] 192))
    have Bd := ec (H.out.below Bk)
    have Cu := ec (F.out.trans (Fq.of_below Bk))
    clear H F Bk
    go_wp2_with fail
    refine (Aa.out _ Bd.out).mono ?_
    rintro _ Gs ⟨rfl, hb⟩
    have qo := eK hb Bf
    clear Bf
    have AJ := ec (Bd.out.below hb)
    have Dy := ec (Cu.out.trans (Fq.of_below hb))
    clear hb Bd Cu
    obtain ⟨qp, qq, qr, qs, DX⟩ := fy qo.out
    go_wp2_with fail
    refine (fm R L N s st _ AJ.out 1 (by omega)).mono ?_
    rintro _ Gw ⟨rfl, hb⟩
    clear qp qq qr qs DX
    have qt := eK hb qo
    clear qo
    have Cn := ec (AJ.out.below hb)
    have Cx := ec (Dy.out.trans (Fq.of_below hb))
    clear hb AJ Dy
    obtain ⟨qu, qv, qw, qx, Fs⟩ := fy qt.out
    go_wp2_with fail
    refine (CM.out _).mono ?_
    rintro _ Ge ⟨rfl, hb⟩
    clear qu qv qw qx Fs
    have qy := eK hb qt
    clear qt
    have AQ := ec (Cn.out.below hb)
    have BL := ec (Cx.out.trans (Fq.of_below hb))
    clear hb Cn Cx
    obtain ⟨qz, qA, qB, qC, DD⟩ := fy qy.out
    go_wp2_with fail
    refine (Aa.out _ AQ.out).mono ?_
    rintro _ Gl ⟨rfl, hb⟩
    clear qz qA qB qC DD
    have qD := eK hb qy
    clear qy
    have BH := ec (AQ.out.below hb)
    have Cq := ec (BL.out.trans (Fq.of_below hb))
    clear hb AQ BL
    obtain ⟨qE, qF, qG, qH, DN⟩ := fy qD.out
    go_wp2_with fail
    refine (CN.out _).mono ?_
    rintro _ Ak ⟨rfl, hb⟩
    clear qE qF qG qH DN
    have qI := eK hb qD
    clear qD
    have BA := ec (BH.out.below hb)
    have Bq := ec (Cq.out.trans (Fq.of_below hb))
    clear hb BH Cq
    obtain ⟨qJ, qK, qL, qM, DL⟩ := fy qI.out
    have AE : Below _ _ ((Ak).alloc (.cells #[.int .i64 1, .string ⟨#[]⟩, .slice none 0 0, .int .i64 0] 192)) := (Below.refl _ _).alloc (Nat.le_refl _) _
    have An : Hid (R < Ak.heap.size) := ec BA.out.lt
    have Bs : Hid (w.heap.size ≤ Ak.heap.size) := ec Bq.out.size
    have qN : Hid (w.heap.size ≠ Ak.heap.size) := ec (Nat.ne_of_lt (eN qI.out))
    have qO : Hid (Ak.heap.size ≠ w.heap.size) := ec (Nat.ne_of_gt (eN qI.out))
    have qP := ec ((AE.block _ (eN qI.out)).trans qI.out)
    clear qI
    have AG := ec (heap_alloc_new (Ak) (.cells #[.int .i64 1, .string ⟨#[]⟩, .slice none 0 0, .int .i64 0] 192))
    have BG := ec (BA.out.below AE)
    have Ba := ec (Bq.out.trans (Fq.of_below AE))
    clear BA Bq AE
    have Cg := ec (us R L N s st _ 1 1000 BG.out _ rfl)
    go_wp2_with fail
    refine Cg.out.mono ?_
    intro e Ga he
    rcases he.split with ⟨Aj, ET, Gy, ho, rfl, hv, hR, hF⟩ | ⟨c, m, ho, rfl, hF⟩
    rotate_left 1
    · exact eg rfl (.of_bad (el HO.out ho) (Ba.out.trans hF))
    clear qJ qK qL qM DL
    have Au := ec (ej HO.out ho)
    have qQ := eW hF qP Al
    clear qP
    have qR := eW hF AG An
    clear AG
    have CG := ec hR
    have Cr := ec (Ba.out.trans hF)
    cases hv
    clear he ho hR hF Cg BG Ba HO
    obtain ⟨qS, qT, qU, qV, EQ⟩ := fy qQ.out
    obtain ⟨qW, qX, qY, qZ, FH⟩ := fy qR.out
    have EN := qN.out
    have Ep := qO.out
    have Ds := ew Ak 0 (.int .i64 Aj) qQ qN
    have Dt := ep 0 (.int .i64 Aj) qR
    clear qQ qR
    have CQ := eo CG An 0 (.int .i64 Aj)
    have AT := em Cr Bs 0 (.int .i64 Aj)
    clear CG Cr
    have BE := ec (fM R L N ET st _ [42] CQ.out _ rfl)
    go_wp2_with fail
    refine BE.out.mono ?_
    intro e Gu he
    rcases he.split with ⟨Gq, FT, Gd, ho, rfl, hv, hR, hF⟩ | ⟨c, m, ho, rfl, hF⟩
    rotate_left 1
    · exact eg rfl (.of_bad (el Au.out ho) (AT.out.trans hF))
    clear qS qT qU qV EQ qW qX qY qZ FH EN Ep
    have Av := ec (ej Au.out ho)
    have Bz := eW hF Ds Al
    clear Ds
    have AV := eW hF Dt An
    clear Dt
    have Dk := ec hR
    have Bx := ec (AT.out.trans hF)
    cases hv
    clear he ho hR hF BE CQ AT Au
    obtain ⟨EK, En, Fu, Fj, Ee⟩ := fy Bz.out
    obtain ⟨DU, Ek, DZ, Ft, DY⟩ := fy AV.out
    have DO := qN.out
    have Em := qO.out
    have CZ := ec (gv R L N FT st _ Dk.out _ rfl)
    go_wp2_with fail
    refine CZ.out.mono ?_
    intro e Gi he
    rcases he.split with ⟨Ah, Ed, Gz, ho, rfl, hv, hR, hF⟩ | ⟨c, m, ho, rfl, hF⟩
    rotate_left 1
    · exact eg rfl (.of_bad (el Av.out ho) (Bx.out.trans hF))
    clear EK En Fu Fj Ee DU Ek DZ Ft DY DO Em
    have At := ec (ej Av.out ho)
    have AH := eW hF Bz Al
    clear Bz
    have AL := eW hF AV An
    clear AV
    have BZ := ec hR
    have CC := ec (Bx.out.trans hF)
    cases hv
    clear he ho hR hF CZ Dk Bx Av
    obtain ⟨Ec, DI, Fy, Fv, FG⟩ := fy AH.out
    obtain ⟨EW, Fg, Fk, Ey, EJ⟩ := fy AL.out
    have Fa := qN.out
    have FS := qO.out
    have BQ := ew Ak 1 (.string ⟨Ah.toArray⟩) AH qN
    have BC := ep 1 (.string ⟨Ah.toArray⟩) AL
    clear AH AL
    have CH := eo BZ An 1 (.string ⟨Ah.toArray⟩)
    have AA := em CC Bs 1 (.string ⟨Ah.toArray⟩)
    clear BZ CC
    have CR := ec (lE R L N Ed st _ CH.out _ rfl)
    go_wp2_with fail
    refine CR.out.mono ?_
    intro e Gf he
    rcases he.split with ⟨Ac, Gx, Gg, ho, rfl, hv, hR, hF⟩ | ⟨c, m, ho, rfl, hF⟩
    rotate_left 1
    · exact eg rfl (.of_bad (el At.out ho) (AA.out.trans hF))
    clear Ec DI Fy Fv FG EW Fg Fk Ey EJ Fa FS
    have DA := ec (ej At.out ho)
    have Bg := eW hF BQ Al
    clear BQ
    have AD := eW hF BC An
    clear BC
    have Cd := ec hR
    have Cl := ec (AA.out.trans hF)
    obtain ⟨Ad, Ae, rfl⟩ := ed hv
    have Cj := ec (Strs.mono hv fun g hg => Nat.le_trans AA.out.size hg)
    clear hv
    clear he ho hR hF CR CH AA At
    obtain ⟨Ei, FP, EH, EE, Fo⟩ := fy Bg.out
    obtain ⟨Fp, ED, Eo, EI, DQ⟩ := fy AD.out
    have Ff := qN.out
    have DK := qO.out
    have Cw := eH 2 (.slice Ad Ac.length Ae) Cj AD
    clear Cj
    have Be := ew Ak 2 (.slice Ad Ac.length Ae) Bg qN
    have BP := ep 2 (.slice Ad Ac.length Ae) AD
    clear Bg AD
    have CS := eo Cd An 2 (.slice Ad Ac.length Ae)
    have Dg := em Cl Bs 2 (.slice Ad Ac.length Ae)
    clear Cd Cl
    go_wp2_with fail
    have hz := (And.intro Ei (And.intro FP (And.intro EH (And.intro EE (And.intro Fo (And.intro Fp (And.intro ED (And.intro Eo (And.intro EI (And.intro DQ (And.intro Ff DK)))))))))))
    simp [bodyPost, results, Tryz.results363, go_sem, hz]
    have Cy := eH 0 (.int .i64 Aj) Cw Be
    clear Cw
    have AY := ep 0 (.int .i64 Aj) Be
    have Dl := ew w 0 (.int .i64 Aj) BP qO
    clear Be BP
    have BS := eo CS Al 0 (.int .i64 Aj)
    have Cs := em Dg Az 0 (.int .i64 Aj)
    clear CS Dg
    have Da := eH 1 (.string ⟨Ah.toArray⟩) Cy AY
    clear Cy
    have Bi := ep 1 (.string ⟨Ah.toArray⟩) AY
    have Cz := ew w 1 (.string ⟨Ah.toArray⟩) Dl qO
    clear AY Dl
    have Dj := eo BS Al 1 (.string ⟨Ah.toArray⟩)
    have CE := em Cs Az 1 (.string ⟨Ah.toArray⟩)
    clear BS Cs
    have BT := eH 2 (.slice Ad Ac.length Ae) Da Bi
    clear Da
    have Bp := ep 2 (.slice Ad Ac.length Ae) Bi
    have CU := ew w 2 (.slice Ad Ac.length Ae) Cz qO
    clear Bi Cz
    have CW := eo Dj Al 2 (.slice Ad Ac.length Ae)
    have Cf := em CE Az 2 (.slice Ad Ac.length Ae)
    clear Dj CE
    have Fz := eH 3 (.int .i64 0) BT Bp
    clear BT
    have FZ := ep 3 (.int .i64 0) Bp
    have FV := ew w 3 (.int .i64 0) CU qO
    clear Bp CU
    have Ew := eo CW Al 3 (.int .i64 0)
    have El := em Cf Az 3 (.int .i64 0)
    clear CW Cf
    exact .of_ok DA.out (⟨_, rfl, Fz.out⟩) Ew.out El.out
 · have ho := gc (fc ho (by simp [hk]))
   have hk' : ¬ ((kd (kt L) s.n : Nat) : Int) = 3 := by omega
   cases hm : eT (kt L) s.n [45] with
   | true =>
    have HO := ec (fs ho hm)
    have Aa := ec (fun w h => fm R L N s st w h 0 (by omega))
    rw [show s.n + 0 = s.n from rfl] at Aa
    have CN := ec (ib L s.n (eI L N s.n) [45])
    rw [hm] at CN
    clear ho hk hm
    go_enter Tryz.func363, Tryz.ntmps363
    have B1 : Below _ _ ((w).alloc (.cells #[.int .i64 0, .string ⟨#[]⟩, .slice none 0 0, .int .i64 0] 192)) := (Below.refl _ _).alloc (Nat.le_refl _) _
    have Q1 : Hid (R < w.heap.size) := ec H.out.lt
    have G1 : Hid (w.heap.size ≤ w.heap.size) := ec F.out.size
    have Ck := ec (heap_alloc_new (w) (.cells #[.int .i64 0, .string ⟨#[]⟩, .slice none 0 0, .int .i64 0] 192))
    have H1 := ec (H.out.below B1)
    have F1 := ec (F.out.trans (Fq.of_below B1))
    clear H F B1
    go_wp2_with fail
    refine (Aa.out _ H1.out).mono ?_
    rintro _ w2 ⟨rfl, hb⟩
    have Bc := eK hb Ck
    clear Ck
    have H2 := ec (H1.out.below hb)
    have F2 := ec (F1.out.trans (Fq.of_below hb))
    clear hb H1 F1
    obtain ⟨EC, EM, DS, DG, y3⟩ := fy Bc.out
    go_wp2_with fail
    refine (Aa.out _ H2.out).mono ?_
    rintro _ w4 ⟨rfl, hb⟩
    clear EC EM DS DG y3
    have Bu := eK hb Bc
    clear Bc
    have H4 := ec (H2.out.below hb)
    have F4 := ec (F2.out.trans (Fq.of_below hb))
    clear hb H2 F2
    obtain ⟨DP, DM, DR, Ej, y5⟩ := fy Bu.out
    go_wp2_with fail
    refine (CN.out _).mono ?_
    rintro _ w6 ⟨rfl, hb⟩
    clear DP DM DR Ej y5
    have AX := eK hb Bu
    clear Bu
    have H6 := ec (H4.out.below hb)
    have F6 := ec (F4.out.trans (Fq.of_below hb))
    clear hb H4 F4
    obtain ⟨EG, Fe, Ea, ES, y7⟩ := fy AX.out
    have C8 := ec (kM R L N s st _ H6.out _ rfl)
    go_wp2_with fail
    refine C8.out.mono ?_
    intro e w8 he
    rcases he.split with ⟨a8, s8, v8, ho, rfl, hv, hR, hF⟩ | ⟨c, m, ho, rfl, hF⟩
    rotate_left 1
    · exact eg rfl (.of_bad (el HO.out ho) (F6.out.trans hF))
    clear EG Fe Ea ES y7
    have Fb := ec (ej HO.out ho)
    have AO := eW hF AX Q1
    clear AX
    have H8 := ec hR
    have F8 := ec (F6.out.trans hF)
    cases hv
    clear he ho hR hF C8 H6 F6 HO
    obtain ⟨EB, Fl, DT, Fc, y9⟩ := fy AO.out
    go_wp2_with fail
    have hz := (And.intro EB (And.intro Fl (And.intro DT (And.intro Fc y9))))
    simp [bodyPost, results, Tryz.results363, go_sem, hz]
    have Ch := ep 0 (.int .i64 0) AO
    clear AO
    have Df := eo H8 Q1 0 (.int .i64 0)
    have CK := em F8 G1 0 (.int .i64 0)
    clear H8 F8
    have De := ep 1 (.string ⟨#[]⟩) Ch
    clear Ch
    have BV := eo Df Q1 1 (.string ⟨#[]⟩)
    have CD := em CK G1 1 (.string ⟨#[]⟩)
    clear Df CK
    have CP := ep 2 (.slice none 0 0) De
    clear De
    have BR := eo BV Q1 2 (.slice none 0 0)
    have Dv := em CD G1 2 (.slice none 0 0)
    clear BV CD
    have FX := ep 3 (.int .i64 a8) CP
    clear CP
    have FJ := eo BR Q1 3 (.int .i64 a8)
    have ER := em Dv G1 3 (.int .i64 a8)
    clear BR Dv
    exact .of_ok Fb.out (⟨_, rfl, Rows.nil _ _ _ _ _⟩) FJ.out ER.out
   | false =>
    have HO := ec (fc ho hm)
    have Aa := ec (fun w h => fm R L N s st w h 0 (by omega))
    rw [show s.n + 0 = s.n from rfl] at Aa
    have CN := ec (ib L s.n (eI L N s.n) [45])
    rw [hm] at CN
    clear ho hk hm
    go_enter Tryz.func363, Tryz.ntmps363
    have Bj : Below _ _ ((w).alloc (.cells #[.int .i64 0, .string ⟨#[]⟩, .slice none 0 0, .int .i64 0] 192)) := (Below.refl _ _).alloc (Nat.le_refl _) _
    have Ao : Hid (R < w.heap.size) := ec H.out.lt
    have AC : Hid (w.heap.size ≤ w.heap.size) := ec F.out.size
    have BB := ec (heap_alloc_new (w) (.cells #[.int .i64 0, .string ⟨#[]⟩, .slice none 0 0, .int .i64 0] 192))
    have Bw := ec (H.out.below Bj)
    have Dq := ec (F.out.trans (Fq.of_below Bj))
    clear H F Bj
    go_wp2_with fail
    refine (Aa.out _ Bw.out).mono ?_
    rintro _ Gh ⟨rfl, hb⟩
    have Bl := eK hb BB
    clear BB
    have AR := ec (Bw.out.below hb)
    have CF := ec (Dq.out.trans (Fq.of_below hb))
    clear hb Bw Dq
    obtain ⟨DE, EZ, Ex, Fd, Eh⟩ := fy Bl.out
    go_wp2_with fail
    refine (Aa.out _ AR.out).mono ?_
    rintro _ FU ⟨rfl, hb⟩
    clear DE EZ Ex Fd Eh
    have AK := eK hb Bl
    clear Bl
    have Cb := ec (AR.out.below hb)
    have Cc := ec (CF.out.trans (Fq.of_below hb))
    clear hb AR CF
    obtain ⟨EX, EV, EL, Ev, FI⟩ := fy AK.out
    go_wp2_with fail
    refine (CN.out _).mono ?_
    rintro _ Am ⟨rfl, hb⟩
    clear EX EV EL Ev FI
    have Ap := eK hb AK
    clear AK
    have Bv := ec (Cb.out.below hb)
    have Bb := ec (Cc.out.trans (Fq.of_below hb))
    clear hb Cb Cc
    obtain ⟨Eg, DJ, Fh, Fw, EO⟩ := fy Ap.out
    have AB : Below _ _ ((Am).alloc (.cells #[.int .i64 1, .string ⟨#[]⟩, .slice none 0 0, .int .i64 0] 192)) := (Below.refl _ _).alloc (Nat.le_refl _) _
    have Ax : Hid (R < Am.heap.size) := ec Bv.out.lt
    have CY : Hid (w.heap.size ≤ Am.heap.size) := ec Bb.out.size
    have qN : Hid (w.heap.size ≠ Am.heap.size) := ec (Nat.ne_of_lt (eN Ap.out))
    have qO : Hid (Am.heap.size ≠ w.heap.size) := ec (Nat.ne_of_gt (eN Ap.out))
    have Cp := ec ((AB.block _ (eN Ap.out)).trans Ap.out)
    clear Ap
    have AS := ec (heap_alloc_new (Am) (.cells #[.int .i64 1, .string ⟨#[]⟩, .slice none 0 0, .int .i64 0] 192))
    have Cv := ec (Bv.out.below AB)
    have AN := ec (Bb.out.trans (Fq.of_below AB))
    clear Bv Bb AB
    have BK := ec (gv R L N s st _ Cv.out _ rfl)
    go_wp2_with fail
    refine BK.out.mono ?_
    intro e Go he
    rcases he.split with ⟨Ai, Fn, FW, ho, rfl, hv, hR, hF⟩ | ⟨c, m, ho, rfl, hF⟩
    rotate_left 1
    · exact eg rfl (.of_bad (el HO.out ho) (AN.out.trans hF))
    clear Eg DJ Fh Fw EO
    have As := ec (ej HO.out ho)
    have AI := eW hF Cp Ao
    clear Cp
    have AZ := eW hF AS Ax
    clear AS
    have BD := ec hR
    have CA := ec (AN.out.trans hF)
    cases hv
    clear he ho hR hF BK Cv AN HO
    obtain ⟨FL, FB, EP, EF, Ez⟩ := fy AI.out
    obtain ⟨FF, Eu, EY, FO, Er⟩ := fy AZ.out
    have Et := qN.out
    have Ef := qO.out
    have Dw := ew Am 1 (.string ⟨Ai.toArray⟩) AI qN
    have Dm := ep 1 (.string ⟨Ai.toArray⟩) AZ
    clear AI AZ
    have CI := eo BD Ax 1 (.string ⟨Ai.toArray⟩)
    have Aw := em CA CY 1 (.string ⟨Ai.toArray⟩)
    clear BD CA
    have Ca := ec (lE R L N Fn st _ CI.out _ rfl)
    go_wp2_with fail
    refine Ca.out.mono ?_
    intro e Gp he
    rcases he.split with ⟨Ab, Gm, Gv, ho, rfl, hv, hR, hF⟩ | ⟨c, m, ho, rfl, hF⟩
    rotate_left 1
    · exact eg rfl (.of_bad (el As.out ho) (Aw.out.trans hF))
    clear FL FB EP EF Ez FF Eu EY FO Er Et Ef
    have Dz := ec (ej As.out ho)
    have Br := eW hF Dw Ao
    clear Dw
    have Ay := eW hF Dm Ax
    clear Dm
    have Ci := ec hR
    have BX := ec (Aw.out.trans hF)
    obtain ⟨Af, Ag, rfl⟩ := ed hv
    have CJ := ec (Strs.mono hv fun g hg => Nat.le_trans Aw.out.size hg)
    clear hv
    clear he ho hR hF Ca CI Aw As
    obtain ⟨FE, Fr, Eb, FR, FC⟩ := fy Br.out
    obtain ⟨DW, Fx, FK, Es, FM⟩ := fy Ay.out
    have FQ := qN.out
    have DV := qO.out
    have BW := eH 2 (.slice Af Ab.length Ag) CJ Ay
    clear CJ
    have Bh := ew Am 2 (.slice Af Ab.length Ag) Br qN
    have Dc := ep 2 (.slice Af Ab.length Ag) Ay
    clear Br Ay
    have CX := eo Ci Ax 2 (.slice Af Ab.length Ag)
    have Do := em BX CY 2 (.slice Af Ab.length Ag)
    clear Ci BX
    go_wp2_with fail
    have hz := (And.intro FE (And.intro Fr (And.intro Eb (And.intro FR (And.intro FC (And.intro DW (And.intro Fx (And.intro FK (And.intro Es (And.intro FM (And.intro FQ DV)))))))))))
    simp [bodyPost, results, Tryz.results363, go_sem, hz]
    have CV := eH 0 (.int .i64 1) BW Bh
    clear BW
    have Bt := ep 0 (.int .i64 1) Bh
    have CL := ew w 0 (.int .i64 1) Dc qO
    clear Bh Dc
    have Di := eo CX Ao 0 (.int .i64 1)
    have Dr := em Do AC 0 (.int .i64 1)
    clear CX Do
    have Dp := eH 1 (.string ⟨Ai.toArray⟩) CV Bt
    clear CV
    have AP := ep 1 (.string ⟨Ai.toArray⟩) Bt
    have BI := ew w 1 (.string ⟨Ai.toArray⟩) CL qO
    clear Bt CL
    have Cm := eo Di Ao 1 (.string ⟨Ai.toArray⟩)
    have BU := em Dr AC 1 (.string ⟨Ai.toArray⟩)
    clear Di Dr
    have BN := eH 2 (.slice Af Ab.length Ag) Dp AP
    clear Dp
    have Bn := ep 2 (.slice Af Ab.length Ag) AP
    have Ce := ew w 2 (.slice Af Ab.length Ag) BI qO
    clear AP BI
    have Co := eo Cm Ao 2 (.slice Af Ab.length Ag)
    have Dx := em BU AC 2 (.slice Af Ab.length Ag)
    clear Cm BU
    have FA := eH 3 (.int .i64 0) BN Bn
    clear BN
    have FY := ep 3 (.int .i64 0) Bn
    have Gn := ew w 3 (.int .i64 0) Ce qO
    clear Bn Ce
    have Fm := eo Co Ao 3 (.int .i64 0)
    have DC := em Dx AC 3 (.int .i64 0)
    clear Co Dx
    exact .of_ok Dz.out (⟨_, rfl, FA.out⟩) Fm.out DC.out
theorem yv (h : Rd R L N s st w) (o : Out ft) (ho : lW FN (kt L) s = o) :
    Calls Tryz.prog 347 #[.pointer (some ⟨R, 0, none⟩)] w (Ends R L N st w (kg (fo w)) o) := by
 have HO := ec ho
 have H := ec h
 have F := ec (Fq.refl R w)
 clear h ho
 go_enter Tryz.func347, Tryz.ntmps347
 have Au : Below _ _ ((w).alloc (.cells #[.int .i64 0, .string ⟨#[]⟩, .slice none 0 0, .int .i64 0] 192)) := (Below.refl _ _).alloc (Nat.le_refl _) _
 have Ac : Hid (R < w.heap.size) := ec H.out.lt
 have Ad : Hid (w.heap.size ≤ w.heap.size) := ec F.out.size
 have An := ec (heap_alloc_new (w) (.cells #[.int .i64 0, .string ⟨#[]⟩, .slice none 0 0, .int .i64 0] 192))
 have AC := ec (H.out.below Au)
 have Ak := ec (F.out.trans (Fq.of_below Au))
 clear H F Au
 have AE := ec (rZ R L N s st _ AC.out _ rfl)
 go_wp2_with fail
 refine AE.out.mono ?_
 intro e Ab he
 rcases he.split with ⟨Aa, AD, Bb, ho, rfl, hv, hR, hF⟩ | ⟨c, m, ho, rfl, hF⟩
 rotate_left 1
 · exact eg rfl (.of_bad (el HO.out ho) (Ak.out.trans hF))
 have At := ec (ej HO.out ho)
 have q0 := eW hF An Ac
 clear An
 have Af := ec hR
 have Ag := ec (Ak.out.trans hF)
 obtain ⟨AY, rfl, q1⟩ := hv
 obtain ⟨q2, q3, rfl⟩ := ed q1
 have q4 := ec (Strs.mono q1 fun g hg => Nat.le_trans Ak.out.size hg)
 clear q1
 clear he ho hR hF AE AC Ak HO
 obtain ⟨q5, q6, q7, q8, Az⟩ := fy q0.out
 have HOm := ec (gc At.out)
 clear At
 have c4 := (Af.out.below ((Below.refl _ _).alloc (Nat.le_refl _) (.cells #[.int .i64 Aa.coef, .string ⟨Aa.pred.toArray⟩, .slice q2 Aa.args.length q3, .int .i64 Aa.value] 192))).c4
 cases hmm : AD.minus with
 | false =>
  rw [hmm] at c4
  have HO := ec (fc HOm.out hmm)
  clear hmm
  have Ai : Below _ _ ((Ab).alloc (.cells #[.int .i64 Aa.coef, .string ⟨Aa.pred.toArray⟩, .slice q2 Aa.args.length q3, .int .i64 Aa.value] 192)) := (Below.refl _ _).alloc (Nat.le_refl _) _
  have AZ : Hid (R < Ab.heap.size) := ec Af.out.lt
  have Ba : Hid (w.heap.size ≤ Ab.heap.size) := ec Ag.out.size
  have q9 : Hid (w.heap.size ≠ Ab.heap.size) := ec (Nat.ne_of_lt (eN q0.out))
  have qa : Hid (Ab.heap.size ≠ w.heap.size) := ec (Nat.ne_of_gt (eN q0.out))
  have qb := ec ((Ai.block _ (eN q0.out)).trans q0.out)
  clear q0
  have qc := ec (Strs.keep q4.out (Kp.of_below (T := [9]) Ai) (by decide))
  clear q4
  have Aj := ec (heap_alloc_new (Ab) (.cells #[.int .i64 Aa.coef, .string ⟨Aa.pred.toArray⟩, .slice q2 Aa.args.length q3, .int .i64 Aa.value] 192))
  have AH := ec (Af.out.below Ai)
  have AF := ec (Ag.out.trans (Fq.of_below Ai))
  clear Af Ag Ai
  obtain ⟨qd, qe, qf, qg, AR⟩ := fy qb.out
  obtain ⟨qh, qi, qj, qk, AS⟩ := fy Aj.out
  have AQ := q9.out
  have AV := qa.out
  go_wp2_with fail
  have hz := (And.intro q5 (And.intro q6 (And.intro q7 (And.intro q8 (And.intro Az (And.intro qd (And.intro qe (And.intro qf (And.intro qg (And.intro AR (And.intro qh (And.intro qi (And.intro qj (And.intro qk (And.intro AS (And.intro AQ (And.intro AV c4)))))))))))))))))
  simp [bodyPost, results, Tryz.results347, go_sem, hz]
  have ql := eH 0 (.int .i64 Aa.coef) qc qb
  clear qc
  have qm := ep 0 (.int .i64 Aa.coef) qb
  have qn := ew w 0 (.int .i64 Aa.coef) Aj qa
  clear qb Aj
  have Ay := eo AH Ac 0 (.int .i64 Aa.coef)
  have AB := em AF Ad 0 (.int .i64 Aa.coef)
  clear AH AF
  have qo := eH 1 (.string ⟨Aa.pred.toArray⟩) ql qm
  clear ql
  have qp := ep 1 (.string ⟨Aa.pred.toArray⟩) qm
  have qq := ew w 1 (.string ⟨Aa.pred.toArray⟩) qn qa
  clear qm qn
  have AG := eo Ay Ac 1 (.string ⟨Aa.pred.toArray⟩)
  have AA := em AB Ad 1 (.string ⟨Aa.pred.toArray⟩)
  clear Ay AB
  have qr := eH 2 (.slice q2 Aa.args.length q3) qo qp
  clear qo
  have qs := ep 2 (.slice q2 Aa.args.length q3) qp
  have qt := ew w 2 (.slice q2 Aa.args.length q3) qq qa
  clear qp qq
  have Am := eo AG Ac 2 (.slice q2 Aa.args.length q3)
  have Aq := em AA Ad 2 (.slice q2 Aa.args.length q3)
  clear AG AA
  have qu := eH 3 (.int .i64 Aa.value) qr qs
  clear qr
  have qv := ep 3 (.int .i64 Aa.value) qs
  have qw := ew w 3 (.int .i64 Aa.value) qt qa
  clear qs qt
  have AK := eo Am Ac 3 (.int .i64 Aa.value)
  have AL := em Aq Ad 3 (.int .i64 Aa.value)
  clear Am Aq
  exact .of_ok HO.out (⟨_, rfl, qu.out⟩) AK.out AL.out
 | true =>
  rw [hmm] at c4
  have HO := ec (fs HOm.out hmm)
  clear hmm
  obtain ⟨m1, AU⟩ : ∃ x, IntKind.i64.wrap (-Aa.coef) = x := ⟨_, rfl⟩
  obtain ⟨m2, AT⟩ : ∃ x, IntKind.i64.wrap (-Aa.value) = x := ⟨_, rfl⟩
  have HO := ec (show Out.ok (⟨m1, Aa.pred, Aa.args, m2⟩ : ft) AD = o by rw [← AU, ← AT]; exact HO.out)
  have Ae : Below _ _ ((Ab).alloc (.cells #[.int .i64 m1, .string ⟨Aa.pred.toArray⟩, .slice q2 Aa.args.length q3, .int .i64 m2] 192)) := (Below.refl _ _).alloc (Nat.le_refl _) _
  have AW : Hid (R < Ab.heap.size) := ec Af.out.lt
  have AX : Hid (w.heap.size ≤ Ab.heap.size) := ec Ag.out.size
  have q9 : Hid (w.heap.size ≠ Ab.heap.size) := ec (Nat.ne_of_lt (eN q0.out))
  have qa : Hid (Ab.heap.size ≠ w.heap.size) := ec (Nat.ne_of_gt (eN q0.out))
  have qx := ec ((Ae.block _ (eN q0.out)).trans q0.out)
  clear q0
  have qy := ec (Strs.keep q4.out (Kp.of_below (T := [9]) Ae) (by decide))
  clear q4
  have Ah := ec (heap_alloc_new (Ab) (.cells #[.int .i64 m1, .string ⟨Aa.pred.toArray⟩, .slice q2 Aa.args.length q3, .int .i64 m2] 192))
  have As := ec (Af.out.below Ae)
  have Al := ec (Ag.out.trans (Fq.of_below Ae))
  clear Af Ag Ae
  obtain ⟨qz, qA, qB, qC, AO⟩ := fy qx.out
  obtain ⟨qD, qE, qF, qG, AN⟩ := fy Ah.out
  have AI := q9.out
  have AP := qa.out
  go_wp2_with fail
  have hz := (And.intro q5 (And.intro q6 (And.intro q7 (And.intro q8 (And.intro Az (And.intro qz (And.intro qA (And.intro qB (And.intro qC (And.intro AO (And.intro qD (And.intro qE (And.intro qF (And.intro qG (And.intro AN (And.intro AI (And.intro AP c4)))))))))))))))))
  simp [bodyPost, results, Tryz.results347, go_sem, hz]
  have qH := eH 0 (.int .i64 m1) qy qx
  clear qy
  have qI := ep 0 (.int .i64 m1) qx
  have qJ := ew w 0 (.int .i64 m1) Ah qa
  clear qx Ah
  have Av := eo As Ac 0 (.int .i64 m1)
  have Ax := em Al Ad 0 (.int .i64 m1)
  clear As Al
  have qK := eH 1 (.string ⟨Aa.pred.toArray⟩) qH qI
  clear qH
  have qL := ep 1 (.string ⟨Aa.pred.toArray⟩) qI
  have qM := ew w 1 (.string ⟨Aa.pred.toArray⟩) qJ qa
  clear qI qJ
  have Aw := eo Av Ac 1 (.string ⟨Aa.pred.toArray⟩)
  have Ao := em Ax Ad 1 (.string ⟨Aa.pred.toArray⟩)
  clear Av Ax
  have qN := eH 2 (.slice q2 Aa.args.length q3) qK qL
  clear qK
  have qO := ep 2 (.slice q2 Aa.args.length q3) qL
  have qP := ew w 2 (.slice q2 Aa.args.length q3) qM qa
  clear qL qM
  have Ar := eo Aw Ac 2 (.slice q2 Aa.args.length q3)
  have Ap := em Ao Ad 2 (.slice q2 Aa.args.length q3)
  clear Aw Ao
  have qQ := eH 3 (.int .i64 m2) qN qO
  clear qN
  have qR := ep 3 (.int .i64 m2) qO
  have qS := ew w 3 (.int .i64 m2) qP qa
  clear qO qP
  have AJ := eo Ar Ac 3 (.int .i64 m2)
  have AM := em Ap Ad 3 (.int .i64 m2)
  clear Ar Ap
  exact .of_ok HO.out (⟨_, rfl, qQ.out⟩) AJ.out AM.out
theorem wV {K : fQ} {s u : RS} (h : oZ K s = .ok true u) : s.n < u.n := by
 obtain ⟨m, v, h1, h2⟩ := eQ.1 h
 have h3 := io h2
 cases m with
 | true =>
  have h5 := gC (t := [45]) h1
  cases h3
  exact h5
 | false =>
  have := (gj [45]).le _ _ _ _ h1
  have h4 := gC (t := [43]) (K := K) (fc h3 rfl)
  exact Nat.lt_of_le_of_lt this h4
theorem tE (h : Rd R L N s st w) (o : Out (List ft)) (ho : nT FN (kt L) s = o) :
    Calls Tryz.prog 325 #[.pointer (some ⟨R, 0, none⟩)] w (Ends R L N st w (Terms (fo w)) o) := by
 have HO := ec ho
 have H := ec h
 have F := ec (Fq.refl R w)
 clear h ho
 have c4 := H.out.c4
 have f4 := H.out.frz 4
 have Aa := ec (io HO.out)
 have HS := ec (H.out.setMinus false)
 have FS := ec (F.out.set 4 (.bool false))
 clear H F HO
 go_enter Tryz.func325, Tryz.ntmps325
 have Ab := ec (pR R L N { s with minus := false } st _ (lW FN (kt L)) (fun s w h => yv R L N s st w h _ rfl) (oZ (kt L)) (fun s w h => zk R L N s st w h _ rfl) (fun s a u => wO FN _ s a u) (fun s u => wV) 8 HS.out _ rfl)
 go_wp2_with fail
 refine Ab.out.mono ?_
 intro e Ak he
 rcases he.split with ⟨Ag, Ah, Al, ho, rfl, hv, hR, hF⟩ | ⟨c, m, ho, rfl, hF⟩
 rotate_left 1
 · exact eg rfl (.of_bad (ho.symm.trans Aa.out) (FS.out.trans hF))
 have Ac := ec (ho.symm.trans Aa.out)
 have Ad := ec hR
 have Ae := ec (FS.out.trans hF)
 obtain ⟨Ai, Aj, rfl⟩ := ed hv
 have Af := ec (Terms.mono hv fun g hg => Nat.le_trans FS.out.size hg)
 clear hv
 clear he ho hR hF Ab HS FS Aa
 go_wp2_with fail
 go_ret
 exact .of_ok Ac.out Af.out Ad.out Ae.out
theorem nx (h : Rd R L N s st w) (o : Out jf) (ho : lz FN (kt L) s = o) :
    Calls Tryz.prog 299 #[.pointer (some ⟨R, 0, none⟩)] w (Ends R L N st w (tK (fo w)) o) := by
 have HO := ec ho
 have H := ec h
 have F := ec (Fq.refl R w)
 clear h ho
 go_enter Tryz.func299, Tryz.ntmps299
 have Aw : Below _ _ ((w).alloc (.cells #[.slice none 0 0, .int .i64 0, .slice none 0 0] 53)) := (Below.refl _ _).alloc (Nat.le_refl _) _
 have Ah : Hid (R < w.heap.size) := ec H.out.lt
 have Az : Hid (w.heap.size ≤ w.heap.size) := ec F.out.size
 have AC := ec (heap_alloc_new (w) (.cells #[.slice none 0 0, .int .i64 0, .slice none 0 0] 53))
 have AH := ec (H.out.below Aw)
 have As := ec (F.out.trans (Fq.of_below Aw))
 clear H F Aw
 have AU := ec (fM R L N s st _ [123] AH.out _ rfl)
 go_wp2_with fail
 refine AU.out.mono ?_
 intro e Bw he
 rcases he.split with ⟨Bx, Bb, BA, ho, rfl, hv, hR, hF⟩ | ⟨c, m, ho, rfl, hF⟩
 rotate_left 1
 · exact eg rfl (.of_bad (el HO.out ho) (As.out.trans hF))
 have Am := ec (ej HO.out ho)
 have q0 := eW hF AC Ah
 clear AC
 have AI := ec hR
 have Aq := ec (As.out.trans hF)
 cases hv
 clear he ho hR hF AU AH As HO
 obtain ⟨q1, q2, q3, Bn⟩ := fj q0.out
 have AG := ec (tE R L N Bb st _ AI.out _ rfl)
 go_wp2_with fail
 refine AG.out.mono ?_
 intro e Ae he
 rcases he.split with ⟨Af, Bk, BB, ho, rfl, hv, hR, hF⟩ | ⟨c, m, ho, rfl, hF⟩
 rotate_left 1
 · exact eg rfl (.of_bad (el Am.out ho) (Aq.out.trans hF))
 clear q1 q2 q3 Bn
 have Ao := ec (ej Am.out ho)
 have q4 := eW hF q0 Ah
 clear q0
 have AA := ec hR
 have Ax := ec (Aq.out.trans hF)
 obtain ⟨Ag, Ai, rfl⟩ := ed hv
 have AW := ec (Terms.mono hv fun g hg => Nat.le_trans Aq.out.size hg)
 clear hv
 clear he ho hR hF AG AI Aq Am
 obtain ⟨q5, q6, q7, Bg⟩ := fj q4.out
 have Ak : Below _ _ ((Ae).alloc (.cells #[.slice Ag Af.length Ai, .int .i64 0, .slice none 0 0] 53)) := (Below.refl _ _).alloc (Nat.le_refl _) _
 have Aj : Hid (R < Ae.heap.size) := ec AA.out.lt
 have AL : Hid (w.heap.size ≤ Ae.heap.size) := ec Ax.out.size
 have q8 : Hid (w.heap.size ≠ Ae.heap.size) := ec (Nat.ne_of_lt (eN q4.out))
 have q9 : Hid (Ae.heap.size ≠ w.heap.size) := ec (Nat.ne_of_gt (eN q4.out))
 have qa := ec ((Ak.block _ (eN q4.out)).trans q4.out)
 clear q4
 have qb := ec (Terms.keep AW.out (Kp.of_below (T := [9, 192]) Ak) (by decide) (by decide))
 clear AW
 have AB := ec (heap_alloc_new (Ae) (.cells #[.slice Ag Af.length Ai, .int .i64 0, .slice none 0 0] 53))
 have At := ec (AA.out.below Ak)
 have Av := ec (Ax.out.trans (Fq.of_below Ak))
 clear AA Ax Ak
 have AE := ec (D8 R L N Bk st _ At.out _ rfl)
 go_wp2_with fail
 refine AE.out.mono ?_
 intro e BD he
 rcases he.split with ⟨Ad, Bo, Bv, ho, rfl, hv, hR, hF⟩ | ⟨c, m, ho, rfl, hF⟩
 rotate_left 1
 · exact eg rfl (.of_bad (el Ao.out ho) (Av.out.trans hF))
 clear q5 q6 q7 Bg
 have Ar := ec (ej Ao.out ho)
 have qc := eW hF qa Ah
 clear qa
 have qd := eW hF AB Aj
 clear AB
 have qe := ec (Terms.keep qb.out (Kp.of_fq (T := [9, 192]) hF At.out (by decide)) (by decide) (by decide))
 clear qb
 have AR := ec hR
 have AP := ec (Av.out.trans hF)
 cases hv
 clear he ho hR hF AE At Av Ao
 obtain ⟨qf, qg, qh, Br⟩ := fj qc.out
 obtain ⟨qi, qj, qk, Bc⟩ := fj qd.out
 have Bq := q8.out
 have Bp := q9.out
 have ql := eV 1 (.int .i64 Ad) qe qd
 clear qe
 have qm := ew Ae 1 (.int .i64 Ad) qc q8
 have qn := ep 1 (.int .i64 Ad) qd
 clear qc qd
 have Ay := eo AR Aj 1 (.int .i64 Ad)
 have An := em AP AL 1 (.int .i64 Ad)
 clear AR AP
 have AD := ec (tE R L N Bo st _ Ay.out _ rfl)
 go_wp2_with fail
 refine AD.out.mono ?_
 intro e By he
 rcases he.split with ⟨Ac, AZ, Bu, ho, rfl, hv, hR, hF⟩ | ⟨c, m, ho, rfl, hF⟩
 rotate_left 1
 · exact eg rfl (.of_bad (el Ar.out ho) (An.out.trans hF))
 clear qf qg qh Br qi qj qk Bc Bq Bp
 have Ap := ec (ej Ar.out ho)
 have qo := eW hF qm Ah
 clear qm
 have qp := eW hF qn Aj
 clear qn
 have qq := ec (Terms.keep ql.out (Kp.of_fq (T := [9, 192]) hF Ay.out (by decide)) (by decide) (by decide))
 clear ql
 have AN := ec hR
 have AQ := ec (An.out.trans hF)
 obtain ⟨Ab, Aa, rfl⟩ := ed hv
 have AS := ec (Terms.mono hv fun g hg => Nat.le_trans An.out.size hg)
 clear hv
 clear he ho hR hF AD Ay An Ar
 obtain ⟨qr, qs, qt, Bm⟩ := fj qo.out
 obtain ⟨qu, qv, qw, AY⟩ := fj qp.out
 have Bd := q8.out
 have Be := q9.out
 have qx := eV 2 (.slice Ab Ac.length Aa) qq qp
 clear qq
 have qy := eV 2 (.slice Ab Ac.length Aa) AS qp
 clear AS
 have qz := ew Ae 2 (.slice Ab Ac.length Aa) qo q8
 have qA := ep 2 (.slice Ab Ac.length Aa) qp
 clear qo qp
 have Al := eo AN Aj 2 (.slice Ab Ac.length Aa)
 have Au := em AQ AL 2 (.slice Ab Ac.length Aa)
 clear AN AQ
 have AJ := ec (fM R L N AZ st _ [125] Al.out _ rfl)
 go_wp2_with fail
 refine AJ.out.mono ?_
 intro e BC he
 rcases he.split with ⟨Bt, Bs, Bz, ho, rfl, hv, hR, hF⟩ | ⟨c, m, ho, rfl, hF⟩
 rotate_left 1
 · exact eg rfl (.of_bad (el Ap.out ho) (Au.out.trans hF))
 clear qr qs qt Bm qu qv qw AY Bd Be
 have AX := ec (ej Ap.out ho)
 have qB := eW hF qz Ah
 clear qz
 have qC := eW hF qA Aj
 clear qA
 have qD := ec (Terms.keep qx.out (Kp.of_fq (T := [9, 192]) hF Al.out (by decide)) (by decide) (by decide))
 clear qx
 have qE := ec (Terms.keep qy.out (Kp.of_fq (T := [9, 192]) hF Al.out (by decide)) (by decide) (by decide))
 clear qy
 have AM := ec hR
 have AO := ec (Au.out.trans hF)
 cases hv
 clear he ho hR hF AJ Al Au Ap
 obtain ⟨qF, qG, qH, Ba⟩ := fj qB.out
 obtain ⟨qI, qJ, qK, Bl⟩ := fj qC.out
 have Bf := q8.out
 have Bh := q9.out
 go_wp2_with fail
 have hz := (And.intro qF (And.intro qG (And.intro qH (And.intro Ba (And.intro qI (And.intro qJ (And.intro qK (And.intro Bl (And.intro Bf Bh)))))))))
 simp [bodyPost, results, Tryz.results299, go_sem, hz]
 have qL := eV 0 (.slice Ag Af.length Ai) qD qB
 clear qD
 have qM := eV 0 (.slice Ag Af.length Ai) qE qB
 clear qE
 have qN := ep 0 (.slice Ag Af.length Ai) qB
 have qO := ew w 0 (.slice Ag Af.length Ai) qC q9
 clear qB qC
 have AK := eo AM Ah 0 (.slice Ag Af.length Ai)
 have AV := em AO Az 0 (.slice Ag Af.length Ai)
 clear AM AO
 have qP := eV 1 (.int .i64 Ad) qL qN
 clear qL
 have qQ := eV 1 (.int .i64 Ad) qM qN
 clear qM
 have qR := ep 1 (.int .i64 Ad) qN
 have qS := ew w 1 (.int .i64 Ad) qO q9
 clear qN qO
 have AF := eo AK Ah 1 (.int .i64 Ad)
 have AT := em AV Az 1 (.int .i64 Ad)
 clear AK AV
 have qT := eV 2 (.slice Ab Ac.length Aa) qP qR
 clear qP
 have qU := eV 2 (.slice Ab Ac.length Aa) qQ qR
 clear qQ
 have qV := ep 2 (.slice Ab Ac.length Aa) qR
 have qW := ew w 2 (.slice Ab Ac.length Aa) qS q9
 clear qR qS
 have Bj := eo AF Ah 2 (.slice Ab Ac.length Aa)
 have Bi := em AT Az 2 (.slice Ab Ac.length Aa)
 clear AF AT
 exact .of_ok AX.out (⟨_, _, rfl, qT.out, qU.out⟩) Bj.out Bi.out
end
end Go.Proofs.YtbpphlmakmeoaaaGreatDoor.Sy
