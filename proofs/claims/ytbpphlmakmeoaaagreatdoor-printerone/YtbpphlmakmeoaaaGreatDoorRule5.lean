import Derived.Test.YtbpphlmakmeoaaaGreatDoorPrem5
set_option maxRecDepth 100000
set_option maxHeartbeats 1600000
namespace Go.Proofs.YtbpphlmakmeoaaaGreatDoor.Sy
open Go.RowKit
theorem ko {α β γ : Type} {x : M α} {g : α → M β} {f : β → M γ} {s : RS} {o : Out γ} (h : ((x >>= g) >>= f) s = o) : (x >>= fun a => g a >>= f) s = o := by
 rw [← h]
 show (match x s with | .ok a t => (g a >>= f) t | .bad e n => .bad e n) = (match (match x s with | .ok a t => g a t | .bad e n => .bad e n) with | .ok a t => f a t | .bad e n => .bad e n)
 cases x s with
 | ok a t => rfl
 | bad e n => rfl
theorem o8 {α β : Type} {A B : M α} {f : α → M β} {s : RS} {o : Out β} {c : Bool} (h : ((if c = true then A else B) >>= f) s = o) (hc : c = true) : (A >>= f) s = o := by rw [if_pos hc] at h; exact h
theorem ps {α β : Type} {A B : M α} {f : α → M β} {s : RS} {o : Out β} {c : Bool} (h : ((if c = true then A else B) >>= f) s = o) (hc : c = false) : (B >>= f) s = o := by rw [if_neg (by simp [hc])] at h; exact h
theorem kL {α β : Type} {a : α} {f : α → M β} {s : RS} {o : Out β} (h : ((pure a : M α) >>= f) s = o) : f a s = o := h
theorem nt (F : j5) : Eats (jo F) :=
 .ask fun b => .ite b nX (.ask fun b => .ite b (.bind (oV F) fun _ => .pure _) (.bind (nk F) fun _ => .pure _))
section
variable (R : Nat) (L : List fw) (N : Nat) (s : RS) (st : St9) (w : World)
theorem yn (h : Rd R L N s st w) (o : Out gI) (ho : lX FN (kt L) s = o) :
    Calls Tryz.prog 194 #[.pointer (some ⟨R, 0, none⟩)] w (Ends R L N st w (vW (fo w)) o) := by
 have HO := ec ho
 have H := ec h
 have F := ec (Fq.refl R w)
 clear h ho
 go_enter Tryz.func194, Tryz.ntmps194
 have B1 : Below _ _ ((w).alloc (.cells #[.string ⟨#[]⟩, .string ⟨#[]⟩, .int .i64 0, .int .i64 0, .slice none 0 0, .int .i64 0, .bool false, .string ⟨#[]⟩, .slice none 0 0, .bool false, .int .i64 0] 49)) := (Below.refl _ _).alloc (Nat.le_refl _) _
 have Q1 : Hid (R < w.heap.size) := ec H.out.lt
 have G1 : Hid (w.heap.size ≤ w.heap.size) := ec F.out.size
 have GA := ec (heap_alloc_new (w) (.cells #[.string ⟨#[]⟩, .string ⟨#[]⟩, .int .i64 0, .int .i64 0, .slice none 0 0, .int .i64 0, .bool false, .string ⟨#[]⟩, .slice none 0 0, .bool false, .int .i64 0] 49))
 have H1 := ec (H.out.below B1)
 have F1 := ec (F.out.trans (Fq.of_below B1))
 clear H F B1
 have C2 := ec (gv R L N s st _ H1.out _ rfl)
 go_wp2_with fail
 refine C2.out.mono ?_
 intro e w2 he
 rcases he.split with ⟨a2, s2, v2, ho, rfl, hv, hR, hF⟩ | ⟨c, m, ho, rfl, hF⟩
 rotate_left 1
 · exact eg rfl (.of_bad (el HO.out ho) (F1.out.trans hF))
 have Fc := ec (ej HO.out ho)
 have q0 := eW hF GA Q1
 clear GA
 have H2 := ec hR
 have F2 := ec (F1.out.trans hF)
 cases hv
 clear he ho hR hF C2 H1 F1 HO
 obtain ⟨q1, q2, q3, q4, q5, q6, q7, q8, q9, qa, qb, y3⟩ := eF q0.out
 have B4 : Below _ _ ((w2).alloc (.cells #[.string ⟨a2.toArray⟩, .string ⟨#[]⟩, .int .i64 0, .int .i64 0, .slice none 0 0, .int .i64 0, .bool false, .string ⟨#[]⟩, .slice none 0 0, .bool false, .int .i64 0] 49)) := (Below.refl _ _).alloc (Nat.le_refl _) _
 have Q4 : Hid (R < w2.heap.size) := ec H2.out.lt
 have G4 : Hid (w.heap.size ≤ w2.heap.size) := ec F2.out.size
 have qc : Hid (w.heap.size ≠ w2.heap.size) := ec (Nat.ne_of_lt (eN q0.out))
 have qd : Hid (w2.heap.size ≠ w.heap.size) := ec (Nat.ne_of_gt (eN q0.out))
 have qe := ec ((B4.block _ (eN q0.out)).trans q0.out)
 clear q0
 have HD := ec (heap_alloc_new (w2) (.cells #[.string ⟨a2.toArray⟩, .string ⟨#[]⟩, .int .i64 0, .int .i64 0, .slice none 0 0, .int .i64 0, .bool false, .string ⟨#[]⟩, .slice none 0 0, .bool false, .int .i64 0] 49))
 have H4 := ec (H2.out.below B4)
 have F4 := ec (F2.out.trans (Fq.of_below B4))
 clear H2 F2 B4
 have C5 := ec (j6 R L N s2 st _ [111, 102] H4.out _ rfl)
 go_wp2_with fail
 refine C5.out.mono ?_
 intro e w5 he
 rcases he.split with ⟨a5, s5, v5, ho, rfl, hv, hR, hF⟩ | ⟨c, m, ho, rfl, hF⟩
 rotate_left 1
 · exact eg rfl (.of_bad (el Fc.out ho) (F4.out.trans hF))
 clear q1 q2 q3 q4 q5 q6 q7 q8 q9 qa qb y3
 have FC := ec (ej Fc.out ho)
 have qf := eW hF qe Q1
 clear qe
 have qg := eW hF HD Q4
 clear HD
 have H5 := ec hR
 have F5 := ec (F4.out.trans hF)
 cases hv
 clear he ho hR hF C5 H4 F4 Fc
 obtain ⟨qh, qi, qj, qk, ql, qm, qn, qo, qp, qq, qr, y6⟩ := eF qf.out
 obtain ⟨qs, qt, qu, qv, qw, qx, qy, qz, qA, qB, qC, y7⟩ := eF qg.out
 have x8 := qc.out
 have x9 := qd.out
 have Hx := ec (gv R L N s5 st _ H5.out _ rfl)
 go_wp2_with fail
 refine Hx.out.mono ?_
 intro e Yl he
 rcases he.split with ⟨Af, s10, Yc, ho, rfl, hv, hR, hF⟩ | ⟨c, m, ho, rfl, hF⟩
 rotate_left 1
 · exact eg rfl (.of_bad (el FC.out ho) (F5.out.trans hF))
 clear qh qi qj qk ql qm qn qo qp qq qr y6 qs qt qu qv qw qx qy qz qA qB qC y7 x8 x9
 have Bc := ec (ej FC.out ho)
 have qD := eW hF qf Q1
 clear qf
 have qE := eW hF qg Q4
 clear qg
 have LT := ec hR
 have Km := ec (F5.out.trans hF)
 cases hv
 clear he ho hR hF Hx H5 F5 FC
 obtain ⟨qF, qG, qH, qI, qJ, qK, qL, qM, qN, qO, qP, WH⟩ := eF qD.out
 obtain ⟨qQ, qR, qS, qT, qU, qV, qW, qX, qY, qZ, UC, Uo⟩ := eF qE.out
 have Vw := qc.out
 have RV := qd.out
 have Ji := ew w2 1 (.string ⟨Af.toArray⟩) qD qc
 have Ho := ep 1 (.string ⟨Af.toArray⟩) qE
 clear qD qE
 have Go := eo LT Q4 1 (.string ⟨Af.toArray⟩)
 have Dv := em Km G4 1 (.string ⟨Af.toArray⟩)
 clear LT Km
 have Ip := ec (j6 R L N s10 st _ [97, 116] Go.out _ rfl)
 go_wp2_with fail
 refine Ip.out.mono ?_
 intro e Yv he
 rcases he.split with ⟨Yk, RK, Yt, ho, rfl, hv, hR, hF⟩ | ⟨c, m, ho, rfl, hF⟩
 rotate_left 1
 · exact eg rfl (.of_bad (el Bc.out ho) (Dv.out.trans hF))
 clear qF qG qH qI qJ qK qL qM qN qO qP WH qQ qR qS qT qU qV qW qX qY qZ UC Uo Vw RV
 have Bb := ec (ej Bc.out ho)
 have Dh := eW hF Ji Q1
 clear Ji
 have Dr := eW hF Ho Q4
 clear Ho
 have Hh := ec hR
 have EP := ec (Dv.out.trans hF)
 cases hv
 clear he ho hR hF Ip Go Dv Bc
 obtain ⟨Qt, Pm, WJ, Su, NK, UV, Ug, UL, Sr, SC, Sn, OM⟩ := eF Dh.out
 obtain ⟨WY, Pp, Wz, RA, RF, Tb, UZ, PS, Ou, Wx, NI, PF⟩ := eF Dr.out
 have RP := qc.out
 have Ww := qd.out
 have HB := ec (mE R L N RK st _ Hh.out _ rfl)
 go_wp2_with fail
 refine HB.out.mono ?_
 intro e Ye he
 rcases he.split with ⟨Ae, PO, XU, ho, rfl, hv, hR, hF⟩ | ⟨c, m, ho, rfl, hF⟩
 rotate_left 1
 · exact eg rfl (.of_bad (el Bb.out ho) (EP.out.trans hF))
 clear Qt Pm WJ Su NK UV Ug UL Sr SC Sn OM WY Pp Wz RA RF Tb UZ PS Ou Wx NI PF RP Ww
 have Dn := ec (ej Bb.out ho)
 have DP := eW hF Dh Q1
 clear Dh
 have Fu := eW hF Dr Q4
 clear Dr
 have IA := ec hR
 have KX := ec (EP.out.trans hF)
 cases hv
 clear he ho hR hF HB Hh EP Bb
 obtain ⟨Tj, WR, On, Vt, Tq, Ox, VV, Ny, QX, SY, Un, VP⟩ := eF DP.out
 obtain ⟨WN, To, Wm, NC, Pf, Ru, Pt, Ql, UM, Oh, Th, QF⟩ := eF Fu.out
 have Tr := qc.out
 have SV := qd.out
 have IG := ew w2 2 (.int .i64 Ae) DP qc
 have JA := ep 2 (.int .i64 Ae) Fu
 clear DP Fu
 have La := eo IA Q4 2 (.int .i64 Ae)
 have DX := em KX G4 2 (.int .i64 Ae)
 clear IA KX
 have HOu := ec (ko Dn.out)
 clear Dn
 have Me := ec (gh R L N PO st _ [117, 110, 116, 105, 108] La.out _ rfl)
 go_wp2_with fail
 refine Me.out.mono ?_
 intro e Yj he
 rcases he.split with ⟨Td, IY, Ym, ho, rfl, hv, hR, hF⟩ | ⟨c, m, ho, rfl, hF⟩
 rotate_left 1
 · exact eg rfl (.of_bad (el HOu.out ho) (DX.out.trans hF))
 clear Tj WR On Vt Tq Ox VV Ny QX SY Un VP WN To Wm NC Pf Ru Pt Ql UM Oh Th QF Tr SV
 have AG := ec (ej HOu.out ho)
 have AR := eW hF IG Q1
 clear IG
 have AT := eW hF JA Q4
 clear JA
 have By := ec hR
 have AE := ec (DX.out.trans hF)
 cases hv
 clear he ho hR hF Me La DX HOu
 obtain ⟨HE, HC, Gd, JG, Gz, Iy, IQ, Lc, LE, HK, GH, Js⟩ := eF AR.out
 obtain ⟨IV, HG, Ha, Ll, KG, LG, Gb, IJ, Jp, Kq, JP, Hl⟩ := eF AT.out
 have HT := qc.out
 have Jn := qd.out
 cases Td with
 | false =>
  have HO := ec (kL (ps AG.out rfl))
  clear AG
  have JE := ec (fM R L N IY st _ [58] By.out _ rfl)
  go_wp2_with fail
  refine JE.out.mono ?_
  intro e Yw he
  rcases he.split with ⟨Yh, Ay, Yi, ho, rfl, hv, hR, hF⟩ | ⟨c, m, ho, rfl, hF⟩
  rotate_left 1
  · exact eg rfl (.of_bad (el HO.out ho) (AE.out.trans hF))
  clear HE HC Gd JG Gz Iy IQ Lc LE HK GH Js IV HG Ha Ll KG LG Gb IJ Jp Kq JP Hl HT Jn
  have EH := ec (ej HO.out ho)
  have AO := eW hF AR Q1
  clear AR
  have AU := eW hF AT Q4
  clear AT
  have AD := ec hR
  have BC := ec (AE.out.trans hF)
  cases hv
  clear he ho hR hF JE By AE HO
  obtain ⟨LH, II, Ly, Gy, JZ, HQ, FW, KB, KH, Ls, KU, Ju⟩ := eF AO.out
  obtain ⟨JO, Mh, LZ, GQ, JW, Hm, Ih, IL, Hq, Jl, KJ, If⟩ := eF AU.out
  have Kv := qc.out
  have LP := qd.out
  have HOb := ec (gc (ko EH.out))
  clear EH
  have CO := ec (lZ L Ay.n (eI L N Ay.n))
  have AC := ec (fun w h => fm R L N Ay st w h 0 (by omega))
  rw [show Ay.n + 0 = Ay.n from rfl] at AC
  cases har : decide (arrowAt (kt L) Ay.n = 0) with
  | false =>
   have HOc := ec (kL (ps HOb.out har))
   have hr' : ¬ ((arrowAt (kt L) Ay.n : Nat) : Int) = 0 := by simp at har; omega
   clear HOb har
   go_wp2_with fail
   refine (AC.out _ AD.out).mono ?_
   rintro _ XZ ⟨rfl, hb⟩
   clear LH II Ly Gy JZ HQ FW KB KH Ls KU Ju JO Mh LZ GQ JW Hm Ih IL Hq Jl KJ If Kv LP
   have CF := eK hb AO
   clear AO
   have De := eK hb AU
   clear AU
   have KE := ec (AD.out.below hb)
   have FV := ec (BC.out.trans (Fq.of_below hb))
   clear hb AD BC
   obtain ⟨Ut, WS, UX, Sk, Sx, Um, Xk, NX, SG, Tl, Pg, St⟩ := eF CF.out
   obtain ⟨Ry, Px, Rj, Xf, Ve, Nu, Sz, TM, Qu, WZ, Vb, Og⟩ := eF De.out
   have NP := qc.out
   have Qa := qd.out
   go_wp2_with fail
   refine (CO.out _).mono ?_
   rintro _ Yu ⟨rfl, hb⟩
   clear Ut WS UX Sk Sx Um Xk NX SG Tl Pg St Ry Px Rj Xf Ve Nu Sz TM Qu WZ Vb Og NP Qa
   have Cy := eK hb CF
   clear CF
   have Ds := eK hb De
   clear De
   have Ir := ec (KE.out.below hb)
   have BZ := ec (FV.out.trans (Fq.of_below hb))
   clear hb KE FV
   obtain ⟨TG, WP, Vd, Xo, NT, Qc, Vv, SO, SH, Nx, VX, QR⟩ := eF Cy.out
   obtain ⟨Ps, RM, Tc, ND, Vf, PU, Re, QB, Rm, UI, Vc, PQ⟩ := eF Ds.out
   have TI := qc.out
   have RI := qd.out
   have FX := ec (lS R L N Ay st _ Ir.out _ rfl)
   go_wp2_with fail
   refine FX.out.mono ?_
   intro e Ys he
   rcases he.split with ⟨AA, PY, XT, ho, rfl, hv, hR, hF⟩ | ⟨c, m, ho, rfl, hF⟩
   rotate_left 1
   · exact eg rfl (.of_bad (el HOc.out ho) (BZ.out.trans hF))
   clear TG WP Vd Xo NT Qc Vv SO SH Nx VX QR Ps RM Tc ND Vf PU Re QB Rm UI Vc PQ TI RI
   have Bd := ec (ej HOc.out ho)
   have DY := eW hF Cy Q1
   clear Cy
   have Dz := eW hF Ds Q4
   clear Ds
   have HJ := ec hR
   have HH := ec (BZ.out.trans hF)
   cases hv
   clear he ho hR hF FX Ir BZ HOc
   obtain ⟨Sh, Pl, RD, Of, NO, RH, WU, NE, Wo, Tp, UR, Oi⟩ := eF DY.out
   obtain ⟨Ud, Qj, RN, Rx, Qy, WE, WB, Po, Sb, Wu, VF, TR⟩ := eF Dz.out
   have Ui := qc.out
   have PR := qd.out
   have KS := ew w2 5 (.int .i64 AA) DY qc
   have Jb := ep 5 (.int .i64 AA) Dz
   clear DY Dz
   have HF := eo HJ Q4 5 (.int .i64 AA)
   have BV := em HH G4 5 (.int .i64 AA)
   clear HJ HH
   have GI := ec (i7 R L N PY st _ HF.out _ rfl)
   go_wp2_with fail
   refine GI.out.mono ?_
   intro e XR he
   rcases he.split with ⟨Ad, Yg, XQ, ho, rfl, hv, hR, hF⟩ | ⟨c, m, ho, rfl, hF⟩
   rotate_left 1
   · exact eg rfl (.of_bad (el Bd.out ho) (BV.out.trans hF))
   clear Sh Pl RD Of NO RH WU NE Wo Tp UR Oi Ud Qj RN Rx Qy WE WB Po Sb Wu VF TR Ui PR
   have MB := ec (ej Bd.out ho)
   have Et := eW hF KS Q1
   clear KS
   have BQ := eW hF Jb Q4
   clear Jb
   have JS := ec hR
   have Ki := ec (BV.out.trans hF)
   obtain ⟨XN, rfl, FP⟩ := hv
   obtain ⟨Aw, Av, rfl⟩ := ed FP
   have IH := ec (Strs.mono FP fun g hg => Nat.le_trans BV.out.size hg)
   clear FP
   clear he ho hR hF GI HF BV Bd
   obtain ⟨Wv, SX, OK, Ns, Tx, Qz, QQ, SS, Uz, Ov, Qi, Uh⟩ := eF Et.out
   obtain ⟨Vx, Py, Nm, Wp, Vz, TV, UW, Ri, TB, Oc, Rk, WW⟩ := eF BQ.out
   have Pv := qc.out
   have RL := qd.out
   have LS := eH 6 (.bool Ad.neg) IH BQ
   clear IH
   have Lu := ew w2 6 (.bool Ad.neg) Et qc
   have Fi := ep 6 (.bool Ad.neg) BQ
   clear Et BQ
   have FZ := eo JS Q4 6 (.bool Ad.neg)
   have JV := em Ki G4 6 (.bool Ad.neg)
   clear JS Ki
   have LK := eH 7 (.string ⟨Ad.pred.toArray⟩) LS Fi
   clear LS
   have Iw := ew w2 7 (.string ⟨Ad.pred.toArray⟩) Lu qc
   have Db := ep 7 (.string ⟨Ad.pred.toArray⟩) Fi
   clear Lu Fi
   have Mb := eo FZ Q4 7 (.string ⟨Ad.pred.toArray⟩)
   have Ku := em JV G4 7 (.string ⟨Ad.pred.toArray⟩)
   clear FZ JV
   have HX := eH 8 (.slice Aw Ad.args.length Av) LK Db
   clear LK
   have Kt := ew w2 8 (.slice Aw Ad.args.length Av) Iw qc
   have DC := ep 8 (.slice Aw Ad.args.length Av) Db
   clear Iw Db
   have Jh := eo Mb Q4 8 (.slice Aw Ad.args.length Av)
   have IU := em Ku G4 8 (.slice Aw Ad.args.length Av)
   clear Mb Ku
   have HY := eH 9 (.bool Ad.hasValue) HX DC
   clear HX
   have KV := ew w2 9 (.bool Ad.hasValue) Kt qc
   have CQ := ep 9 (.bool Ad.hasValue) DC
   clear Kt DC
   have GO := eo Jh Q4 9 (.bool Ad.hasValue)
   have KN := em IU G4 9 (.bool Ad.hasValue)
   clear Jh IU
   have Ht := eH 10 (.int .i64 Ad.value) HY CQ
   clear HY
   have CK := ew w2 10 (.int .i64 Ad.value) KV qc
   have Kz := ep 10 (.int .i64 Ad.value) CQ
   clear KV CQ
   have FY := eo GO Q4 10 (.int .i64 Ad.value)
   have Im := em KN G4 10 (.int .i64 Ad.value)
   clear GO KN
   go_wp2_with fail
   have hz := (And.intro Wv (And.intro SX (And.intro OK (And.intro Ns (And.intro Tx (And.intro Qz (And.intro QQ (And.intro SS (And.intro Uz (And.intro Ov (And.intro Qi (And.intro Uh (And.intro Vx (And.intro Py (And.intro Nm (And.intro Wp (And.intro Vz (And.intro TV (And.intro UW (And.intro Ri (And.intro TB (And.intro Oc (And.intro Rk (And.intro WW (And.intro Pv RL)))))))))))))))))))))))))
   simp [bodyPost, results, Tryz.results194, go_sem, hz]
   have GL := eH 0 (.string ⟨a2.toArray⟩) Ht CK
   clear Ht
   have Cn := ep 0 (.string ⟨a2.toArray⟩) CK
   have Lv := ew w 0 (.string ⟨a2.toArray⟩) Kz qd
   clear CK Kz
   have GR := eo FY Q1 0 (.string ⟨a2.toArray⟩)
   have JY := em Im G1 0 (.string ⟨a2.toArray⟩)
   clear FY Im
   have Mg := eH 1 (.string ⟨Af.toArray⟩) GL Cn
   clear GL
   have FS := ep 1 (.string ⟨Af.toArray⟩) Cn
   have KW := ew w 1 (.string ⟨Af.toArray⟩) Lv qd
   clear Cn Lv
   have LC := eo GR Q1 1 (.string ⟨Af.toArray⟩)
   have Il := em JY G1 1 (.string ⟨Af.toArray⟩)
   clear GR JY
   have KT := eH 2 (.int .i64 Ae) Mg FS
   clear Mg
   have EX := ep 2 (.int .i64 Ae) FS
   have KQ := ew w 2 (.int .i64 Ae) KW qd
   clear FS KW
   have Jm := eo LC Q1 2 (.int .i64 Ae)
   have Hg := em Il G1 2 (.int .i64 Ae)
   clear LC Il
   have Kc := eH 3 (.int .i64 0) KT EX
   clear KT
   have Dp := ep 3 (.int .i64 0) EX
   have Jv := ew w 3 (.int .i64 0) KQ qd
   clear EX KQ
   have Gi := eo Jm Q1 3 (.int .i64 0)
   have Kh := em Hg G1 3 (.int .i64 0)
   clear Jm Hg
   have IN := eH 4 (.slice none 0 0) Kc Dp
   clear Kc
   have CC := ep 4 (.slice none 0 0) Dp
   have LA := ew w 4 (.slice none 0 0) Jv qd
   clear Dp Jv
   have GY := eo Gi Q1 4 (.slice none 0 0)
   have LB := em Kh G1 4 (.slice none 0 0)
   clear Gi Kh
   have Hk := eH 5 (.int .i64 AA) IN CC
   clear IN
   have CG := ep 5 (.int .i64 AA) CC
   have IM := ew w 5 (.int .i64 AA) LA qd
   clear CC LA
   have IK := eo GY Q1 5 (.int .i64 AA)
   have Ia := em LB G1 5 (.int .i64 AA)
   clear GY LB
   have In := eH 6 (.bool Ad.neg) Hk CG
   clear Hk
   have Cj := ep 6 (.bool Ad.neg) CG
   have Jz := ew w 6 (.bool Ad.neg) IM qd
   clear CG IM
   have Jc := eo IK Q1 6 (.bool Ad.neg)
   have Ma := em Ia G1 6 (.bool Ad.neg)
   clear IK Ia
   have Ix := eH 7 (.string ⟨Ad.pred.toArray⟩) In Cj
   clear In
   have CZ := ep 7 (.string ⟨Ad.pred.toArray⟩) Cj
   have GK := ew w 7 (.string ⟨Ad.pred.toArray⟩) Jz qd
   clear Cj Jz
   have JF := eo Jc Q1 7 (.string ⟨Ad.pred.toArray⟩)
   have Hf := em Ma G1 7 (.string ⟨Ad.pred.toArray⟩)
   clear Jc Ma
   have Jq := eH 8 (.slice Aw Ad.args.length Av) Ix CZ
   clear Ix
   have CR := ep 8 (.slice Aw Ad.args.length Av) CZ
   have Kw := ew w 8 (.slice Aw Ad.args.length Av) GK qd
   clear CZ GK
   have Ic := eo JF Q1 8 (.slice Aw Ad.args.length Av)
   have ID := em Hf G1 8 (.slice Aw Ad.args.length Av)
   clear JF Hf
   have Gw := eH 9 (.bool Ad.hasValue) Jq CR
   clear Jq
   have FJ := ep 9 (.bool Ad.hasValue) CR
   have Io := ew w 9 (.bool Ad.hasValue) Kw qd
   clear CR Kw
   have Jx := eo Ic Q1 9 (.bool Ad.hasValue)
   have Lo := em ID G1 9 (.bool Ad.hasValue)
   clear Ic ID
   have OS := eH 10 (.int .i64 Ad.value) Gw FJ
   clear Gw
   have Yy := ep 10 (.int .i64 Ad.value) FJ
   have XX := ew w 10 (.int .i64 Ad.value) Io qd
   clear FJ Io
   have Nw := eo Jx Q1 10 (.int .i64 Ad.value)
   have QH := em Lo G1 10 (.int .i64 Ad.value)
   clear Jx Lo
   exact .of_ok MB.out (⟨_, _, rfl, Rows.nil _ _ _ _ _, OS.out⟩) Nw.out QH.out
  | true =>
   have HOc := ec (o8 HOb.out har)
   have hr' : arrowAt (kt L) Ay.n = 0 := by simpa using har
   rw [hr'] at CO
   clear HOb har hr'
   go_wp2_with fail
   refine (AC.out _ AD.out).mono ?_
   rintro _ XW ⟨rfl, hb⟩
   clear LH II Ly Gy JZ HQ FW KB KH Ls KU Ju JO Mh LZ GQ JW Hm Ih IL Hq Jl KJ If Kv LP
   have FF := eK hb AO
   clear AO
   have Cq := eK hb AU
   clear AU
   have JI := ec (AD.out.below hb)
   have IF := ec (BC.out.trans (Fq.of_below hb))
   clear hb AD BC
   obtain ⟨TU, RQ, NB, Qs, NR, TO, Sg, Rn, TX, PZ, RB, Uu⟩ := eF FF.out
   obtain ⟨Wq, VE, Sy, VT, ST, NV, Ol, UF, Wc, Xe, Tm, QV⟩ := eF Cq.out
   have OW := qc.out
   have PM := qd.out
   go_wp2_with fail
   refine (CO.out _).mono ?_
   rintro _ Yb ⟨rfl, hb⟩
   clear TU RQ NB Qs NR TO Sg Rn TX PZ RB Uu Wq VE Sy VT ST NV Ol UF Wc Xe Tm QV OW PM
   have DF := eK hb FF
   clear FF
   have Cp := eK hb Cq
   clear Cq
   have Kk := ec (JI.out.below hb)
   have BE := ec (IF.out.trans (Fq.of_below hb))
   clear hb JI IF
   obtain ⟨QO, RC, Rb, RT, Oe, Wk, Qo, VU, Ws, TH, UD, Xm⟩ := eF DF.out
   obtain ⟨Pb, Se, Nn, Vn, SM, WL, US, QG, Oo, PX, UK, WQ⟩ := eF Cp.out
   have Ta := qc.out
   have WI := qd.out
   have Gs := ec (ml R L N Ay st _ (jo FN (kt L)) (fun s w h => oe R L N s st w h _ rfl) (iz (kt L)) (fun s w h => jk R L N s st w h _ rfl) (fun s a u => nt FN _ s a u) (fun s u => gC) 16 Kk.out _ rfl)
   go_wp2_with fail
   refine Gs.out.mono ?_
   intro e Yr he
   rcases he.split with ⟨At, RR, XP, ho, rfl, hv, hR, hF⟩ | ⟨c, m, ho, rfl, hF⟩
   rotate_left 1
   · exact eg rfl (.of_bad (el HOc.out ho) (BE.out.trans hF))
   clear QO RC Rb RT Oe Wk Qo VU Ws TH UD Xm Pb Se Nn Vn SM WL US QG Oo PX UK WQ Ta WI
   have Bf := ec (ej HOc.out ho)
   have Dl := eW hF DF Q1
   clear DF
   have BN := eW hF Cp Q4
   clear Cp
   have LW := ec hR
   have Ko := ec (BE.out.trans hF)
   obtain ⟨Ar, Au, rfl⟩ := ed hv
   have Jr := ec (Prems.mono hv fun g hg => Nat.le_trans BE.out.size hg)
   clear hv
   clear he ho hR hF Gs Kk BE HOc
   obtain ⟨Qx, SE, QI, Vq, VW, SA, Wg, Rp, Xh, TF, NS, Qe⟩ := eF Dl.out
   obtain ⟨Pn, Qv, QD, QP, Nz, Vu, Rv, SQ, VQ, OZ, Ub, VO⟩ := eF BN.out
   have NA := qc.out
   have Qm := qd.out
   have GX := ec (Prems.keep Jr.out (Kp.setLoc (T := ei) (i := 4) (v := .slice Ar At.length Au) BN.out (by decide)))
   clear Jr
   have GN := ew w2 4 (.slice Ar At.length Au) Dl qc
   have IX := ep 4 (.slice Ar At.length Au) BN
   clear Dl BN
   have Fo := eo LW Q4 4 (.slice Ar At.length Au)
   have Cg := em Ko G4 4 (.slice Ar At.length Au)
   clear LW Ko
   have Gn := ec (lS R L N RR st _ Fo.out _ rfl)
   go_wp2_with fail
   refine Gn.out.mono ?_
   intro e Ya he
   rcases he.split with ⟨As, UU, Yn, ho, rfl, hv, hR, hF⟩ | ⟨c, m, ho, rfl, hF⟩
   rotate_left 1
   · exact eg rfl (.of_bad (el Bf.out ho) (Cg.out.trans hF))
   clear Qx SE QI Vq VW SA Wg Rp Xh TF NS Qe Pn Qv QD QP Nz Vu Rv SQ VQ OZ Ub VO NA Qm
   have AW := ec (ej Bf.out ho)
   have CX := eW hF GN Q1
   clear GN
   have BR := eW hF IX Q4
   clear IX
   have Ib := ec (Prems.keep GX.out (Kp.of_fq (T := ei) hF Fo.out (by decide)))
   clear GX
   have Kg := ec hR
   have Hn := ec (Cg.out.trans hF)
   cases hv
   clear he ho hR hF Gn Fo Cg Bf
   obtain ⟨RY, TP, WK, Vr, Sa, WO, Ob, Np, Oa, SR, VR, Vs⟩ := eF CX.out
   obtain ⟨Pk, Oy, WC, UQ, VI, Rf, RS, Rc, Rt, SU, OQ, Oz⟩ := eF BR.out
   have OL := qc.out
   have Wt := qd.out
   have Jy := ec (Prems.keep Ib.out (Kp.setLoc (T := ei) (i := 5) (v := .int .i64 As) BR.out (by decide)))
   clear Ib
   have HP := ew w2 5 (.int .i64 As) CX qc
   have Ij := ep 5 (.int .i64 As) BR
   clear CX BR
   have EG := eo Kg Q4 5 (.int .i64 As)
   have Bo := em Hn G4 5 (.int .i64 As)
   clear Kg Hn
   have IE := ec (i7 R L N UU st _ EG.out _ rfl)
   go_wp2_with fail
   refine IE.out.mono ?_
   intro e XY he
   rcases he.split with ⟨Ac, Yd, XS, ho, rfl, hv, hR, hF⟩ | ⟨c, m, ho, rfl, hF⟩
   rotate_left 1
   · exact eg rfl (.of_bad (el AW.out ho) (Bo.out.trans hF))
   clear RY TP WK Vr Sa WO Ob Np Oa SR VR Vs Pk Oy WC UQ VI Rf RS Rc Rt SU OQ Oz OL Wt
   have Mm := ec (ej AW.out ho)
   have EF := eW hF HP Q1
   clear HP
   have AQ := eW hF Ij Q4
   clear Ij
   have Ig := ec (Prems.keep Jy.out (Kp.of_fq (T := ei) hF EG.out (by decide)))
   clear Jy
   have Gc := ec hR
   have Lr := ec (Bo.out.trans hF)
   obtain ⟨XM, rfl, DM⟩ := hv
   obtain ⟨Ap, Ao, rfl⟩ := ed DM
   have It := ec (Strs.mono DM fun g hg => Nat.le_trans Bo.out.size hg)
   clear DM
   clear he ho hR hF IE EG Bo AW
   obtain ⟨TQ, UP, Vl, OI, QY, Wn, Oj, Sp, Pj, OT, WV, PN⟩ := eF EF.out
   obtain ⟨QZ, PB, WT, VG, NN, Tz, Si, NY, NF, SW, Pe, Rw⟩ := eF AQ.out
   have Ue := qc.out
   have Nf := qd.out
   have Kx := ec (Prems.keep Ig.out (Kp.setLoc (T := ei) (i := 6) (v := .bool Ac.neg) AQ.out (by decide)))
   clear Ig
   have JL := eH 6 (.bool Ac.neg) It AQ
   clear It
   have Kj := ew w2 6 (.bool Ac.neg) EF qc
   have BT := ep 6 (.bool Ac.neg) AQ
   clear EF AQ
   have FO := eo Gc Q4 6 (.bool Ac.neg)
   have Dy := em Lr G4 6 (.bool Ac.neg)
   clear Gc Lr
   have Hy := ec (Prems.keep Kx.out (Kp.setLoc (T := ei) (i := 7) (v := .string ⟨Ac.pred.toArray⟩) BT.out (by decide)))
   clear Kx
   have Kd := eH 7 (.string ⟨Ac.pred.toArray⟩) JL BT
   clear JL
   have Hr := ew w2 7 (.string ⟨Ac.pred.toArray⟩) Kj qc
   have BB := ep 7 (.string ⟨Ac.pred.toArray⟩) BT
   clear Kj BT
   have CM := eo FO Q4 7 (.string ⟨Ac.pred.toArray⟩)
   have EY := em Dy G4 7 (.string ⟨Ac.pred.toArray⟩)
   clear FO Dy
   have JB := ec (Prems.keep Hy.out (Kp.setLoc (T := ei) (i := 8) (v := .slice Ap Ac.args.length Ao) BB.out (by decide)))
   clear Hy
   have GE := eH 8 (.slice Ap Ac.args.length Ao) Kd BB
   clear Kd
   have LR := ew w2 8 (.slice Ap Ac.args.length Ao) Hr qc
   have Bw := ep 8 (.slice Ap Ac.args.length Ao) BB
   clear Hr BB
   have DS := eo CM Q4 8 (.slice Ap Ac.args.length Ao)
   have Eu := em EY G4 8 (.slice Ap Ac.args.length Ao)
   clear CM EY
   have GP := ec (Prems.keep JB.out (Kp.setLoc (T := ei) (i := 9) (v := .bool Ac.hasValue) Bw.out (by decide)))
   clear JB
   have Gp := eH 9 (.bool Ac.hasValue) GE Bw
   clear GE
   have Iu := ew w2 9 (.bool Ac.hasValue) LR qc
   have Bi := ep 9 (.bool Ac.hasValue) Bw
   clear LR Bw
   have Fw := eo DS Q4 9 (.bool Ac.hasValue)
   have Ej := em Eu G4 9 (.bool Ac.hasValue)
   clear DS Eu
   have Jk := ec (Prems.keep GP.out (Kp.setLoc (T := ei) (i := 10) (v := .int .i64 Ac.value) Bi.out (by decide)))
   clear GP
   have HV := eH 10 (.int .i64 Ac.value) Gp Bi
   clear Gp
   have BH := ew w2 10 (.int .i64 Ac.value) Iu qc
   have HL := ep 10 (.int .i64 Ac.value) Bi
   clear Iu Bi
   have DD := eo Fw Q4 10 (.int .i64 Ac.value)
   have CA := em Ej G4 10 (.int .i64 Ac.value)
   clear Fw Ej
   go_wp2_with fail
   have hz := (And.intro TQ (And.intro UP (And.intro Vl (And.intro OI (And.intro QY (And.intro Wn (And.intro Oj (And.intro Sp (And.intro Pj (And.intro OT (And.intro WV (And.intro PN (And.intro QZ (And.intro PB (And.intro WT (And.intro VG (And.intro NN (And.intro Tz (And.intro Si (And.intro NY (And.intro NF (And.intro SW (And.intro Pe (And.intro Rw (And.intro Ue Nf)))))))))))))))))))))))))
   simp [bodyPost, results, Tryz.results194, go_sem, hz]
   have HS := ec (Prems.keep Jk.out (Kp.setLoc (T := ei) (i := 0) (v := .string ⟨a2.toArray⟩) BH.out (by decide)))
   clear Jk
   have JH := eH 0 (.string ⟨a2.toArray⟩) HV BH
   clear HV
   have BJ := ep 0 (.string ⟨a2.toArray⟩) BH
   have KZ := ew w 0 (.string ⟨a2.toArray⟩) HL qd
   clear BH HL
   have Ff := eo DD Q1 0 (.string ⟨a2.toArray⟩)
   have FI := em CA G1 0 (.string ⟨a2.toArray⟩)
   clear DD CA
   have Iz := ec (Prems.keep HS.out (Kp.setLoc (T := ei) (i := 1) (v := .string ⟨Af.toArray⟩) BJ.out (by decide)))
   clear HS
   have Gv := eH 1 (.string ⟨Af.toArray⟩) JH BJ
   clear JH
   have Bs := ep 1 (.string ⟨Af.toArray⟩) BJ
   have Gu := ew w 1 (.string ⟨Af.toArray⟩) KZ qd
   clear BJ KZ
   have FM := eo Ff Q1 1 (.string ⟨Af.toArray⟩)
   have Ct := em FI G1 1 (.string ⟨Af.toArray⟩)
   clear Ff FI
   have Jw := ec (Prems.keep Iz.out (Kp.setLoc (T := ei) (i := 2) (v := .int .i64 Ae) Bs.out (by decide)))
   clear Iz
   have KL := eH 2 (.int .i64 Ae) Gv Bs
   clear Gv
   have BU := ep 2 (.int .i64 Ae) Bs
   have Hi := ew w 2 (.int .i64 Ae) Gu qd
   clear Bs Gu
   have CE := eo FM Q1 2 (.int .i64 Ae)
   have CW := em Ct G1 2 (.int .i64 Ae)
   clear FM Ct
   have HA := ec (Prems.keep Jw.out (Kp.setLoc (T := ei) (i := 3) (v := .int .i64 0) BU.out (by decide)))
   clear Jw
   have HI := eH 3 (.int .i64 0) KL BU
   clear KL
   have BP := ep 3 (.int .i64 0) BU
   have GW := ew w 3 (.int .i64 0) Hi qd
   clear BU Hi
   have Ex := eo CE Q1 3 (.int .i64 0)
   have CJ := em CW G1 3 (.int .i64 0)
   clear CE CW
   have Mi := ec (Prems.keep HA.out (Kp.setLoc (T := ei) (i := 4) (v := .slice Ar At.length Au) BP.out (by decide)))
   clear HA
   have Je := eH 4 (.slice Ar At.length Au) HI BP
   clear HI
   have Bp := ep 4 (.slice Ar At.length Au) BP
   have Hj := ew w 4 (.slice Ar At.length Au) GW qd
   clear BP GW
   have Cl := eo Ex Q1 4 (.slice Ar At.length Au)
   have Cz := em CJ G1 4 (.slice Ar At.length Au)
   clear Ex CJ
   have Hp := ec (Prems.keep Mi.out (Kp.setLoc (T := ei) (i := 5) (v := .int .i64 As) Bp.out (by decide)))
   clear Mi
   have Ge := eH 5 (.int .i64 As) Je Bp
   clear Je
   have Bm := ep 5 (.int .i64 As) Bp
   have Jd := ew w 5 (.int .i64 As) Hj qd
   clear Bp Hj
   have FH := eo Cl Q1 5 (.int .i64 As)
   have Du := em Cz G1 5 (.int .i64 As)
   clear Cl Cz
   have KD := ec (Prems.keep Hp.out (Kp.setLoc (T := ei) (i := 6) (v := .bool Ac.neg) Bm.out (by decide)))
   clear Hp
   have LL := eH 6 (.bool Ac.neg) Ge Bm
   clear Ge
   have Bu := ep 6 (.bool Ac.neg) Bm
   have LU := ew w 6 (.bool Ac.neg) Jd qd
   clear Bm Jd
   have DW := eo FH Q1 6 (.bool Ac.neg)
   have CS := em Du G1 6 (.bool Ac.neg)
   clear FH Du
   have LD := ec (Prems.keep KD.out (Kp.setLoc (T := ei) (i := 7) (v := .string ⟨Ac.pred.toArray⟩) Bu.out (by decide)))
   clear KD
   have HR := eH 7 (.string ⟨Ac.pred.toArray⟩) LL Bu
   clear LL
   have Bq := ep 7 (.string ⟨Ac.pred.toArray⟩) Bu
   have Is := ew w 7 (.string ⟨Ac.pred.toArray⟩) LU qd
   clear Bu LU
   have Dj := eo DW Q1 7 (.string ⟨Ac.pred.toArray⟩)
   have EW := em CS G1 7 (.string ⟨Ac.pred.toArray⟩)
   clear DW CS
   have Jj := ec (Prems.keep LD.out (Kp.setLoc (T := ei) (i := 8) (v := .slice Ap Ac.args.length Ao) Bq.out (by decide)))
   clear LD
   have Ie := eH 8 (.slice Ap Ac.args.length Ao) HR Bq
   clear HR
   have Bv := ep 8 (.slice Ap Ac.args.length Ao) Bq
   have Hz := ew w 8 (.slice Ap Ac.args.length Ao) Is qd
   clear Bq Is
   have ET := eo Dj Q1 8 (.slice Ap Ac.args.length Ao)
   have DN := em EW G1 8 (.slice Ap Ac.args.length Ao)
   clear Dj EW
   have Gl := ec (Prems.keep Jj.out (Kp.setLoc (T := ei) (i := 9) (v := .bool Ac.hasValue) Bv.out (by decide)))
   clear Jj
   have IP := eH 9 (.bool Ac.hasValue) Ie Bv
   clear Ie
   have Bg := ep 9 (.bool Ac.hasValue) Bv
   have GG := ew w 9 (.bool Ac.hasValue) Hz qd
   clear Bv Hz
   have Cf := eo ET Q1 9 (.bool Ac.hasValue)
   have Cd := em DN G1 9 (.bool Ac.hasValue)
   clear ET DN
   have NM := ec (Prems.keep Gl.out (Kp.setLoc (T := ei) (i := 10) (v := .int .i64 Ac.value) Bg.out (by decide)))
   clear Gl
   have Nt := eH 10 (.int .i64 Ac.value) IP Bg
   clear IP
   have Yp := ep 10 (.int .i64 Ac.value) Bg
   have Yx := ew w 10 (.int .i64 Ac.value) GG qd
   clear Bg GG
   have My := eo Cf Q1 10 (.int .i64 Ac.value)
   have MZ := em Cd G1 10 (.int .i64 Ac.value)
   clear Cf Cd
   exact .of_ok Mm.out (⟨_, _, rfl, NM.out, Nt.out⟩) My.out MZ.out
 | true =>
  have HO := ec (o8 AG.out rfl)
  clear AG
  have Ei := ec (mE R L N IY st _ By.out _ rfl)
  go_wp2_with fail
  refine Ei.out.mono ?_
  intro e XJ he
  rcases he.split with ⟨Ag, MF, Xw, ho, rfl, hv, hR, hF⟩ | ⟨c, m, ho, rfl, hF⟩
  rotate_left 1
  · exact eg rfl (.of_bad (el HO.out ho) (AE.out.trans hF))
  clear HE HC Gd JG Gz Iy IQ Lc LE HK GH Js IV HG Ha Ll KG LG Gb IJ Jp Kq JP Hl HT Jn
  have AM := ec (ej HO.out ho)
  have FR := eW hF AR Q1
  clear AR
  have Ea := eW hF AT Q4
  clear AT
  have Di := ec hR
  have DJ := ec (AE.out.trans hF)
  cases hv
  clear he ho hR hF Ei By AE HO
  obtain ⟨NJ, RJ, QN, QW, TC, OJ, Xg, Tk, Uk, Ra, Sf, MQ⟩ := eF FR.out
  obtain ⟨Pd, Sd, Va, VY, QL, Tu, VA, SP, OD, Uv, Vm, Mu⟩ := eF Ea.out
  have Mn := qc.out
  have MT := qd.out
  have Iq := ew w2 3 (.int .i64 Ag) FR qc
  have KF := ep 3 (.int .i64 Ag) Ea
  clear FR Ea
  have Ev := eo Di Q4 3 (.int .i64 Ag)
  have Be := em DJ G4 3 (.int .i64 Ag)
  clear Di DJ
  have EQ := ec (fM R L N MF st _ [58] Ev.out _ rfl)
  go_wp2_with fail
  refine EQ.out.mono ?_
  intro e Xx he
  rcases he.split with ⟨Xs, Al, XE, ho, rfl, hv, hR, hF⟩ | ⟨c, m, ho, rfl, hF⟩
  rotate_left 1
  · exact eg rfl (.of_bad (el AM.out ho) (Be.out.trans hF))
  clear NJ RJ QN QW TC OJ Xg Tk Uk Ra Sf MQ Pd Sd Va VY QL Tu VA SP OD Uv Vm Mu Mn MT
  have Bk := ec (ej AM.out ho)
  have AP := eW hF Iq Q1
  clear Iq
  have AV := eW hF KF Q4
  clear KF
  have AB := ec hR
  have AF := ec (Be.out.trans hF)
  cases hv
  clear he ho hR hF EQ Ev Be AM
  obtain ⟨HZ, Ik, Hs, Hb, GM, LQ, LX, JQ, He, KR, Mf, DE⟩ := eF AP.out
  obtain ⟨Li, Ja, GS, KO, Lt, Lq, Gm, Ka, IZ, Ga, JK, Dc⟩ := eF AV.out
  have FE := qc.out
  have ES := qd.out
  have HOb := ec (gc (ko Bk.out))
  clear Bk
  have CO := ec (lZ L Al.n (eI L N Al.n))
  have AC := ec (fun w h => fm R L N Al st w h 0 (by omega))
  rw [show Al.n + 0 = Al.n from rfl] at AC
  cases har : decide (arrowAt (kt L) Al.n = 0) with
  | false =>
   have HOc := ec (kL (ps HOb.out har))
   have hr' : ¬ ((arrowAt (kt L) Al.n : Nat) : Int) = 0 := by simp at har; omega
   clear HOb har
   go_wp2_with fail
   refine (AC.out _ AB.out).mono ?_
   rintro _ XB ⟨rfl, hb⟩
   clear HZ Ik Hs Hb GM LQ LX JQ He KR Mf DE Li Ja GS KO Lt Lq Gm Ka IZ Ga JK Dc FE ES
   have Dx := eK hb AP
   clear AP
   have Fb := eK hb AV
   clear AV
   have BW := ec (AB.out.below hb)
   have Cm := ec (AF.out.trans (Fq.of_below hb))
   clear hb AB AF
   obtain ⟨UA, PG, Sj, Ul, Vo, RE, QS, TL, TK, Rl, RU, MO⟩ := eF Dx.out
   obtain ⟨Sc, Ux, TZ, Wy, Wj, Pq, OX, Pa, Nq, Wh, Oq, MU⟩ := eF Fb.out
   have ML := qc.out
   have Ni := qd.out
   go_wp2_with fail
   refine (CO.out _).mono ?_
   rintro _ XG ⟨rfl, hb⟩
   clear UA PG Sj Ul Vo RE QS TL TK Rl RU MO Sc Ux TZ Wy Wj Pq OX Pa Nq Wh Oq MU ML Ni
   have El := eK hb Dx
   clear Dx
   have CP := eK hb Fb
   clear Fb
   have Fh := ec (BW.out.below hb)
   have AY := ec (Cm.out.trans (Fq.of_below hb))
   clear hb BW Cm
   obtain ⟨Vj, Wb, Pr, Wf, Sv, WM, UB, Sq, Xp, NQ, Pw, Mz⟩ := eF El.out
   obtain ⟨TD, Ur, SJ, Ti, UN, VL, PA, VM, UE, PH, QM, MW⟩ := eF CP.out
   have Mv := qc.out
   have MX := qd.out
   have DR := ec (lS R L N Al st _ Fh.out _ rfl)
   go_wp2_with fail
   refine DR.out.mono ?_
   intro e XO he
   rcases he.split with ⟨Am, MH, XF, ho, rfl, hv, hR, hF⟩ | ⟨c, m, ho, rfl, hF⟩
   rotate_left 1
   · exact eg rfl (.of_bad (el HOc.out ho) (AY.out.trans hF))
   clear Vj Wb Pr Wf Sv WM UB Sq Xp NQ Pw Mz TD Ur SJ Ti UN VL PA VM UE PH QM MW Mv MX
   have AL := ec (ej HOc.out ho)
   have Cc := eW hF El Q1
   clear El
   have Fr := eW hF CP Q4
   clear CP
   have ED := ec hR
   have DG := ec (AY.out.trans hF)
   cases hv
   clear he ho hR hF DR Fh AY HOc
   obtain ⟨VZ, Sm, Wi, QA, Tn, TN, OV, Qd, WX, Nv, Xa, Ng⟩ := eF Cc.out
   obtain ⟨SZ, PD, Qg, Up, Sw, PC, OY, OR, Xb, Ty, Us, Nh⟩ := eF Fr.out
   have Mw := qc.out
   have MI := qd.out
   have Ks := ew w2 5 (.int .i64 Am) Cc qc
   have Jo := ep 5 (.int .i64 Am) Fr
   clear Cc Fr
   have Dd := eo ED Q4 5 (.int .i64 Am)
   have AI := em DG G4 5 (.int .i64 Am)
   clear ED DG
   have Fs := ec (i7 R L N MH st _ Dd.out _ rfl)
   go_wp2_with fail
   refine Fs.out.mono ?_
   intro e Xu he
   rcases he.split with ⟨Ab, Xv, XH, ho, rfl, hv, hR, hF⟩ | ⟨c, m, ho, rfl, hF⟩
   rotate_left 1
   · exact eg rfl (.of_bad (el AL.out ho) (AI.out.trans hF))
   clear VZ Sm Wi QA Tn TN OV Qd WX Nv Xa Ng SZ PD Qg Up Sw PC OY OR Xb Ty Us Nh Mw MI
   have FU := ec (ej AL.out ho)
   have DT := eW hF Ks Q1
   clear Ks
   have BK := eW hF Jo Q4
   clear Jo
   have Fv := ec hR
   have DU := ec (AI.out.trans hF)
   obtain ⟨Xq, rfl, Fx⟩ := hv
   obtain ⟨Az, Ax, rfl⟩ := ed Fx
   have LI := ec (Strs.mono Fx fun g hg => Nat.le_trans AI.out.size hg)
   clear Fx
   clear he ho hR hF Fs Dd AI AL
   obtain ⟨Qk, TW, Rg, PI, NL, TJ, UG, Pz, VJ, SN, Qw, MG⟩ := eF DT.out
   obtain ⟨Rz, Uq, Xd, PP, So, Nl, Uw, SL, WD, Xc, Vh, MC⟩ := eF BK.out
   have Mo := qc.out
   have Mp := qd.out
   have Lx := eH 6 (.bool Ab.neg) LI BK
   clear LI
   have IW := ew w2 6 (.bool Ab.neg) DT qc
   have Fk := ep 6 (.bool Ab.neg) BK
   clear DT BK
   have Fl := eo Fv Q4 6 (.bool Ab.neg)
   have Ek := em DU G4 6 (.bool Ab.neg)
   clear Fv DU
   have Gg := eH 7 (.string ⟨Ab.pred.toArray⟩) Lx Fk
   clear Lx
   have GV := ew w2 7 (.string ⟨Ab.pred.toArray⟩) IW qc
   have FG := ep 7 (.string ⟨Ab.pred.toArray⟩) Fk
   clear IW Fk
   have EL := eo Fl Q4 7 (.string ⟨Ab.pred.toArray⟩)
   have Fn := em Ek G4 7 (.string ⟨Ab.pred.toArray⟩)
   clear Fl Ek
   have GF := eH 8 (.slice Az Ab.args.length Ax) Gg FG
   clear Gg
   have IB := ew w2 8 (.slice Az Ab.args.length Ax) GV qc
   have Do := ep 8 (.slice Az Ab.args.length Ax) FG
   clear GV FG
   have Cr := eo EL Q4 8 (.slice Az Ab.args.length Ax)
   have Eh := em Fn G4 8 (.slice Az Ab.args.length Ax)
   clear EL Fn
   have HN := eH 9 (.bool Ab.hasValue) GF Do
   clear GF
   have Ln := ew w2 9 (.bool Ab.hasValue) IB qc
   have CU := ep 9 (.bool Ab.hasValue) Do
   clear IB Do
   have BX := eo Cr Q4 9 (.bool Ab.hasValue)
   have Ed := em Eh G4 9 (.bool Ab.hasValue)
   clear Cr Eh
   have Le := eH 10 (.int .i64 Ab.value) HN CU
   clear HN
   have CT := ew w2 10 (.int .i64 Ab.value) Ln qc
   have LM := ep 10 (.int .i64 Ab.value) CU
   clear Ln CU
   have DB := eo BX Q4 10 (.int .i64 Ab.value)
   have EM := em Ed G4 10 (.int .i64 Ab.value)
   clear BX Ed
   go_wp2_with fail
   have hz := (And.intro Qk (And.intro TW (And.intro Rg (And.intro PI (And.intro NL (And.intro TJ (And.intro UG (And.intro Pz (And.intro VJ (And.intro SN (And.intro Qw (And.intro MG (And.intro Rz (And.intro Uq (And.intro Xd (And.intro PP (And.intro So (And.intro Nl (And.intro Uw (And.intro SL (And.intro WD (And.intro Xc (And.intro Vh (And.intro MC (And.intro Mo Mp)))))))))))))))))))))))))
   simp [bodyPost, results, Tryz.results194, go_sem, hz]
   have KP := eH 0 (.string ⟨a2.toArray⟩) Le CT
   clear Le
   have FQ := ep 0 (.string ⟨a2.toArray⟩) CT
   have Hu := ew w 0 (.string ⟨a2.toArray⟩) LM qd
   clear CT LM
   have CV := eo DB Q1 0 (.string ⟨a2.toArray⟩)
   have EA := em EM G1 0 (.string ⟨a2.toArray⟩)
   clear DB EM
   have LO := eH 1 (.string ⟨Af.toArray⟩) KP FQ
   clear KP
   have ER := ep 1 (.string ⟨Af.toArray⟩) FQ
   have LV := ew w 1 (.string ⟨Af.toArray⟩) Hu qd
   clear FQ Hu
   have EN := eo CV Q1 1 (.string ⟨Af.toArray⟩)
   have FL := em EA G1 1 (.string ⟨Af.toArray⟩)
   clear CV EA
   have Kn := eH 2 (.int .i64 Ae) LO ER
   clear LO
   have Da := ep 2 (.int .i64 Ae) ER
   have Lp := ew w 2 (.int .i64 Ae) LV qd
   clear ER LV
   have Es := eo EN Q1 2 (.int .i64 Ae)
   have BY := em FL G1 2 (.int .i64 Ae)
   clear EN FL
   have Gk := eH 3 (.int .i64 Ag) Kn Da
   clear Kn
   have Df := ep 3 (.int .i64 Ag) Da
   have Md := ew w 3 (.int .i64 Ag) Lp qd
   clear Da Lp
   have Fy := eo Es Q1 3 (.int .i64 Ag)
   have DK := em BY G1 3 (.int .i64 Ag)
   clear Es BY
   have JN := eH 4 (.slice none 0 0) Gk Df
   clear Gk
   have Ew := ep 4 (.slice none 0 0) Df
   have Kl := ew w 4 (.slice none 0 0) Md qd
   clear Df Md
   have FD := eo Fy Q1 4 (.slice none 0 0)
   have EK := em DK G1 4 (.slice none 0 0)
   clear Fy DK
   have Gr := eH 5 (.int .i64 Am) JN Ew
   clear JN
   have Ck := ep 5 (.int .i64 Am) Ew
   have LF := ew w 5 (.int .i64 Am) Kl qd
   clear Ew Kl
   have DA := eo FD Q1 5 (.int .i64 Am)
   have FA := em EK G1 5 (.int .i64 Am)
   clear FD EK
   have KI := eH 6 (.bool Ab.neg) Gr Ck
   clear Gr
   have Fe := ep 6 (.bool Ab.neg) Ck
   have GC := ew w 6 (.bool Ab.neg) LF qd
   clear Ck LF
   have Eo := eo DA Q1 6 (.bool Ab.neg)
   have FK := em FA G1 6 (.bool Ab.neg)
   clear DA FA
   have LN := eH 7 (.string ⟨Ab.pred.toArray⟩) KI Fe
   clear KI
   have Ch := ep 7 (.string ⟨Ab.pred.toArray⟩) Fe
   have Iv := ew w 7 (.string ⟨Ab.pred.toArray⟩) GC qd
   clear Fe GC
   have Er := eo Eo Q1 7 (.string ⟨Ab.pred.toArray⟩)
   have CY := em FK G1 7 (.string ⟨Ab.pred.toArray⟩)
   clear Eo FK
   have Gq := eH 8 (.slice Az Ab.args.length Ax) LN Ch
   clear LN
   have DV := ep 8 (.slice Az Ab.args.length Ax) Ch
   have Gh := ew w 8 (.slice Az Ab.args.length Ax) Iv qd
   clear Ch Iv
   have Em := eo Er Q1 8 (.slice Az Ab.args.length Ax)
   have EI := em CY G1 8 (.slice Az Ab.args.length Ax)
   clear Er CY
   have JC := eH 9 (.bool Ab.hasValue) Gq DV
   clear Gq
   have Dg := ep 9 (.bool Ab.hasValue) DV
   have Gt := ew w 9 (.bool Ab.hasValue) Gh qd
   clear DV Gh
   have Fz := eo Em Q1 9 (.bool Ab.hasValue)
   have EC := em EI G1 9 (.bool Ab.hasValue)
   clear Em EI
   have OC := eH 10 (.int .i64 Ab.value) JC Dg
   clear JC
   have XV := ep 10 (.int .i64 Ab.value) Dg
   have Yo := ew w 10 (.int .i64 Ab.value) Gt qd
   clear Dg Gt
   have MY := eo Fz Q1 10 (.int .i64 Ab.value)
   have Mx := em EC G1 10 (.int .i64 Ab.value)
   clear Fz EC
   exact .of_ok FU.out (⟨_, _, rfl, Rows.nil _ _ _ _ _, OC.out⟩) MY.out Mx.out
  | true =>
   have HOc := ec (o8 HOb.out har)
   have hr' : arrowAt (kt L) Al.n = 0 := by simpa using har
   rw [hr'] at CO
   clear HOb har hr'
   go_wp2_with fail
   refine (AC.out _ AB.out).mono ?_
   rintro _ XI ⟨rfl, hb⟩
   clear HZ Ik Hs Hb GM LQ LX JQ He KR Mf DE Li Ja GS KO Lt Lq Gm Ka IZ Ga JK Dc FE ES
   have DQ := eK hb AP
   clear AP
   have DI := eK hb AV
   clear AV
   have DO := ec (AB.out.below hb)
   have Cw := ec (AF.out.trans (Fq.of_below hb))
   clear hb AB AF
   obtain ⟨OU, OO, Qf, PT, Xi, Qb, Wr, SB, WA, Nk, Od, Mr⟩ := eF DQ.out
   obtain ⟨Ow, SF, Qr, TY, RG, Pi, Wd, Qp, OA, Om, QC, ME⟩ := eF DI.out
   have MN := qc.out
   have MA := qd.out
   go_wp2_with fail
   refine (CO.out _).mono ?_
   rintro _ XC ⟨rfl, hb⟩
   clear OU OO Qf PT Xi Qb Wr SB WA Nk Od Mr Ow SF Qr TY RG Pi Wd Qp OA Om QC ME MN MA
   have Fg := eK hb DQ
   clear DQ
   have Eb := eK hb DI
   clear DI
   have CI := ec (DO.out.below hb)
   have AJ := ec (Cw.out.trans (Fq.of_below hb))
   clear hb DO Cw
   obtain ⟨PL, Uc, UY, Qh, VK, Sl, RX, Ua, UH, Pc, Os, Mt⟩ := eF Fg.out
   obtain ⟨Tv, TE, SK, QE, OB, UJ, PV, PJ, Vy, VS, QT, Mq⟩ := eF Eb.out
   have Ms := qc.out
   have Ml := qd.out
   have CH := ec (ml R L N Al st _ (jo FN (kt L)) (fun s w h => oe R L N s st w h _ rfl) (iz (kt L)) (fun s w h => jk R L N s st w h _ rfl) (fun s a u => nt FN _ s a u) (fun s u => gC) 16 CI.out _ rfl)
   go_wp2_with fail
   refine CH.out.mono ?_
   intro e Xt he
   rcases he.split with ⟨Ah, Nb, XA, ho, rfl, hv, hR, hF⟩ | ⟨c, m, ho, rfl, hF⟩
   rotate_left 1
   · exact eg rfl (.of_bad (el HOc.out ho) (AJ.out.trans hF))
   clear PL Uc UY Qh VK Sl RX Ua UH Pc Os Mt Tv TE SK QE OB UJ PV PJ Vy VS QT Mq Ms Ml
   have AK := ec (ej HOc.out ho)
   have FB := eW hF Fg Q1
   clear Fg
   have BD := eW hF Eb Q4
   clear Eb
   have DH := ec hR
   have Fp := ec (AJ.out.trans hF)
   obtain ⟨Ai, Aj, rfl⟩ := ed hv
   have Eg := ec (Prems.mono hv fun g hg => Nat.le_trans AJ.out.size hg)
   clear hv
   clear he ho hR hF CH CI AJ HOc
   obtain ⟨OG, PK, VC, VN, Nr, Xj, Uf, Uy, Rh, UT, ON, Mk⟩ := eF FB.out
   obtain ⟨RW, TA, Wl, Ro, OH, Rr, Tf, Qn, We, TS, OP, MJ⟩ := eF BD.out
   have MS := qc.out
   have Ne := qd.out
   have KY := ec (Prems.keep Eg.out (Kp.setLoc (T := ei) (i := 4) (v := .slice Ai Ah.length Aj) BD.out (by decide)))
   clear Eg
   have Lk := ew w2 4 (.slice Ai Ah.length Aj) FB qc
   have Ii := ep 4 (.slice Ai Ah.length Aj) BD
   clear FB BD
   have AX := eo DH Q4 4 (.slice Ai Ah.length Aj)
   have Ba := em Fp G4 4 (.slice Ai Ah.length Aj)
   clear DH Fp
   have Dk := ec (lS R L N Nb st _ AX.out _ rfl)
   go_wp2_with fail
   refine Dk.out.mono ?_
   intro e XK he
   rcases he.split with ⟨Ak, MV, Xz, ho, rfl, hv, hR, hF⟩ | ⟨c, m, ho, rfl, hF⟩
   rotate_left 1
   · exact eg rfl (.of_bad (el AK.out ho) (Ba.out.trans hF))
   clear OG PK VC VN Nr Xj Uf Uy Rh UT ON Mk RW TA Wl Ro OH Rr Tf Qn We TS OP MJ MS Ne
   have AN := ec (ej AK.out ho)
   have Ca := eW hF Lk Q1
   clear Lk
   have BI := eW hF Ii Q4
   clear Ii
   have Gf := ec (Prems.keep KY.out (Kp.of_fq (T := ei) hF AX.out (by decide)))
   clear KY
   have Ep := ec hR
   have Ft := ec (Ba.out.trans hF)
   cases hv
   clear he ho hR hF Dk AX Ba AK
   obtain ⟨PW, Rq, Ot, Vk, Ss, Te, Tg, Wa, Ph, NH, Vp, Mj⟩ := eF Ca.out
   obtain ⟨WG, NG, Tt, No, SD, NW, Op, NU, RZ, QU, QJ, MK⟩ := eF BI.out
   have MM := qc.out
   have MP := qd.out
   have Lj := ec (Prems.keep Gf.out (Kp.setLoc (T := ei) (i := 5) (v := .int .i64 Ak) BI.out (by decide)))
   clear Gf
   have JM := ew w2 5 (.int .i64 Ak) Ca qc
   have Lz := ep 5 (.int .i64 Ak) BI
   clear Ca BI
   have AZ := eo Ep Q4 5 (.int .i64 Ak)
   have AH := em Ft G4 5 (.int .i64 Ak)
   clear Ep Ft
   have Ef := ec (i7 R L N MV st _ AZ.out _ rfl)
   go_wp2_with fail
   refine Ef.out.mono ?_
   intro e XD he
   rcases he.split with ⟨Aa, Xy, XL, ho, rfl, hv, hR, hF⟩ | ⟨c, m, ho, rfl, hF⟩
   rotate_left 1
   · exact eg rfl (.of_bad (el AN.out ho) (AH.out.trans hF))
   clear PW Rq Ot Vk Ss Te Tg Wa Ph NH Vp Mj WG NG Tt No SD NW Op NU RZ QU QJ MK MM MP
   have FT := ec (ej AN.out ho)
   have DL := eW hF JM Q1
   clear JM
   have AS := eW hF Lz Q4
   clear Lz
   have Kr := ec (Prems.keep Lj.out (Kp.of_fq (T := ei) hF AZ.out (by decide)))
   clear Lj
   have EZ := ec hR
   have Fm := ec (AH.out.trans hF)
   obtain ⟨Xr, rfl, Dq⟩ := hv
   obtain ⟨An, Aq, rfl⟩ := ed Dq
   have LJ := ec (Strs.mono Dq fun g hg => Nat.le_trans AH.out.size hg)
   clear Dq
   clear he ho hR hF Ef AZ AH AN
   obtain ⟨PE, UO, Ok, SI, TT, Pu, Tw, VH, Ts, Uj, QK, MR⟩ := eF DL.out
   obtain ⟨Xl, Xn, Rs, OF, RO, Qq, Vg, WF, OE, NZ, Vi, Nd⟩ := eF AS.out
   have Nj := qc.out
   have Na := qd.out
   have Ld := ec (Prems.keep Kr.out (Kp.setLoc (T := ei) (i := 6) (v := .bool Aa.neg) AS.out (by decide)))
   clear Kr
   have Gx := eH 6 (.bool Aa.neg) LJ AS
   clear LJ
   have Jf := ew w2 6 (.bool Aa.neg) DL qc
   have Bz := ep 6 (.bool Aa.neg) AS
   clear DL AS
   have Fj := eo EZ Q4 6 (.bool Aa.neg)
   have EB := em Fm G4 6 (.bool Aa.neg)
   clear EZ Fm
   have GU := ec (Prems.keep Ld.out (Kp.setLoc (T := ei) (i := 7) (v := .string ⟨Aa.pred.toArray⟩) Bz.out (by decide)))
   clear Ld
   have Hc := eH 7 (.string ⟨Aa.pred.toArray⟩) Gx Bz
   clear Gx
   have Lh := ew w2 7 (.string ⟨Aa.pred.toArray⟩) Jf qc
   have Bj := ep 7 (.string ⟨Aa.pred.toArray⟩) Bz
   clear Jf Bz
   have Ce := eo Fj Q4 7 (.string ⟨Aa.pred.toArray⟩)
   have CB := em EB G4 7 (.string ⟨Aa.pred.toArray⟩)
   clear Fj EB
   have GJ := ec (Prems.keep GU.out (Kp.setLoc (T := ei) (i := 8) (v := .slice An Aa.args.length Aq) Bj.out (by decide)))
   clear GU
   have KM := eH 8 (.slice An Aa.args.length Aq) Hc Bj
   clear Hc
   have KK := ew w2 8 (.slice An Aa.args.length Aq) Lh qc
   have Bx := ep 8 (.slice An Aa.args.length Aq) Bj
   clear Lh Bj
   have Cv := eo Ce Q4 8 (.slice An Aa.args.length Aq)
   have Cx := em CB G4 8 (.slice An Aa.args.length Aq)
   clear Ce CB
   have IT := ec (Prems.keep GJ.out (Kp.setLoc (T := ei) (i := 9) (v := .bool Aa.hasValue) Bx.out (by decide)))
   clear GJ
   have Hv := eH 9 (.bool Aa.hasValue) KM Bx
   clear KM
   have Lm := ew w2 9 (.bool Aa.hasValue) KK qc
   have Bn := ep 9 (.bool Aa.hasValue) Bx
   clear KK Bx
   have Fd := eo Cv Q4 9 (.bool Aa.hasValue)
   have En := em Cx G4 9 (.bool Aa.hasValue)
   clear Cv Cx
   have HW := ec (Prems.keep IT.out (Kp.setLoc (T := ei) (i := 10) (v := .int .i64 Aa.value) Bn.out (by decide)))
   clear IT
   have HM := eH 10 (.int .i64 Aa.value) Hv Bn
   clear Hv
   have BO := ew w2 10 (.int .i64 Aa.value) Lm qc
   have Jg := ep 10 (.int .i64 Aa.value) Bn
   clear Lm Bn
   have Co := eo Fd Q4 10 (.int .i64 Aa.value)
   have Cb := em En G4 10 (.int .i64 Aa.value)
   clear Fd En
   go_wp2_with fail
   have hz := (And.intro PE (And.intro UO (And.intro Ok (And.intro SI (And.intro TT (And.intro Pu (And.intro Tw (And.intro VH (And.intro Ts (And.intro Uj (And.intro QK (And.intro MR (And.intro Xl (And.intro Xn (And.intro Rs (And.intro OF (And.intro RO (And.intro Qq (And.intro Vg (And.intro WF (And.intro OE (And.intro NZ (And.intro Vi (And.intro Nd (And.intro Nj Na)))))))))))))))))))))))))
   simp [bodyPost, results, Tryz.results194, go_sem, hz]
   have KC := ec (Prems.keep HW.out (Kp.setLoc (T := ei) (i := 0) (v := .string ⟨a2.toArray⟩) BO.out (by decide)))
   clear HW
   have GB := eH 0 (.string ⟨a2.toArray⟩) HM BO
   clear HM
   have BM := ep 0 (.string ⟨a2.toArray⟩) BO
   have JU := ew w 0 (.string ⟨a2.toArray⟩) Jg qd
   clear BO Jg
   have Cs := eo Co Q1 0 (.string ⟨a2.toArray⟩)
   have CN := em Cb G1 0 (.string ⟨a2.toArray⟩)
   clear Co Cb
   have IS := ec (Prems.keep KC.out (Kp.setLoc (T := ei) (i := 1) (v := .string ⟨Af.toArray⟩) BM.out (by decide)))
   clear KC
   have LY := eH 1 (.string ⟨Af.toArray⟩) GB BM
   clear GB
   have BS := ep 1 (.string ⟨Af.toArray⟩) BM
   have GZ := ew w 1 (.string ⟨Af.toArray⟩) JU qd
   clear BM JU
   have EJ := eo Cs Q1 1 (.string ⟨Af.toArray⟩)
   have Dt := em CN G1 1 (.string ⟨Af.toArray⟩)
   clear Cs CN
   have JX := ec (Prems.keep IS.out (Kp.setLoc (T := ei) (i := 2) (v := .int .i64 Ae) BS.out (by decide)))
   clear IS
   have Kb := eH 2 (.int .i64 Ae) LY BS
   clear LY
   have Bh := ep 2 (.int .i64 Ae) BS
   have GD := ew w 2 (.int .i64 Ae) GZ qd
   clear BS GZ
   have Ee := eo EJ Q1 2 (.int .i64 Ae)
   have Dw := em Dt G1 2 (.int .i64 Ae)
   clear EJ Dt
   have JD := ec (Prems.keep JX.out (Kp.setLoc (T := ei) (i := 3) (v := .int .i64 Ag) Bh.out (by decide)))
   clear JX
   have Gj := eH 3 (.int .i64 Ag) Kb Bh
   clear Kb
   have BA := ep 3 (.int .i64 Ag) Bh
   have JT := ew w 3 (.int .i64 Ag) GD qd
   clear Bh GD
   have Fa := eo Ee Q1 3 (.int .i64 Ag)
   have EE := em Dw G1 3 (.int .i64 Ag)
   clear Ee Dw
   have Lg := ec (Prems.keep JD.out (Kp.setLoc (T := ei) (i := 4) (v := .slice Ai Ah.length Aj) BA.out (by decide)))
   clear JD
   have Ky := eH 4 (.slice Ai Ah.length Aj) Gj BA
   clear Gj
   have Br := ep 4 (.slice Ai Ah.length Aj) BA
   have Mc := ew w 4 (.slice Ai Ah.length Aj) JT qd
   clear BA JT
   have EV := eo Fa Q1 4 (.slice Ai Ah.length Aj)
   have Ec := em EE G1 4 (.slice Ai Ah.length Aj)
   clear Fa EE
   have Lf := ec (Prems.keep Lg.out (Kp.setLoc (T := ei) (i := 5) (v := .int .i64 Ak) Br.out (by decide)))
   clear Lg
   have Hw := eH 5 (.int .i64 Ak) Ky Br
   clear Ky
   have BL := ep 5 (.int .i64 Ak) Br
   have JR := ew w 5 (.int .i64 Ak) Mc qd
   clear Br Mc
   have Ci := eo EV Q1 5 (.int .i64 Ak)
   have EU := em Ec G1 5 (.int .i64 Ak)
   clear EV Ec
   have Ke := ec (Prems.keep Lf.out (Kp.setLoc (T := ei) (i := 6) (v := .bool Aa.neg) BL.out (by decide)))
   clear Lf
   have JJ := eH 6 (.bool Aa.neg) Hw BL
   clear Hw
   have BF := ep 6 (.bool Aa.neg) BL
   have Jt := ew w 6 (.bool Aa.neg) JR qd
   clear BL JR
   have CL := eo Ci Q1 6 (.bool Aa.neg)
   have Cu := em EU G1 6 (.bool Aa.neg)
   clear Ci EU
   have KA := ec (Prems.keep Ke.out (Kp.setLoc (T := ei) (i := 7) (v := .string ⟨Aa.pred.toArray⟩) BF.out (by decide)))
   clear Ke
   have Hd := eH 7 (.string ⟨Aa.pred.toArray⟩) JJ BF
   clear JJ
   have Bt := ep 7 (.string ⟨Aa.pred.toArray⟩) BF
   have IC := ew w 7 (.string ⟨Aa.pred.toArray⟩) Jt qd
   clear BF Jt
   have Ez := eo CL Q1 7 (.string ⟨Aa.pred.toArray⟩)
   have EO := em Cu G1 7 (.string ⟨Aa.pred.toArray⟩)
   clear CL Cu
   have GT := ec (Prems.keep KA.out (Kp.setLoc (T := ei) (i := 8) (v := .slice An Aa.args.length Aq) Bt.out (by decide)))
   clear KA
   have Lw := eH 8 (.slice An Aa.args.length Aq) Hd Bt
   clear Hd
   have BG := ep 8 (.slice An Aa.args.length Aq) Bt
   have IR := ew w 8 (.slice An Aa.args.length Aq) IC qd
   clear Bt IC
   have Ey := eo Ez Q1 8 (.slice An Aa.args.length Aq)
   have DZ := em EO G1 8 (.slice An Aa.args.length Aq)
   clear Ez EO
   have Kf := ec (Prems.keep GT.out (Kp.setLoc (T := ei) (i := 9) (v := .bool Aa.hasValue) BG.out (by decide)))
   clear GT
   have HU := eH 9 (.bool Aa.hasValue) Lw BG
   clear Lw
   have Bl := ep 9 (.bool Aa.hasValue) BG
   have Lb := ew w 9 (.bool Aa.hasValue) IR qd
   clear BG IR
   have Dm := eo Ey Q1 9 (.bool Aa.hasValue)
   have CD := em DZ G1 9 (.bool Aa.hasValue)
   clear Ey DZ
   have VD := ec (Prems.keep Kf.out (Kp.setLoc (T := ei) (i := 10) (v := .int .i64 Aa.value) Bl.out (by decide)))
   clear Kf
   have VB := eH 10 (.int .i64 Aa.value) HU Bl
   clear HU
   have Yq := ep 10 (.int .i64 Aa.value) Bl
   have Yf := ew w 10 (.int .i64 Aa.value) Lb qd
   clear Bl Lb
   have Nc := eo Dm Q1 10 (.int .i64 Aa.value)
   have MD := em CD G1 10 (.int .i64 Aa.value)
   clear Dm CD
   exact .of_ok FT.out (⟨_, _, rfl, VD.out, VB.out⟩) Nc.out MD.out
end
end Go.Proofs.YtbpphlmakmeoaaaGreatDoor.Sy
