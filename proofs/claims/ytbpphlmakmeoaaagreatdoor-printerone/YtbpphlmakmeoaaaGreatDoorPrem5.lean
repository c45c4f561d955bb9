import Derived.Test.YtbpphlmakmeoaaaGreatDoorGuard5
set_option maxRecDepth 100000
set_option maxHeartbeats 1600000
namespace Go.Proofs.YtbpphlmakmeoaaaGreatDoor.Sy
open Go.RowKit
section
variable (R : Nat) (L : List fw) (N : Nat) (s : RS) (st : St9) (w : World)
theorem o6 (h : Rd R L N s st w) (o : Out f9) (ho : mt (kt L) s = o) :
    Calls Tryz.prog 298 #[.pointer (some ⟨R, 0, none⟩)] w (Ends R L N st w (oR (fo w)) o) := by
 have HO := ec ho
 have H := ec h
 have F := ec (Fq.refl R w)
 clear h ho
 go_enter Tryz.func298, Tryz.ntmps298
 have B1 : Below _ _ ((w).alloc (.cells #[.int .i64 0, .bool false, .string ⟨#[]⟩, .slice none 0 0, .bool false, .int .i64 0, .slice none 0 0, .int .i64 0, .slice none 0 0, .string ⟨#[]⟩, .string ⟨#[]⟩] 108)) := (Below.refl _ _).alloc (Nat.le_refl _) _
 have Q1 : Hid (R < w.heap.size) := ec H.out.lt
 have G1 : Hid (w.heap.size ≤ w.heap.size) := ec F.out.size
 have Al := ec (heap_alloc_new (w) (.cells #[.int .i64 0, .bool false, .string ⟨#[]⟩, .slice none 0 0, .bool false, .int .i64 0, .slice none 0 0, .int .i64 0, .slice none 0 0, .string ⟨#[]⟩, .string ⟨#[]⟩] 108))
 have H1 := ec (H.out.below B1)
 have F1 := ec (F.out.trans (Fq.of_below B1))
 clear H F B1
 have C2 := ec (rp R L N s st _ H1.out _ rfl)
 go_wp2_with fail
 refine C2.out.mono ?_
 intro e w2 he
 rcases he.split with ⟨a2, s2, v2, ho, rfl, hv, hR, hF⟩ | ⟨c, m, ho, rfl, hF⟩
 rotate_left 1
 · exact eg rfl (.of_bad (el HO.out ho) (F1.out.trans hF))
 have Aa := ec (ej HO.out ho)
 have q0 := eW hF Al Q1
 clear Al
 have H2 := ec hR
 have F2 := ec (F1.out.trans hF)
 cases hv
 clear he ho hR hF C2 H1 F1 HO
 obtain ⟨q1, q2, q3, q4, q5, q6, q7, q8, q9, qa, qb, y3⟩ := eF q0.out
 have C4 := ec (fM R L N s2 st _ [33, 61] H2.out _ rfl)
 go_wp2_with fail
 refine C4.out.mono ?_
 intro e w4 he
 rcases he.split with ⟨a4, s4, v4, ho, rfl, hv, hR, hF⟩ | ⟨c, m, ho, rfl, hF⟩
 rotate_left 1
 · exact eg rfl (.of_bad (el Aa.out ho) (F2.out.trans hF))
 clear q1 q2 q3 q4 q5 q6 q7 q8 q9 qa qb y3
 have Ab := ec (ej Aa.out ho)
 have qc := eW hF q0 Q1
 clear q0
 have H4 := ec hR
 have F4 := ec (F2.out.trans hF)
 cases hv
 clear he ho hR hF C4 H2 F2 Aa
 obtain ⟨qd, qe, qf, qg, qh, qi, qj, qk, ql, qm, qn, y5⟩ := eF qc.out
 have C6 := ec (rp R L N s4 st _ H4.out _ rfl)
 go_wp2_with fail
 refine C6.out.mono ?_
 intro e w6 he
 rcases he.split with ⟨a6, s6, v6, ho, rfl, hv, hR, hF⟩ | ⟨c, m, ho, rfl, hF⟩
 rotate_left 1
 · exact eg rfl (.of_bad (el Ab.out ho) (F4.out.trans hF))
 clear qd qe qf qg qh qi qj qk ql qm qn y5
 have Au := ec (ej Ab.out ho)
 have qo := eW hF qc Q1
 clear qc
 have H6 := ec hR
 have F6 := ec (F4.out.trans hF)
 cases hv
 clear he ho hR hF C6 H4 F4 Ab
 obtain ⟨qp, qq, qr, qs, qt, qu, qv, qw, qx, qy, qz, y7⟩ := eF qo.out
 go_wp2_with fail
 have hz := (And.intro qp (And.intro qq (And.intro qr (And.intro qs (And.intro qt (And.intro qu (And.intro qv (And.intro qw (And.intro qx (And.intro qy (And.intro qz y7)))))))))))
 simp [bodyPost, results, Tryz.results298, go_sem, hz]
 have qA := ep 0 (.int .i64 3) qo
 clear qo
 have H8 := eo H6 Q1 0 (.int .i64 3)
 have F8 := em F6 G1 0 (.int .i64 3)
 clear H6 F6
 have qB := ep 1 (.bool false) qA
 clear qA
 have H9 := eo H8 Q1 1 (.bool false)
 have F9 := em F8 G1 1 (.bool false)
 clear H8 F8
 have qC := ep 2 (.string ⟨#[]⟩) qB
 clear qB
 have Ad := eo H9 Q1 2 (.string ⟨#[]⟩)
 have Ao := em F9 G1 2 (.string ⟨#[]⟩)
 clear H9 F9
 have qD := ep 3 (.slice none 0 0) qC
 clear qC
 have As := eo Ad Q1 3 (.slice none 0 0)
 have Ar := em Ao G1 3 (.slice none 0 0)
 clear Ad Ao
 have qE := ep 4 (.bool false) qD
 clear qD
 have Am := eo As Q1 4 (.bool false)
 have Ap := em Ar G1 4 (.bool false)
 clear As Ar
 have qF := ep 5 (.int .i64 0) qE
 clear qE
 have Ae := eo Am Q1 5 (.int .i64 0)
 have Ak := em Ap G1 5 (.int .i64 0)
 clear Am Ap
 have qG := ep 6 (.slice none 0 0) qF
 clear qF
 have Ag := eo Ae Q1 6 (.slice none 0 0)
 have Aq := em Ak G1 6 (.slice none 0 0)
 clear Ae Ak
 have qH := ep 7 (.int .i64 0) qG
 clear qG
 have Ai := eo Ag Q1 7 (.int .i64 0)
 have Ac := em Aq G1 7 (.int .i64 0)
 clear Ag Aq
 have qI := ep 8 (.slice none 0 0) qH
 clear qH
 have Aj := eo Ai Q1 8 (.slice none 0 0)
 have An := em Ac G1 8 (.slice none 0 0)
 clear Ai Ac
 have qJ := ep 9 (.string ⟨a2.toArray⟩) qI
 clear qI
 have Af := eo Aj Q1 9 (.string ⟨a2.toArray⟩)
 have Ah := em An G1 9 (.string ⟨a2.toArray⟩)
 clear Aj An
 have qK := ep 10 (.string ⟨a6.toArray⟩) qJ
 clear qJ
 have Av := eo Af Q1 10 (.string ⟨a6.toArray⟩)
 have At := em Ah G1 10 (.string ⟨a6.toArray⟩)
 clear Af Ah
 exact .of_ok Au.out (⟨_, _, _, rfl, Rows.nil _ _ _ _ _, Rows.nil _ _ _ _ _, Rows.nil _ _ _ _ _⟩) Av.out At.out
theorem oe (h : Rd R L N s st w) (o : Out f9) (ho : jo FN (kt L) s = o) :
    Calls Tryz.prog 252 #[.pointer (some ⟨R, 0, none⟩)] w (Ends R L N st w (oR (fo w)) o) := by
 have HO := ec ho
 have H := ec h
 have F := ec (Fq.refl R w)
 clear h ho
 have ho := gc HO.out
 clear HO
 have Ar := ec (fun w h => fm R L N s st w h 0 (by omega))
 rw [show s.n + 0 = s.n from rfl] at Ar
 by_cases hk1 : kd (kt L) s.n = 1
 · have hk := hk1
   clear hk1
   have CM := ec (ib L (s.n + 1) (eI L N (s.n + 1)) [33, 61])
   cases hm : eT (kt L) (s.n + 1) [33, 61] with
   | true =>
    rw [hm] at CM
    have HO := ec (fs ho (by simp [hk, hm]))
    rw [hk] at Ar
    clear ho hk hm
    go_enter Tryz.func252, Tryz.ntmps252
    have Gf : Below _ _ ((w).alloc (.cells #[.int .i64 0, .bool false, .string ⟨#[]⟩, .slice none 0 0, .bool false, .int .i64 0, .slice none 0 0, .int .i64 0, .slice none 0 0, .string ⟨#[]⟩, .string ⟨#[]⟩] 108)) := (Below.refl _ _).alloc (Nat.le_refl _) _
    have Au : Hid (R < w.heap.size) := ec H.out.lt
    have Az : Hid (w.heap.size ≤ w.heap.size) := ec F.out.size
    have Hr := ec (heap_alloc_new (w) (.cells #[.int .i64 0, .bool false, .string ⟨#[]⟩, .slice none 0 0, .bool false, .int .i64 0, .slice none 0 0, .int .i64 0, .slice none 0 0, .string ⟨#[]⟩, .string ⟨#[]⟩] 108))
    have Gd := ec (H.out.below Gf)
    have Lh := ec (F.out.trans (Fq.of_below Gf))
    clear H F Gf
    go_wp2_with fail
    refine (Ar.out _ Gd.out).mono ?_
    rintro _ Bh ⟨rfl, hb⟩
    have q0 := eK hb Hr
    clear Hr
    have Eg := ec (Gd.out.below hb)
    have Iv := ec (Lh.out.trans (Fq.of_below hb))
    clear hb Gd Lh
    obtain ⟨q1, q2, q3, q4, q5, q6, q7, q8, q9, qa, qb, bH⟩ := eF q0.out
    have CL : Below _ _ ((Bh).alloc (.cells #[.int .i64 1, .string ⟨(tx (kt L) s.n).toArray⟩, .int .i64 (eI L N s.n)] 188)) := (Below.refl _ _).alloc (Nat.le_refl _) _
    have ZJ : Hid (R < Bh.heap.size) := ec Eg.out.lt
    have dR : Hid (w.heap.size ≤ Bh.heap.size) := ec Iv.out.size
    have qc : Hid (w.heap.size ≠ Bh.heap.size) := ec (Nat.ne_of_lt (eN q0.out))
    have qd : Hid (Bh.heap.size ≠ w.heap.size) := ec (Nat.ne_of_gt (eN q0.out))
    have qe := ec ((CL.block _ (eN q0.out)).trans q0.out)
    clear q0
    have Cw := ec (heap_alloc_new (Bh) (.cells #[.int .i64 1, .string ⟨(tx (kt L) s.n).toArray⟩, .int .i64 (eI L N s.n)] 188))
    have HR := ec (Eg.out.below CL)
    have ML := ec (Iv.out.trans (Fq.of_below CL))
    clear Eg Iv CL
    obtain ⟨qf, qg, qh, qi, qj, qk, ql, qm, qn, qo, qp, Vl⟩ := eF qe.out
    obtain ⟨qq, qr, qs, Sb⟩ := fj Cw.out
    have XT := qc.out
    have ah := qd.out
    go_wp2_with fail
    refine (fm R L N s st _ HR.out 1 (by omega)).mono ?_
    rintro _ dP ⟨rfl, hb⟩
    clear q1 q2 q3 q4 q5 q6 q7 q8 q9 qa qb bH qf qg qh qi qj qk ql qm qn qo qp Vl qq qr qs Sb XT ah
    have qt := eK hb qe
    clear qe
    have qu := eK hb Cw
    clear Cw
    have LB := ec (HR.out.below hb)
    have Ny := ec (ML.out.trans (Fq.of_below hb))
    clear hb HR ML
    obtain ⟨qv, qw, qx, qy, qz, qA, qB, qC, qD, qE, qF, WX⟩ := eF qt.out
    obtain ⟨qG, qH, qI, TF⟩ := fj qu.out
    have UJ := qc.out
    have WQ := qd.out
    go_wp2_with fail
    refine (CM.out _).mono ?_
    rintro _ ea ⟨rfl, hb⟩
    clear qv qw qx qy qz qA qB qC qD qE qF WX qG qH qI TF UJ WQ
    have qJ := eK hb qt
    clear qt
    have qK := eK hb qu
    clear qu
    have JW := ec (LB.out.below hb)
    have Bf := ec (Ny.out.trans (Fq.of_below hb))
    clear hb LB Ny
    obtain ⟨qL, qM, qN, qO, qP, qQ, qR, qS, qT, qU, qV, Xd⟩ := eF qJ.out
    obtain ⟨qW, qX, qY, UY⟩ := fj qK.out
    have YS := qc.out
    have bL := qd.out
    have Ob := ec (o6 R L N s st _ JW.out _ rfl)
    go_wp2_with fail
    refine Ob.out.mono ?_
    intro e dA he
    rcases he.split with ⟨Ab, eb, dS, ho, rfl, hv, hR, hF⟩ | ⟨c, m, ho, rfl, hF⟩
    rotate_left 1
    · exact eg rfl (.of_bad (ho.symm.trans HO.out) (Bf.out.trans hF))
    clear qL qM qN qO qP qQ qR qS qT qU qV Xd qW qX qY UY YS bL
    have PR := ec (ho.symm.trans HO.out)
    have qZ := eW hF qJ Au
    clear qJ
    have HK := eW hF qK ZJ
    clear qK
    have Nb := ec hR
    have Jg := ec (Bf.out.trans hF)
    obtain ⟨cT, cS, cV, rfl, Gg, ER, Fu⟩ := hv
    obtain ⟨AL, AK, rfl⟩ := ed Gg
    have Ko := ec (Strs.mono Gg fun g hg => Nat.le_trans Bf.out.size hg)
    clear Gg
    obtain ⟨AT, AO, rfl⟩ := ed ER
    have Jy := ec (Terms.mono ER fun g hg => Nat.le_trans Bf.out.size hg)
    clear ER
    obtain ⟨AR, AQ, rfl⟩ := ed Fu
    have Nv := ec (Terms.mono Fu fun g hg => Nat.le_trans Bf.out.size hg)
    clear Fu
    clear he ho hR hF Ob JW Bf HO
    obtain ⟨Xi, Xx, WZ, bX, Tw, bz, Wb, Wh, Ya, ae, Uf, Xk⟩ := eF qZ.out
    obtain ⟨Sz, bt, RN, So⟩ := fj HK.out
    have RU := qc.out
    have Uq := qd.out
    go_wp2_with fail
    have hz := (And.intro Xi (And.intro Xx (And.intro WZ (And.intro bX (And.intro Tw (And.intro bz (And.intro Wb (And.intro Wh (And.intro Ya (And.intro ae (And.intro Uf (And.intro Xk (And.intro Sz (And.intro bt (And.intro RN (And.intro So (And.intro RU Uq)))))))))))))))))
    simp [bodyPost, results, Tryz.results252, go_sem, hz]
    have LZ := eH 0 (.int .i64 Ab.kind) Ko qZ
    clear Ko
    have Oq := eV 0 (.int .i64 Ab.kind) Jy qZ
    clear Jy
    have MA := eV 0 (.int .i64 Ab.kind) Nv qZ
    clear Nv
    have Ch := ep 0 (.int .i64 Ab.kind) qZ
    have JL := ew w 0 (.int .i64 Ab.kind) HK qd
    clear qZ HK
    have Lm := eo Nb Au 0 (.int .i64 Ab.kind)
    have Jm := em Jg Az 0 (.int .i64 Ab.kind)
    clear Nb Jg
    have NW := eH 1 (.bool Ab.lit.neg) LZ Ch
    clear LZ
    have MG := eV 1 (.bool Ab.lit.neg) Oq Ch
    clear Oq
    have JS := eV 1 (.bool Ab.lit.neg) MA Ch
    clear MA
    have Cd := ep 1 (.bool Ab.lit.neg) Ch
    have Js := ew w 1 (.bool Ab.lit.neg) JL qd
    clear Ch JL
    have Ml := eo Lm Au 1 (.bool Ab.lit.neg)
    have NZ := em Jm Az 1 (.bool Ab.lit.neg)
    clear Lm Jm
    have Lv := eH 2 (.string ⟨Ab.lit.pred.toArray⟩) NW Cd
    clear NW
    have Mt := eV 2 (.string ⟨Ab.lit.pred.toArray⟩) MG Cd
    clear MG
    have Nj := eV 2 (.string ⟨Ab.lit.pred.toArray⟩) JS Cd
    clear JS
    have Cg := ep 2 (.string ⟨Ab.lit.pred.toArray⟩) Cd
    have ME := ew w 2 (.string ⟨Ab.lit.pred.toArray⟩) Js qd
    clear Cd Js
    have MB := eo Ml Au 2 (.string ⟨Ab.lit.pred.toArray⟩)
    have OM := em NZ Az 2 (.string ⟨Ab.lit.pred.toArray⟩)
    clear Ml NZ
    have Ou := eH 3 (.slice AL Ab.lit.args.length AK) Lv Cg
    clear Lv
    have Jv := eV 3 (.slice AL Ab.lit.args.length AK) Mt Cg
    clear Mt
    have Kk := eV 3 (.slice AL Ab.lit.args.length AK) Nj Cg
    clear Nj
    have BS := ep 3 (.slice AL Ab.lit.args.length AK) Cg
    have Ks := ew w 3 (.slice AL Ab.lit.args.length AK) ME qd
    clear Cg ME
    have Ni := eo MB Au 3 (.slice AL Ab.lit.args.length AK)
    have LF := em OM Az 3 (.slice AL Ab.lit.args.length AK)
    clear MB OM
    have KS := eH 4 (.bool Ab.lit.hasValue) Ou BS
    clear Ou
    have Nx := eV 4 (.bool Ab.lit.hasValue) Jv BS
    clear Jv
    have JH := eV 4 (.bool Ab.lit.hasValue) Kk BS
    clear Kk
    have BX := ep 4 (.bool Ab.lit.hasValue) BS
    have Ly := ew w 4 (.bool Ab.lit.hasValue) Ks qd
    clear BS Ks
    have JE := eo Ni Au 4 (.bool Ab.lit.hasValue)
    have JZ := em LF Az 4 (.bool Ab.lit.hasValue)
    clear Ni LF
    have Mg := eH 5 (.int .i64 Ab.lit.value) KS BX
    clear KS
    have Me := eV 5 (.int .i64 Ab.lit.value) Nx BX
    clear Nx
    have Nl := eV 5 (.int .i64 Ab.lit.value) JH BX
    clear JH
    have BM := ep 5 (.int .i64 Ab.lit.value) BX
    have KG := ew w 5 (.int .i64 Ab.lit.value) Ly qd
    clear BX Ly
    have KN := eo JE Au 5 (.int .i64 Ab.lit.value)
    have KM := em JZ Az 5 (.int .i64 Ab.lit.value)
    clear JE JZ
    have Jn := eH 6 (.slice AT Ab.guard.left.length AO) Mg BM
    clear Mg
    have Mj := eV 6 (.slice AT Ab.guard.left.length AO) Me BM
    clear Me
    have JG := eV 6 (.slice AT Ab.guard.left.length AO) Nl BM
    clear Nl
    have BP := ep 6 (.slice AT Ab.guard.left.length AO) BM
    have LI := ew w 6 (.slice AT Ab.guard.left.length AO) KG qd
    clear BM KG
    have Lr := eo KN Au 6 (.slice AT Ab.guard.left.length AO)
    have KJ := em KM Az 6 (.slice AT Ab.guard.left.length AO)
    clear KN KM
    have NG := eH 7 (.int .i64 Ab.guard.op) Jn BP
    clear Jn
    have Ow := eV 7 (.int .i64 Ab.guard.op) Mj BP
    clear Mj
    have KP := eV 7 (.int .i64 Ab.guard.op) JG BP
    clear JG
    have BH := ep 7 (.int .i64 Ab.guard.op) BP
    have LK := ew w 7 (.int .i64 Ab.guard.op) LI qd
    clear BP LI
    have Kv := eo Lr Au 7 (.int .i64 Ab.guard.op)
    have Ne := em KJ Az 7 (.int .i64 Ab.guard.op)
    clear Lr KJ
    have KK := eH 8 (.slice AR Ab.guard.right.length AQ) NG BH
    clear NG
    have Kf := eV 8 (.slice AR Ab.guard.right.length AQ) Ow BH
    clear Ow
    have NX := eV 8 (.slice AR Ab.guard.right.length AQ) KP BH
    clear KP
    have Cb := ep 8 (.slice AR Ab.guard.right.length AQ) BH
    have Oy := ew w 8 (.slice AR Ab.guard.right.length AQ) LK qd
    clear BH LK
    have KE := eo Kv Au 8 (.slice AR Ab.guard.right.length AQ)
    have Nk := em Ne Az 8 (.slice AR Ab.guard.right.length AQ)
    clear Kv Ne
    have Jk := eH 9 (.string ⟨Ab.a.toArray⟩) KK Cb
    clear KK
    have LG := eV 9 (.string ⟨Ab.a.toArray⟩) Kf Cb
    clear Kf
    have Mc := eV 9 (.string ⟨Ab.a.toArray⟩) NX Cb
    clear NX
    have BZ := ep 9 (.string ⟨Ab.a.toArray⟩) Cb
    have Mw := ew w 9 (.string ⟨Ab.a.toArray⟩) Oy qd
    clear Cb Oy
    have Ol := eo KE Au 9 (.string ⟨Ab.a.toArray⟩)
    have JQ := em Nk Az 9 (.string ⟨Ab.a.toArray⟩)
    clear KE Nk
    have VU := eH 10 (.string ⟨Ab.b.toArray⟩) Jk BZ
    clear Jk
    have ZU := eV 10 (.string ⟨Ab.b.toArray⟩) LG BZ
    clear LG
    have bB := eV 10 (.string ⟨Ab.b.toArray⟩) Mc BZ
    clear Mc
    have dF := ep 10 (.string ⟨Ab.b.toArray⟩) BZ
    have dX := ew w 10 (.string ⟨Ab.b.toArray⟩) Mw qd
    clear BZ Mw
    have Ul := eo Ol Au 10 (.string ⟨Ab.b.toArray⟩)
    have cw := em JQ Az 10 (.string ⟨Ab.b.toArray⟩)
    clear Ol JQ
    exact .of_ok PR.out (⟨_, _, _, rfl, VU.out, ZU.out, bB.out⟩) Ul.out cw.out
   | false =>
    rw [hm] at CM
    have HO := ec (fc ho (by simp [hm]))
    have At := gc HO.out
    have CN := ec (ib L s.n (eI L N s.n) [123])
    cases hm2 : eT (kt L) s.n [123] with
    | true =>
     rw [hm2] at CN
     clear HO
     have HO := ec (fs At hm2)
     rw [hk] at Ar CN
     clear ho At hk hm hm2
     go_enter Tryz.func252, Tryz.ntmps252
     have Gl : Below _ _ ((w).alloc (.cells #[.int .i64 0, .bool false, .string ⟨#[]⟩, .slice none 0 0, .bool false, .int .i64 0, .slice none 0 0, .int .i64 0, .slice none 0 0, .string ⟨#[]⟩, .string ⟨#[]⟩] 108)) := (Below.refl _ _).alloc (Nat.le_refl _) _
     have Aw : Hid (R < w.heap.size) := ec H.out.lt
     have Ax : Hid (w.heap.size ≤ w.heap.size) := ec F.out.size
     have HF := ec (heap_alloc_new (w) (.cells #[.int .i64 0, .bool false, .string ⟨#[]⟩, .slice none 0 0, .bool false, .int .i64 0, .slice none 0 0, .int .i64 0, .slice none 0 0, .string ⟨#[]⟩, .string ⟨#[]⟩] 108))
     have GQ := ec (H.out.below Gl)
     have MP := ec (F.out.trans (Fq.of_below Gl))
     clear H F Gl
     go_wp2_with fail
     refine (Ar.out _ GQ.out).mono ?_
     rintro _ Bo ⟨rfl, hb⟩
     have AW := eK hb HF
     clear HF
     have In := ec (GQ.out.below hb)
     have FB := ec (MP.out.trans (Fq.of_below hb))
     clear hb GQ MP
     obtain ⟨Ym, UD, Rt, YZ, Zi, aU, ZS, XV, cp, cd, SP, bU⟩ := eF AW.out
     have CJ : Below _ _ ((Bo).alloc (.cells #[.int .i64 1, .string ⟨(tx (kt L) s.n).toArray⟩, .int .i64 (eI L N s.n)] 188)) := (Below.refl _ _).alloc (Nat.le_refl _) _
     have SS : Hid (R < Bo.heap.size) := ec In.out.lt
     have dH : Hid (w.heap.size ≤ Bo.heap.size) := ec FB.out.size
     have qc : Hid (w.heap.size ≠ Bo.heap.size) := ec (Nat.ne_of_lt (eN AW.out))
     have qd : Hid (Bo.heap.size ≠ w.heap.size) := ec (Nat.ne_of_gt (eN AW.out))
     have GU := ec ((CJ.block _ (eN AW.out)).trans AW.out)
     clear AW
     have Ck := ec (heap_alloc_new (Bo) (.cells #[.int .i64 1, .string ⟨(tx (kt L) s.n).toArray⟩, .int .i64 (eI L N s.n)] 188))
     have DR := ec (In.out.below CJ)
     have KL := ec (FB.out.trans (Fq.of_below CJ))
     clear In FB CJ
     obtain ⟨TJ, Va, VM, TU, WM, Zo, Tp, UG, Zu, bR, ab, WT⟩ := eF GU.out
     obtain ⟨WS, Xp, Zk, RJ⟩ := fj Ck.out
     have bl := qc.out
     have Zv := qd.out
     go_wp2_with fail
     refine (fm R L N s st _ DR.out 1 (by omega)).mono ?_
     rintro _ dQ ⟨rfl, hb⟩
     clear Ym UD Rt YZ Zi aU ZS XV cp cd SP bU TJ Va VM TU WM Zo Tp UG Zu bR ab WT WS Xp Zk RJ bl Zv
     have IV := eK hb GU
     clear GU
     have Ed := eK hb Ck
     clear Ck
     have JV := ec (DR.out.below hb)
     have Nq := ec (KL.out.trans (Fq.of_below hb))
     clear hb DR KL
     obtain ⟨XC, Yj, To, VY, TE, VI, cg, ak, Ry, Xr, YM, bx⟩ := eF IV.out
     obtain ⟨US, bY, ag, bV⟩ := fj Ed.out
     have TB := qc.out
     have Sv := qd.out
     go_wp2_with fail
     refine (CM.out _).mono ?_
     rintro _ dY ⟨rfl, hb⟩
     clear XC Yj To VY TE VI cg ak Ry Xr YM bx US bY ag bV TB Sv
     have Ey := eK hb IV
     clear IV
     have FE := eK hb Ed
     clear Ed
     have Jr := ec (JV.out.below hb)
     have MO := ec (Nq.out.trans (Fq.of_below hb))
     clear hb JV Nq
     obtain ⟨YG, bQ, aj, ct, RZ, Ut, aD, XJ, XD, RG, aW, Ye⟩ := eF Ey.out
     obtain ⟨TA, Wl, Yb, Vo⟩ := fj FE.out
     have an := qc.out
     have Xc := qd.out
     go_wp2_with fail
     refine (CN.out _).mono ?_
     rintro _ dN ⟨rfl, hb⟩
     clear YG bQ aj ct RZ Ut aD XJ XD RG aW Ye TA Wl Yb Vo an Xc
     have DM := eK hb Ey
     clear Ey
     have Ib := eK hb FE
     clear FE
     have Lc := ec (Jr.out.below hb)
     have BQ := ec (MO.out.trans (Fq.of_below hb))
     clear hb Jr MO
     obtain ⟨Ui, VE, Vg, VL, ZK, ai, Xt, VW, WN, Tt, Wf, Ve⟩ := eF DM.out
     obtain ⟨Sm, RT, Wj, Wm⟩ := fj Ib.out
     have SN := qc.out
     have Tj := qd.out
     have Kj := ec (nx R L N s st _ Lc.out _ rfl)
     go_wp2_with fail
     refine Kj.out.mono ?_
     intro e dL he
     rcases he.split with ⟨Ah, dJ, dZ, ho, rfl, hv, hR, hF⟩ | ⟨c, m, ho, rfl, hF⟩
     rotate_left 1
     · exact eg rfl (.of_bad (el HO.out ho) (BQ.out.trans hF))
     clear Ui VE Vg VL ZK ai Xt VW WN Tt Wf Ve Sm RT Wj Wm SN Tj
     have Rc := ec (ej HO.out ho)
     have Ci := eW hF DM Aw
     clear DM
     have DN := eW hF Ib SS
     clear Ib
     have Lx := ec hR
     have Kr := ec (BQ.out.trans hF)
     obtain ⟨dj, dd, rfl, IF, GX⟩ := hv
     obtain ⟨Bq, Bk, rfl⟩ := ed IF
     have KR := ec (Terms.mono IF fun g hg => Nat.le_trans BQ.out.size hg)
     clear IF
     obtain ⟨Be, Bc, rfl⟩ := ed GX
     have Lb := ec (Terms.mono GX fun g hg => Nat.le_trans BQ.out.size hg)
     clear GX
     clear he ho hR hF Kj Lc BQ HO
     obtain ⟨bE, bC, Tv, WA, br, aH, ZO, Wr, Yg, bK, cb, TK⟩ := eF Ci.out
     obtain ⟨Sh, Rx, VH, cq⟩ := fj DN.out
     have bv := qc.out
     have Xs := qd.out
     go_wp2_with fail
     have hz := (And.intro bE (And.intro bC (And.intro Tv (And.intro WA (And.intro br (And.intro aH (And.intro ZO (And.intro Wr (And.intro Yg (And.intro bK (And.intro cb (And.intro TK (And.intro Sh (And.intro Rx (And.intro VH (And.intro cq (And.intro bv Xs)))))))))))))))))
     simp [bodyPost, results, Tryz.results252, go_sem, hz]
     have Ov := eV 0 (.int .i64 2) KR Ci
     clear KR
     have Mr := eV 0 (.int .i64 2) Lb Ci
     clear Lb
     have CQ := ep 0 (.int .i64 2) Ci
     have Jl := ew w 0 (.int .i64 2) DN qd
     clear Ci DN
     have LA := eo Lx Aw 0 (.int .i64 2)
     have Nf := em Kr Ax 0 (.int .i64 2)
     clear Lx Kr
     have MK := eV 1 (.bool false) Ov CQ
     clear Ov
     have Ld := eV 1 (.bool false) Mr CQ
     clear Mr
     have Da := ep 1 (.bool false) CQ
     have Mo := ew w 1 (.bool false) Jl qd
     clear CQ Jl
     have Mb := eo LA Aw 1 (.bool false)
     have LO := em Nf Ax 1 (.bool false)
     clear LA Nf
     have No := eV 2 (.string ⟨#[]⟩) MK Da
     clear MK
     have JO := eV 2 (.string ⟨#[]⟩) Ld Da
     clear Ld
     have CY := ep 2 (.string ⟨#[]⟩) Da
     have NY := ew w 2 (.string ⟨#[]⟩) Mo qd
     clear Da Mo
     have LQ := eo Mb Aw 2 (.string ⟨#[]⟩)
     have Nw := em LO Ax 2 (.string ⟨#[]⟩)
     clear Mb LO
     have Kw := eV 3 (.slice none 0 0) No CY
     clear No
     have Jh := eV 3 (.slice none 0 0) JO CY
     clear JO
     have Dt := ep 3 (.slice none 0 0) CY
     have Oc := ew w 3 (.slice none 0 0) NY qd
     clear CY NY
     have OO := eo LQ Aw 3 (.slice none 0 0)
     have MR := em Nw Ax 3 (.slice none 0 0)
     clear LQ Nw
     have MW := eV 4 (.bool false) Kw Dt
     clear Kw
     have NF := eV 4 (.bool false) Jh Dt
     clear Jh
     have Dd := ep 4 (.bool false) Dt
     have MN := ew w 4 (.bool false) Oc qd
     clear Dt Oc
     have MS := eo OO Aw 4 (.bool false)
     have Kq := em MR Ax 4 (.bool false)
     clear OO MR
     have JF := eV 5 (.int .i64 0) MW Dd
     clear MW
     have LE := eV 5 (.int .i64 0) NF Dd
     clear NF
     have Dw := ep 5 (.int .i64 0) Dd
     have Oo := ew w 5 (.int .i64 0) MN qd
     clear Dd MN
     have Mh := eo MS Aw 5 (.int .i64 0)
     have MH := em Kq Ax 5 (.int .i64 0)
     clear MS Kq
     have NK := eV 6 (.slice Bq Ah.left.length Bk) JF Dw
     clear JF
     have OB := eV 6 (.slice Bq Ah.left.length Bk) LE Dw
     clear LE
     have Db := ep 6 (.slice Bq Ah.left.length Bk) Dw
     have KQ := ew w 6 (.slice Bq Ah.left.length Bk) Oo qd
     clear Dw Oo
     have LS := eo Mh Aw 6 (.slice Bq Ah.left.length Bk)
     have JX := em MH Ax 6 (.slice Bq Ah.left.length Bk)
     clear Mh MH
     have KV := eV 7 (.int .i64 Ah.op) NK Db
     clear NK
     have MT := eV 7 (.int .i64 Ah.op) OB Db
     clear OB
     have Dh := ep 7 (.int .i64 Ah.op) Db
     have KW := ew w 7 (.int .i64 Ah.op) KQ qd
     clear Db KQ
     have Ki := eo LS Aw 7 (.int .i64 Ah.op)
     have KZ := em JX Ax 7 (.int .i64 Ah.op)
     clear LS JX
     have NA := eV 8 (.slice Be Ah.right.length Bc) KV Dh
     clear KV
     have KF := eV 8 (.slice Be Ah.right.length Bc) MT Dh
     clear MT
     have CT := ep 8 (.slice Be Ah.right.length Bc) Dh
     have Kx := ew w 8 (.slice Be Ah.right.length Bc) KW qd
     clear Dh KW
     have Og := eo Ki Aw 8 (.slice Be Ah.right.length Bc)
     have Jz := em KZ Ax 8 (.slice Be Ah.right.length Bc)
     clear Ki KZ
     have MY := eV 9 (.string ⟨#[]⟩) NA CT
     clear NA
     have JP := eV 9 (.string ⟨#[]⟩) KF CT
     clear KF
     have CO := ep 9 (.string ⟨#[]⟩) CT
     have Op := ew w 9 (.string ⟨#[]⟩) Kx qd
     clear CT Kx
     have MM := eo Og Aw 9 (.string ⟨#[]⟩)
     have KA := em Jz Ax 9 (.string ⟨#[]⟩)
     clear Og Jz
     have co := eV 10 (.string ⟨#[]⟩) MY CO
     clear MY
     have cv := eV 10 (.string ⟨#[]⟩) JP CO
     clear JP
     have dU := ep 10 (.string ⟨#[]⟩) CO
     have dT := ew w 10 (.string ⟨#[]⟩) Op qd
     clear CO Op
     have ZQ := eo MM Aw 10 (.string ⟨#[]⟩)
     have ZG := em KA Ax 10 (.string ⟨#[]⟩)
     clear MM KA
     exact .of_ok Rc.out (⟨_, _, _, rfl, Rows.nil _ _ _ _ _, co.out, cv.out⟩) ZQ.out ZG.out
    | false =>
     rw [hm2] at CN
     clear HO
     have HO := ec (fc At hm2)
     rw [hk] at Ar CN
     clear ho At hk hm hm2
     go_enter Tryz.func252, Tryz.ntmps252
     have Es : Below _ _ ((w).alloc (.cells #[.int .i64 0, .bool false, .string ⟨#[]⟩, .slice none 0 0, .bool false, .int .i64 0, .slice none 0 0, .int .i64 0, .slice none 0 0, .string ⟨#[]⟩, .string ⟨#[]⟩] 108)) := (Below.refl _ _).alloc (Nat.le_refl _) _
     have Av : Hid (R < w.heap.size) := ec H.out.lt
     have Ay : Hid (w.heap.size ≤ w.heap.size) := ec F.out.size
     have HN := ec (heap_alloc_new (w) (.cells #[.int .i64 0, .bool false, .string ⟨#[]⟩, .slice none 0 0, .bool false, .int .i64 0, .slice none 0 0, .int .i64 0, .slice none 0 0, .string ⟨#[]⟩, .string ⟨#[]⟩] 108))
     have Fo := ec (H.out.below Es)
     have Mf := ec (F.out.trans (Fq.of_below Es))
     clear H F Es
     go_wp2_with fail
     refine (Ar.out _ Fo.out).mono ?_
     rintro _ AX ⟨rfl, hb⟩
     have Bp := eK hb HN
     clear HN
     have ES := ec (Fo.out.below hb)
     have Fb := ec (Mf.out.trans (Fq.of_below hb))
     clear hb Fo Mf
     obtain ⟨ZM, Yq, Vt, Xg, VS, Tl, bm, TC, Ty, VR, Vi, Yx⟩ := eF Bp.out
     have Dq : Below _ _ ((AX).alloc (.cells #[.int .i64 1, .string ⟨(tx (kt L) s.n).toArray⟩, .int .i64 (eI L N s.n)] 188)) := (Below.refl _ _).alloc (Nat.le_refl _) _
     have ZB : Hid (R < AX.heap.size) := ec ES.out.lt
     have dB : Hid (w.heap.size ≤ AX.heap.size) := ec Fb.out.size
     have qc : Hid (w.heap.size ≠ AX.heap.size) := ec (Nat.ne_of_lt (eN Bp.out))
     have qd : Hid (AX.heap.size ≠ w.heap.size) := ec (Nat.ne_of_gt (eN Bp.out))
     have Ec := ec ((Dq.block _ (eN Bp.out)).trans Bp.out)
     clear Bp
     have Cn := ec (heap_alloc_new (AX) (.cells #[.int .i64 1, .string ⟨(tx (kt L) s.n).toArray⟩, .int .i64 (eI L N s.n)] 188))
     have Hm := ec (ES.out.below Dq)
     have Kg := ec (Fb.out.trans (Fq.of_below Dq))
     clear ES Fb Dq
     obtain ⟨Xl, Vy, Us, SC, WU, Uh, YV, RY, bM, Vm, SZ, YD⟩ := eF Ec.out
     obtain ⟨cx, SQ, bG, Uc⟩ := fj Cn.out
     have Tr := qc.out
     have Zg := qd.out
     go_wp2_with fail
     refine (fm R L N s st _ Hm.out 1 (by omega)).mono ?_
     rintro _ dx ⟨rfl, hb⟩
     clear ZM Yq Vt Xg VS Tl bm TC Ty VR Vi Yx Xl Vy Us SC WU Uh YV RY bM Vm SZ YD cx SQ bG Uc Tr Zg
     have El := eK hb Ec
     clear Ec
     have Hq := eK hb Cn
     clear Cn
     have Fj := ec (Hm.out.below hb)
     have DK := ec (Kg.out.trans (Fq.of_below hb))
     clear hb Hm Kg
     obtain ⟨Wo, RK, UR, RW, YP, WH, VN, YT, Up, Wd, bo, QZ⟩ := eF El.out
     obtain ⟨aG, Xq, aV, Rh⟩ := fj Hq.out
     have PO := qc.out
     have QO := qd.out
     go_wp2_with fail
     refine (CM.out _).mono ?_
     rintro _ dt ⟨rfl, hb⟩
     clear Wo RK UR RW YP WH VN YT Up Wd bo QZ aG Xq aV Rh PO QO
     have GE := eK hb El
     clear El
     have DZ := eK hb Hq
     clear Hq
     have FW := ec (Fj.out.below hb)
     have EC := ec (DK.out.trans (Fq.of_below hb))
     clear hb Fj DK
     obtain ⟨Ss, ZE, ba, cf, Yk, Wp, SB, Vu, We, VD, Wq, QN⟩ := eF GE.out
     obtain ⟨Sl, bj, UN, QC⟩ := fj DZ.out
     have Pm := qc.out
     have PA := qd.out
     go_wp2_with fail
     refine (CN.out _).mono ?_
     rintro _ cN ⟨rfl, hb⟩
     clear Ss ZE ba cf Yk Wp SB Vu We VD Wq QN Sl bj UN QC Pm PA
     have It := eK hb GE
     clear GE
     have II := eK hb DZ
     clear DZ
     have Ee := ec (FW.out.below hb)
     have Bt := ec (EC.out.trans (Fq.of_below hb))
     clear hb FW EC
     obtain ⟨YH, ZC, Th, WE, Ru, ar, XH, bN, ZY, Vn, Su, PM⟩ := eF It.out
     obtain ⟨Um, ZN, Vd, QH⟩ := fj II.out
     have Ph := qc.out
     have Qf := qd.out
     have FZ := ec (i7 R L N s st _ Ee.out _ rfl)
     go_wp2_with fail
     refine FZ.out.mono ?_
     intro e cK he
     rcases he.split with ⟨Ac, dm, cJ, ho, rfl, hv, hR, hF⟩ | ⟨c, m, ho, rfl, hF⟩
     rotate_left 1
     · exact eg rfl (.of_bad (el HO.out ho) (Bt.out.trans hF))
     clear YH ZC Th WE Ru ar XH bN ZY Vn Su PM Um ZN Vd QH Ph Qf
     have Je := ec (ej HO.out ho)
     have Dr := eW hF It Av
     clear It
     have Fs := eW hF II ZB
     clear II
     have DW := ec hR
     have DJ := ec (Bt.out.trans hF)
     obtain ⟨cH, rfl, Gq⟩ := hv
     obtain ⟨BN, Cc, rfl⟩ := ed Gq
     have On := ec (Strs.mono Gq fun g hg => Nat.le_trans Bt.out.size hg)
     clear Gq
     clear he ho hR hF FZ Ee Bt HO
     obtain ⟨Xu, be, VP, ck, YF, RX, Tu, UT, Vj, Vv, RH, QU⟩ := eF Dr.out
     obtain ⟨aB, VV, XK, PV⟩ := fj Fs.out
     have QV := qc.out
     have Qx := qd.out
     go_wp2_with fail
     have hz := (And.intro Xu (And.intro be (And.intro VP (And.intro ck (And.intro YF (And.intro RX (And.intro Tu (And.intro UT (And.intro Vj (And.intro Vv (And.intro RH (And.intro QU (And.intro aB (And.intro VV (And.intro XK (And.intro PV (And.intro QV Qx)))))))))))))))))
     simp [bodyPost, results, Tryz.results252, go_sem, hz]
     have Om := eH 0 (.int .i64 1) On Dr
     clear On
     have EB := ep 0 (.int .i64 1) Dr
     have Na := ew w 0 (.int .i64 1) Fs qd
     clear Dr Fs
     have GA := eo DW Av 0 (.int .i64 1)
     have Gh := em DJ Ay 0 (.int .i64 1)
     clear DW DJ
     have Ke := eH 1 (.bool Ac.neg) Om EB
     clear Om
     have Em := ep 1 (.bool Ac.neg) EB
     have LL := ew w 1 (.bool Ac.neg) Na qd
     clear EB Na
     have FL := eo GA Av 1 (.bool Ac.neg)
     have DX := em Gh Ay 1 (.bool Ac.neg)
     clear GA Gh
     have KI := eH 2 (.string ⟨Ac.pred.toArray⟩) Ke Em
     clear Ke
     have IT := ep 2 (.string ⟨Ac.pred.toArray⟩) Em
     have La := ew w 2 (.string ⟨Ac.pred.toArray⟩) LL qd
     clear Em LL
     have GW := eo FL Av 2 (.string ⟨Ac.pred.toArray⟩)
     have HP := em DX Ay 2 (.string ⟨Ac.pred.toArray⟩)
     clear FL DX
     have LT := eH 3 (.slice BN Ac.args.length Cc) KI IT
     clear KI
     have Hn := ep 3 (.slice BN Ac.args.length Cc) IT
     have OI := ew w 3 (.slice BN Ac.args.length Cc) La qd
     clear IT La
     have Ho := eo GW Av 3 (.slice BN Ac.args.length Cc)
     have Ef := em HP Ay 3 (.slice BN Ac.args.length Cc)
     clear GW HP
     have NS := eH 4 (.bool Ac.hasValue) LT Hn
     clear LT
     have Ge := ep 4 (.bool Ac.hasValue) Hn
     have OK := ew w 4 (.bool Ac.hasValue) OI qd
     clear Hn OI
     have EO := eo Ho Av 4 (.bool Ac.hasValue)
     have Iu := em Ef Ay 4 (.bool Ac.hasValue)
     clear Ho Ef
     have JD := eH 5 (.int .i64 Ac.value) NS Ge
     clear NS
     have DB := ep 5 (.int .i64 Ac.value) Ge
     have JC := ew w 5 (.int .i64 Ac.value) OK qd
     clear Ge OK
     have Ip := eo EO Av 5 (.int .i64 Ac.value)
     have Hd := em Iu Ay 5 (.int .i64 Ac.value)
     clear EO Iu
     have Mn := eH 6 (.slice none 0 0) JD DB
     clear JD
     have Ir := ep 6 (.slice none 0 0) DB
     have Km := ew w 6 (.slice none 0 0) JC qd
     clear DB JC
     have Gy := eo Ip Av 6 (.slice none 0 0)
     have Ez := em Hd Ay 6 (.slice none 0 0)
     clear Ip Hd
     have JT := eH 7 (.int .i64 0) Mn Ir
     clear Mn
     have IK := ep 7 (.int .i64 0) Ir
     have NC := ew w 7 (.int .i64 0) Km qd
     clear Ir Km
     have FR := eo Gy Av 7 (.int .i64 0)
     have EW := em Ez Ay 7 (.int .i64 0)
     clear Gy Ez
     have Oj := eH 8 (.slice none 0 0) JT IK
     clear JT
     have FH := ep 8 (.slice none 0 0) IK
     have LR := ew w 8 (.slice none 0 0) NC qd
     clear IK NC
     have DA := eo FR Av 8 (.slice none 0 0)
     have Eh := em EW Ay 8 (.slice none 0 0)
     clear FR EW
     have Lz := eH 9 (.string ⟨#[]⟩) Oj FH
     clear Oj
     have FP := ep 9 (.string ⟨#[]⟩) FH
     have Mp := ew w 9 (.string ⟨#[]⟩) LR qd
     clear FH LR
     have ID := eo DA Av 9 (.string ⟨#[]⟩)
     have GJ := em Eh Ay 9 (.string ⟨#[]⟩)
     clear DA Eh
     have SV := eH 10 (.string ⟨#[]⟩) Lz FP
     clear Lz
     have dI := ep 10 (.string ⟨#[]⟩) FP
     have dC := ew w 10 (.string ⟨#[]⟩) Mp qd
     clear FP Mp
     have Qi := eo ID Av 10 (.string ⟨#[]⟩)
     have Pf := em GJ Ay 10 (.string ⟨#[]⟩)
     clear ID GJ
     exact .of_ok Je.out (⟨_, _, _, rfl, SV.out, Rows.nil _ _ _ _ _, Rows.nil _ _ _ _ _⟩) Qi.out Pf.out
 · by_cases hk2 : kd (kt L) s.n = 2
   · have hk := hk2
     clear hk1 hk2
     have CM := ec (ib L (s.n + 1) (eI L N (s.n + 1)) [33, 61])
     cases hm : eT (kt L) (s.n + 1) [33, 61] with
     | true =>
      rw [hm] at CM
      have HO := ec (fs ho (by simp [hk, hm]))
      rw [hk] at Ar
      clear ho hk hm
      go_enter Tryz.func252, Tryz.ntmps252
      have Cj : Below _ _ ((w).alloc (.cells #[.int .i64 0, .bool false, .string ⟨#[]⟩, .slice none 0 0, .bool false, .int .i64 0, .slice none 0 0, .int .i64 0, .slice none 0 0, .string ⟨#[]⟩, .string ⟨#[]⟩] 108)) := (Below.refl _ _).alloc (Nat.le_refl _) _
      have Ak : Hid (R < w.heap.size) := ec H.out.lt
      have Aq : Hid (w.heap.size ≤ w.heap.size) := ec F.out.size
      have Dp := ec (heap_alloc_new (w) (.cells #[.int .i64 0, .bool false, .string ⟨#[]⟩, .slice none 0 0, .bool false, .int .i64 0, .slice none 0 0, .int .i64 0, .slice none 0 0, .string ⟨#[]⟩, .string ⟨#[]⟩] 108))
      have Cl := ec (H.out.below Cj)
      have EM := ec (F.out.trans (Fq.of_below Cj))
      clear H F Cj
      go_wp2_with fail
      refine (Ar.out _ Cl.out).mono ?_
      rintro _ AE ⟨rfl, hb⟩
      have Bb := eK hb Dp
      clear Dp
      have CI := ec (Cl.out.below hb)
      have Cs := ec (EM.out.trans (Fq.of_below hb))
      clear hb Cl EM
      obtain ⟨YL, WC, Vb, Wz, Yh, XB, Vs, YR, ZW, aq, SK, PI⟩ := eF Bb.out
      have By : Below _ _ ((AE).alloc (.cells #[.int .i64 2, .string ⟨(tx (kt L) s.n).toArray⟩, .int .i64 (eI L N s.n)] 188)) := (Below.refl _ _).alloc (Nat.le_refl _) _
      have Qn : Hid (R < AE.heap.size) := ec CI.out.lt
      have dc : Hid (w.heap.size ≤ AE.heap.size) := ec Cs.out.size
      have qc : Hid (w.heap.size ≠ AE.heap.size) := ec (Nat.ne_of_lt (eN Bb.out))
      have qd : Hid (AE.heap.size ≠ w.heap.size) := ec (Nat.ne_of_gt (eN Bb.out))
      have FC := ec ((By.block _ (eN Bb.out)).trans Bb.out)
      clear Bb
      have BB := ec (heap_alloc_new (AE) (.cells #[.int .i64 2, .string ⟨(tx (kt L) s.n).toArray⟩, .int .i64 (eI L N s.n)] 188))
      have Cu := ec (CI.out.below By)
      have FI := ec (Cs.out.trans (Fq.of_below By))
      clear CI Cs By
      obtain ⟨bn, Sr, Xe, Tq, Ta, bT, VC, TL, bS, aL, RS, QF⟩ := eF FC.out
      obtain ⟨Yv, WR, Sd, PN⟩ := fj BB.out
      have QJ := qc.out
      have PB := qd.out
      go_wp2_with fail
      refine (fm R L N s st _ Cu.out 1 (by omega)).mono ?_
      rintro _ dp ⟨rfl, hb⟩
      clear YL WC Vb Wz Yh XB Vs YR ZW aq SK PI bn Sr Xe Tq Ta bT VC TL bS aL RS QF Yv WR Sd PN QJ PB
      have DO := eK hb FC
      clear FC
      have GG := eK hb BB
      clear BB
      have EP := ec (Cu.out.below hb)
      have DH := ec (FI.out.trans (Fq.of_below hb))
      clear hb Cu FI
      obtain ⟨Tk, YW, XR, YC, cj, Ub, Ys, TV, Wx, Xm, Sq, Rn⟩ := eF DO.out
      obtain ⟨bP, UW, SL, Rb⟩ := fj GG.out
      have Qj := qc.out
      have Rj := qd.out
      go_wp2_with fail
      refine (CM.out _).mono ?_
      rintro _ cQ ⟨rfl, hb⟩
      clear Tk YW XR YC cj Ub Ys TV Wx Xm Sq Rn bP UW SL Rb Qj Rj
      have DT := eK hb DO
      clear DO
      have Fx := eK hb GG
      clear GG
      have Iy := ec (EP.out.below hb)
      have AD := ec (DH.out.trans (Fq.of_below hb))
      clear hb EP DH
      obtain ⟨Si, WK, UK, ZI, Uu, UI, XG, ZV, aa, Vz, RR, Qe⟩ := eF DT.out
      obtain ⟨Ux, RQ, Xh, PU⟩ := fj Fx.out
      have Po := qc.out
      have Pq := qd.out
      have Hl := ec (o6 R L N s st _ Iy.out _ rfl)
      go_wp2_with fail
      refine Hl.out.mono ?_
      intro e dn he
      rcases he.split with ⟨Aa, dh, cR, ho, rfl, hv, hR, hF⟩ | ⟨c, m, ho, rfl, hF⟩
      rotate_left 1
      · exact eg rfl (.of_bad (ho.symm.trans HO.out) (AD.out.trans hF))
      clear Si WK UK ZI Uu UI XG ZV aa Vz RR Qe Ux RQ Xh PU Po Pq
      have Jf := ec (ho.symm.trans HO.out)
      have Bn := eW hF DT Ak
      clear DT
      have IY := eW hF Fx Qn
      clear Fx
      have Ik := ec hR
      have GD := ec (AD.out.trans hF)
      obtain ⟨cy, cz, cB, rfl, EN, EZ, Fg⟩ := hv
      obtain ⟨AS, AH, rfl⟩ := ed EN
      have OZ := ec (Strs.mono EN fun g hg => Nat.le_trans AD.out.size hg)
      clear EN
      obtain ⟨AN, AI, rfl⟩ := ed EZ
      have Ku := ec (Terms.mono EZ fun g hg => Nat.le_trans AD.out.size hg)
      clear EZ
      obtain ⟨AJ, AG, rfl⟩ := ed Fg
      have Ka := ec (Terms.mono Fg fun g hg => Nat.le_trans AD.out.size hg)
      clear Fg
      clear he ho hR hF Hl Iy AD HO
      obtain ⟨Ww, Zd, bD, UF, bW, bu, UE, TZ, Vr, WJ, UX, QQ⟩ := eF Bn.out
      obtain ⟨UM, Ud, RI, Qk⟩ := fj IY.out
      have Re := qc.out
      have QT := qd.out
      go_wp2_with fail
      have hz := (And.intro Ww (And.intro Zd (And.intro bD (And.intro UF (And.intro bW (And.intro bu (And.intro UE (And.intro TZ (And.intro Vr (And.intro WJ (And.intro UX (And.intro QQ (And.intro UM (And.intro Ud (And.intro RI (And.intro Qk (And.intro Re QT)))))))))))))))))
      simp [bodyPost, results, Tryz.results252, go_sem, hz]
      have LH := eH 0 (.int .i64 Aa.kind) OZ Bn
      clear OZ
      have Ju := eV 0 (.int .i64 Aa.kind) Ku Bn
      clear Ku
      have JJ := eV 0 (.int .i64 Aa.kind) Ka Bn
      clear Ka
      have BF := ep 0 (.int .i64 Aa.kind) Bn
      have Jo := ew w 0 (.int .i64 Aa.kind) IY qd
      clear Bn IY
      have Fc := eo Ik Ak 0 (.int .i64 Aa.kind)
      have Ha := em GD Aq 0 (.int .i64 Aa.kind)
      clear Ik GD
      have NO := eH 1 (.bool Aa.lit.neg) LH BF
      clear LH
      have OU := eV 1 (.bool Aa.lit.neg) Ju BF
      clear Ju
      have OY := eV 1 (.bool Aa.lit.neg) JJ BF
      clear JJ
      have BW := ep 1 (.bool Aa.lit.neg) BF
      have Jw := ew w 1 (.bool Aa.lit.neg) Jo qd
      clear BF Jo
      have Hw := eo Fc Ak 1 (.bool Aa.lit.neg)
      have IQ := em Ha Aq 1 (.bool Aa.lit.neg)
      clear Fc Ha
      have LN := eH 2 (.string ⟨Aa.lit.pred.toArray⟩) NO BW
      clear NO
      have Lo := eV 2 (.string ⟨Aa.lit.pred.toArray⟩) OU BW
      clear OU
      have Ls := eV 2 (.string ⟨Aa.lit.pred.toArray⟩) OY BW
      clear OY
      have BY := ep 2 (.string ⟨Aa.lit.pred.toArray⟩) BW
      have JY := ew w 2 (.string ⟨Aa.lit.pred.toArray⟩) Jw qd
      clear BW Jw
      have GP := eo Hw Ak 2 (.string ⟨Aa.lit.pred.toArray⟩)
      have DE := em IQ Aq 2 (.string ⟨Aa.lit.pred.toArray⟩)
      clear Hw IQ
      have OW := eH 3 (.slice AS Aa.lit.args.length AH) LN BY
      clear LN
      have MC := eV 3 (.slice AS Aa.lit.args.length AH) Lo BY
      clear Lo
      have Ng := eV 3 (.slice AS Aa.lit.args.length AH) Ls BY
      clear Ls
      have BR := ep 3 (.slice AS Aa.lit.args.length AH) BY
      have LY := ew w 3 (.slice AS Aa.lit.args.length AH) JY qd
      clear BY JY
      have IB := eo GP Ak 3 (.slice AS Aa.lit.args.length AH)
      have Gc := em DE Aq 3 (.slice AS Aa.lit.args.length AH)
      clear GP DE
      have Kh := eH 4 (.bool Aa.lit.hasValue) OW BR
      clear OW
      have LX := eV 4 (.bool Aa.lit.hasValue) MC BR
      clear MC
      have NH := eV 4 (.bool Aa.lit.hasValue) Ng BR
      clear Ng
      have Ce := ep 4 (.bool Aa.lit.hasValue) BR
      have Ll := ew w 4 (.bool Aa.lit.hasValue) LY qd
      clear BR LY
      have IJ := eo IB Ak 4 (.bool Aa.lit.hasValue)
      have Hu := em Gc Aq 4 (.bool Aa.lit.hasValue)
      clear IB Gc
      have MJ := eH 5 (.int .i64 Aa.lit.value) Kh Ce
      clear Kh
      have Od := eV 5 (.int .i64 Aa.lit.value) LX Ce
      clear LX
      have Mm := eV 5 (.int .i64 Aa.lit.value) NH Ce
      clear NH
      have BI := ep 5 (.int .i64 Aa.lit.value) Ce
      have Nm := ew w 5 (.int .i64 Aa.lit.value) Ll qd
      clear Ce Ll
      have FS := eo IJ Ak 5 (.int .i64 Aa.lit.value)
      have IG := em Hu Aq 5 (.int .i64 Aa.lit.value)
      clear IJ Hu
      have NN := eH 6 (.slice AN Aa.guard.left.length AI) MJ BI
      clear MJ
      have Lk := eV 6 (.slice AN Aa.guard.left.length AI) Od BI
      clear Od
      have Nc := eV 6 (.slice AN Aa.guard.left.length AI) Mm BI
      clear Mm
      have BT := ep 6 (.slice AN Aa.guard.left.length AI) BI
      have Oi := ew w 6 (.slice AN Aa.guard.left.length AI) Nm qd
      clear BI Nm
      have GN := eo FS Ak 6 (.slice AN Aa.guard.left.length AI)
      have IP := em IG Aq 6 (.slice AN Aa.guard.left.length AI)
      clear FS IG
      have KX := eH 7 (.int .i64 Aa.guard.op) NN BT
      clear NN
      have Lf := eV 7 (.int .i64 Aa.guard.op) Lk BT
      clear Lk
      have KC := eV 7 (.int .i64 Aa.guard.op) Nc BT
      clear Nc
      have BK := ep 7 (.int .i64 Aa.guard.op) BT
      have JU := ew w 7 (.int .i64 Aa.guard.op) Oi qd
      clear BT Oi
      have GO := eo GN Ak 7 (.int .i64 Aa.guard.op)
      have Fe := em IP Aq 7 (.int .i64 Aa.guard.op)
      clear GN IP
      have OH := eH 8 (.slice AJ Aa.guard.right.length AG) KX BK
      clear KX
      have OP := eV 8 (.slice AJ Aa.guard.right.length AG) Lf BK
      clear Lf
      have Mx := eV 8 (.slice AJ Aa.guard.right.length AG) KC BK
      clear KC
      have BL := ep 8 (.slice AJ Aa.guard.right.length AG) BK
      have Nz := ew w 8 (.slice AJ Aa.guard.right.length AG) JU qd
      clear BK JU
      have GK := eo GO Ak 8 (.slice AJ Aa.guard.right.length AG)
      have Hs := em Fe Aq 8 (.slice AJ Aa.guard.right.length AG)
      clear GO Fe
      have OX := eH 9 (.string ⟨Aa.a.toArray⟩) OH BL
      clear OH
      have NT := eV 9 (.string ⟨Aa.a.toArray⟩) OP BL
      clear OP
      have LP := eV 9 (.string ⟨Aa.a.toArray⟩) Mx BL
      clear Mx
      have BJ := ep 9 (.string ⟨Aa.a.toArray⟩) BL
      have Nr := ew w 9 (.string ⟨Aa.a.toArray⟩) Nz qd
      clear BL Nz
      have IE := eo GK Ak 9 (.string ⟨Aa.a.toArray⟩)
      have Hc := em Hs Aq 9 (.string ⟨Aa.a.toArray⟩)
      clear GK Hs
      have bb := eH 10 (.string ⟨Aa.b.toArray⟩) OX BJ
      clear OX
      have aQ := eV 10 (.string ⟨Aa.b.toArray⟩) NT BJ
      clear NT
      have RM := eV 10 (.string ⟨Aa.b.toArray⟩) LP BJ
      clear LP
      have dM := ep 10 (.string ⟨Aa.b.toArray⟩) BJ
      have dG := ew w 10 (.string ⟨Aa.b.toArray⟩) Nr qd
      clear BJ Nr
      have QK := eo IE Ak 10 (.string ⟨Aa.b.toArray⟩)
      have PK := em Hc Aq 10 (.string ⟨Aa.b.toArray⟩)
      clear IE Hc
      exact .of_ok Jf.out (⟨_, _, _, rfl, bb.out, aQ.out, RM.out⟩) QK.out PK.out
     | false =>
      rw [hm] at CM
      have HO := ec (fc ho (by simp [hm]))
      have At := gc HO.out
      have CN := ec (ib L s.n (eI L N s.n) [123])
      cases hm2 : eT (kt L) s.n [123] with
      | true =>
       rw [hm2] at CN
       clear HO
       have HO := ec (fs At hm2)
       rw [hk] at Ar CN
       clear ho At hk hm hm2
       go_enter Tryz.func252, Tryz.ntmps252
       have CG : Below _ _ ((w).alloc (.cells #[.int .i64 0, .bool false, .string ⟨#[]⟩, .slice none 0 0, .bool false, .int .i64 0, .slice none 0 0, .int .i64 0, .slice none 0 0, .string ⟨#[]⟩, .string ⟨#[]⟩] 108)) := (Below.refl _ _).alloc (Nat.le_refl _) _
       have Al : Hid (R < w.heap.size) := ec H.out.lt
       have An : Hid (w.heap.size ≤ w.heap.size) := ec F.out.size
       have Di := ec (heap_alloc_new (w) (.cells #[.int .i64 0, .bool false, .string ⟨#[]⟩, .slice none 0 0, .bool false, .int .i64 0, .slice none 0 0, .int .i64 0, .slice none 0 0, .string ⟨#[]⟩, .string ⟨#[]⟩] 108))
       have Cy := ec (H.out.below CG)
       have Ev := ec (F.out.trans (Fq.of_below CG))
       clear H F CG
       go_wp2_with fail
       refine (Ar.out _ Cy.out).mono ?_
       rintro _ AF ⟨rfl, hb⟩
       have AU := eK hb Di
       clear Di
       have Cv := ec (Cy.out.below hb)
       have Ct := ec (Ev.out.trans (Fq.of_below hb))
       clear hb Cy Ev
       obtain ⟨XP, VK, ZT, Zy, TO, WO, Zj, au, Wg, Vw, YJ, PX⟩ := eF AU.out
       have BC : Below _ _ ((AF).alloc (.cells #[.int .i64 2, .string ⟨(tx (kt L) s.n).toArray⟩, .int .i64 (eI L N s.n)] 188)) := (Below.refl _ _).alloc (Nat.le_refl _) _
       have Pb : Hid (R < AF.heap.size) := ec Cv.out.lt
       have du : Hid (w.heap.size ≤ AF.heap.size) := ec Ct.out.size
       have qc : Hid (w.heap.size ≠ AF.heap.size) := ec (Nat.ne_of_lt (eN AU.out))
       have qd : Hid (AF.heap.size ≠ w.heap.size) := ec (Nat.ne_of_gt (eN AU.out))
       have Hg := ec ((BC.block _ (eN AU.out)).trans AU.out)
       clear AU
       have Bs := ec (heap_alloc_new (AF) (.cells #[.int .i64 2, .string ⟨(tx (kt L) s.n).toArray⟩, .int .i64 (eI L N s.n)] 188))
       have CD := ec (Cv.out.below BC)
       have IM := ec (Ct.out.trans (Fq.of_below BC))
       clear Cv Ct BC
       obtain ⟨VJ, Ws, WD, Zw, Za, bw, bi, Tx, Td, Tg, Rv, PC⟩ := eF Hg.out
       obtain ⟨bf, Sx, XQ, Qz⟩ := fj Bs.out
       have QG := qc.out
       have Rf := qd.out
       go_wp2_with fail
       refine (fm R L N s st _ CD.out 1 (by omega)).mono ?_
       rintro _ dl ⟨rfl, hb⟩
       clear XP VK ZT Zy TO WO Zj au Wg Vw YJ PX VJ Ws WD Zw Za bw bi Tx Td Tg Rv PC bf Sx XQ Qz QG Rf
       have EY := eK hb Hg
       clear Hg
       have Ie := eK hb Bs
       clear Bs
       have EA := ec (CD.out.below hb)
       have He := ec (IM.out.trans (Fq.of_below hb))
       clear hb CD IM
       obtain ⟨aZ, Tz, bd, Xn, bO, Zz, Xf, cu, RV, TD, Yz, Qg⟩ := eF EY.out
       obtain ⟨Zs, XE, Yf, Qw⟩ := fj Ie.out
       have Ro := qc.out
       have QY := qd.out
       go_wp2_with fail
       refine (CM.out _).mono ?_
       rintro _ ds ⟨rfl, hb⟩
       clear aZ Tz bd Xn bO Zz Xf cu RV TD Yz Qg Zs XE Yf Qw Ro QY
       have HQ := eK hb EY
       clear EY
       have Iq := eK hb Ie
       clear Ie
       have Gx := ec (EA.out.below hb)
       have EE := ec (He.out.trans (Fq.of_below hb))
       clear hb EA He
       obtain ⟨TI, aR, ZD, TQ, Vq, RF, aM, aX, WW, bg, Vf, Pj⟩ := eF HQ.out
       obtain ⟨Yl, YN, Tc, Pt⟩ := fj Iq.out
       have Pg := qc.out
       have PT := qd.out
       go_wp2_with fail
       refine (CN.out _).mono ?_
       rintro _ dg ⟨rfl, hb⟩
       clear TI aR ZD TQ Vq RF aM aX WW bg Vf Pj Yl YN Tc Pt Pg PT
       have Fh := eK hb HQ
       clear HQ
       have IR := eK hb Iq
       clear Iq
       have Fd := ec (Gx.out.below hb)
       have AM := ec (EE.out.trans (Fq.of_below hb))
       clear hb Gx EE
       obtain ⟨RD, bZ, XX, TN, UA, Zq, Xo, TM, Te, SW, ca, PQ⟩ := eF Fh.out
       obtain ⟨Yu, Zt, YQ, Qs⟩ := fj IR.out
       have Pp := qc.out
       have QB := qd.out
       have GY := ec (nx R L N s st _ Fd.out _ rfl)
       go_wp2_with fail
       refine GY.out.mono ?_
       intro e dr he
       rcases he.split with ⟨Af, cM, cY, ho, rfl, hv, hR, hF⟩ | ⟨c, m, ho, rfl, hF⟩
       rotate_left 1
       · exact eg rfl (.of_bad (el HO.out ho) (AM.out.trans hF))
       clear RD bZ XX TN UA Zq Xo TM Te SW ca PQ Yu Zt YQ Qs Pp QB
       have Jc := ec (ej HO.out ho)
       have BV := eW hF Fh Al
       clear Fh
       have Gj := eW hF IR Pb
       clear IR
       have Ff := ec hR
       have Fa := ec (AM.out.trans hF)
       obtain ⟨cD, cF, rfl, HY, IA⟩ := hv
       obtain ⟨Bl, AY, rfl⟩ := ed HY
       have Oz := ec (Terms.mono HY fun g hg => Nat.le_trans AM.out.size hg)
       clear HY
       obtain ⟨Ba, Bi, rfl⟩ := ed IA
       have LC := ec (Terms.mono IA fun g hg => Nat.le_trans AM.out.size hg)
       clear IA
       clear he ho hR hF GY Fd AM HO
       obtain ⟨TT, RP, YI, ZF, TG, aO, XI, UU, Wa, Zr, ce, Rg⟩ := eF BV.out
       obtain ⟨Ue, Xa, Rs, Rk⟩ := fj Gj.out
       have QS := qc.out
       have Pa := qd.out
       go_wp2_with fail
       have hz := (And.intro TT (And.intro RP (And.intro YI (And.intro ZF (And.intro TG (And.intro aO (And.intro XI (And.intro UU (And.intro Wa (And.intro Zr (And.intro ce (And.intro Rg (And.intro Ue (And.intro Xa (And.intro Rs (And.intro Rk (And.intro QS Pa)))))))))))))))))
       simp [bodyPost, results, Tryz.results252, go_sem, hz]
       have Nn := eV 0 (.int .i64 2) Oz BV
       clear Oz
       have Mk := eV 0 (.int .i64 2) LC BV
       clear LC
       have Du := ep 0 (.int .i64 2) BV
       have OQ := ew w 0 (.int .i64 2) Gj qd
       clear BV Gj
       have DS := eo Ff Al 0 (.int .i64 2)
       have EG := em Fa An 0 (.int .i64 2)
       clear Ff Fa
       have NJ := eV 1 (.bool false) Nn Du
       clear Nn
       have Os := eV 1 (.bool false) Mk Du
       clear Mk
       have Dg := ep 1 (.bool false) Du
       have Oa := ew w 1 (.bool false) OQ qd
       clear Du OQ
       have Eu := eo DS Al 1 (.bool false)
       have Ex := em EG An 1 (.bool false)
       clear DS EG
       have Jq := eV 2 (.string ⟨#[]⟩) NJ Dg
       clear NJ
       have Kc := eV 2 (.string ⟨#[]⟩) Os Dg
       clear Os
       have Dv := ep 2 (.string ⟨#[]⟩) Dg
       have JI := ew w 2 (.string ⟨#[]⟩) Oa qd
       clear Dg Oa
       have HX := eo Eu Al 2 (.string ⟨#[]⟩)
       have GL := em Ex An 2 (.string ⟨#[]⟩)
       clear Eu Ex
       have Lw := eV 3 (.slice none 0 0) Jq Dv
       clear Jq
       have Lp := eV 3 (.slice none 0 0) Kc Dv
       clear Kc
       have CX := ep 3 (.slice none 0 0) Dv
       have Oh := ew w 3 (.slice none 0 0) JI qd
       clear Dv JI
       have Ej := eo HX Al 3 (.slice none 0 0)
       have DG := em GL An 3 (.slice none 0 0)
       clear HX GL
       have KH := eV 4 (.bool false) Lw CX
       clear Lw
       have NM := eV 4 (.bool false) Lp CX
       clear Lp
       have CW := ep 4 (.bool false) CX
       have OD := ew w 4 (.bool false) Oh qd
       clear CX Oh
       have Ep := eo Ej Al 4 (.bool false)
       have EU := em DG An 4 (.bool false)
       clear Ej DG
       have Nu := eV 5 (.int .i64 0) KH CW
       clear KH
       have OR := eV 5 (.int .i64 0) NM CW
       clear NM
       have CU := ep 5 (.int .i64 0) CW
       have OF := ew w 5 (.int .i64 0) OD qd
       clear CW OD
       have Ht := eo Ep Al 5 (.int .i64 0)
       have FF := em EU An 5 (.int .i64 0)
       clear Ep EU
       have Nh := eV 6 (.slice Bl Af.left.length AY) Nu CU
       clear Nu
       have ON := eV 6 (.slice Bl Af.left.length AY) OR CU
       clear OR
       have Dl := ep 6 (.slice Bl Af.left.length AY) CU
       have KO := ew w 6 (.slice Bl Af.left.length AY) OF qd
       clear CU OF
       have Gu := eo Ht Al 6 (.slice Bl Af.left.length AY)
       have FK := em FF An 6 (.slice Bl Af.left.length AY)
       clear Ht FF
       have Ok := eV 7 (.int .i64 Af.op) Nh Dl
       clear Nh
       have Jt := eV 7 (.int .i64 Af.op) ON Dl
       clear ON
       have CZ := ep 7 (.int .i64 Af.op) Dl
       have OT := ew w 7 (.int .i64 Af.op) KO qd
       clear Dl KO
       have HS := eo Gu Al 7 (.int .i64 Af.op)
       have Hj := em FK An 7 (.int .i64 Af.op)
       clear Gu FK
       have Mu := eV 8 (.slice Ba Af.right.length Bi) Ok CZ
       clear Ok
       have MF := eV 8 (.slice Ba Af.right.length Bi) Jt CZ
       clear Jt
       have Dk := ep 8 (.slice Ba Af.right.length Bi) CZ
       have Jx := ew w 8 (.slice Ba Af.right.length Bi) OT qd
       clear CZ OT
       have HE := eo HS Al 8 (.slice Ba Af.right.length Bi)
       have Gt := em Hj An 8 (.slice Ba Af.right.length Bi)
       clear HS Hj
       have JB := eV 9 (.string ⟨#[]⟩) Mu Dk
       clear Mu
       have Ox := eV 9 (.string ⟨#[]⟩) MF Dk
       clear MF
       have Dm := ep 9 (.string ⟨#[]⟩) Dk
       have ND := ew w 9 (.string ⟨#[]⟩) Jx qd
       clear Dk Jx
       have Ea := eo HE Al 9 (.string ⟨#[]⟩)
       have HD := em Gt An 9 (.string ⟨#[]⟩)
       clear HE Gt
       have Sp := eV 10 (.string ⟨#[]⟩) JB Dm
       clear JB
       have bI := eV 10 (.string ⟨#[]⟩) Ox Dm
       clear Ox
       have dz := ep 10 (.string ⟨#[]⟩) Dm
       have dE := ew w 10 (.string ⟨#[]⟩) ND qd
       clear Dm ND
       have PH := eo Ea Al 10 (.string ⟨#[]⟩)
       have Pz := em HD An 10 (.string ⟨#[]⟩)
       clear Ea HD
       exact .of_ok Jc.out (⟨_, _, _, rfl, Rows.nil _ _ _ _ _, Sp.out, bI.out⟩) PH.out Pz.out
      | false =>
       rw [hm2] at CN
       clear HO
       have HO := ec (fc At hm2)
       rw [hk] at Ar CN
       clear ho At hk hm hm2
       go_enter Tryz.func252, Tryz.ntmps252
       have Cr : Below _ _ ((w).alloc (.cells #[.int .i64 0, .bool false, .string ⟨#[]⟩, .slice none 0 0, .bool false, .int .i64 0, .slice none 0 0, .int .i64 0, .slice none 0 0, .string ⟨#[]⟩, .string ⟨#[]⟩] 108)) := (Below.refl _ _).alloc (Nat.le_refl _) _
       have Aj : Hid (R < w.heap.size) := ec H.out.lt
       have As : Hid (w.heap.size ≤ w.heap.size) := ec F.out.size
       have CK := ec (heap_alloc_new (w) (.cells #[.int .i64 0, .bool false, .string ⟨#[]⟩, .slice none 0 0, .bool false, .int .i64 0, .slice none 0 0, .int .i64 0, .slice none 0 0, .string ⟨#[]⟩, .string ⟨#[]⟩] 108))
       have CC := ec (H.out.below Cr)
       have Hx := ec (F.out.trans (Fq.of_below Cr))
       clear H F Cr
       go_wp2_with fail
       refine (Ar.out _ CC.out).mono ?_
       rintro _ AC ⟨rfl, hb⟩
       have AV := eK hb CK
       clear CK
       have CB := ec (CC.out.below hb)
       have Cz := ec (Hx.out.trans (Fq.of_below hb))
       clear hb CC Hx
       obtain ⟨Xb, RE, Xz, UV, RO, SG, Se, ZR, WP, Wt, Tb, Qq⟩ := eF AV.out
       have Bz : Below _ _ ((AC).alloc (.cells #[.int .i64 2, .string ⟨(tx (kt L) s.n).toArray⟩, .int .i64 (eI L N s.n)] 188)) := (Below.refl _ _).alloc (Nat.le_refl _) _
       have QE : Hid (R < AC.heap.size) := ec CB.out.lt
       have di : Hid (w.heap.size ≤ AC.heap.size) := ec Cz.out.size
       have qc : Hid (w.heap.size ≠ AC.heap.size) := ec (Nat.ne_of_lt (eN AV.out))
       have qd : Hid (AC.heap.size ≠ w.heap.size) := ec (Nat.ne_of_gt (eN AV.out))
       have Et := ec ((Bz.block _ (eN AV.out)).trans AV.out)
       clear AV
       have BA := ec (heap_alloc_new (AC) (.cells #[.int .i64 2, .string ⟨(tx (kt L) s.n).toArray⟩, .int .i64 (eI L N s.n)] 188))
       have CH := ec (CB.out.below Bz)
       have FD := ec (Cz.out.trans (Fq.of_below Bz))
       clear CB Cz Bz
       obtain ⟨Uy, Ug, cl, Ur, bp, Xv, bA, Rr, Sk, SD, XA, Ql⟩ := eF Et.out
       obtain ⟨UQ, YX, Wi, Qm⟩ := fj BA.out
       have Rm := qc.out
       have Pl := qd.out
       go_wp2_with fail
       refine (fm R L N s st _ CH.out 1 (by omega)).mono ?_
       rintro _ de ⟨rfl, hb⟩
       clear Xb RE Xz UV RO SG Se ZR WP Wt Tb Qq Uy Ug cl Ur bp Xv bA Rr Sk SD XA Ql UQ YX Wi Qm Rm Pl
       have EJ := eK hb Et
       clear Et
       have Ix := eK hb BA
       clear BA
       have Im := ec (CH.out.below hb)
       have Fp := ec (FD.out.trans (Fq.of_below hb))
       clear hb CH FD
       obtain ⟨UO, SE, St, Vh, am, Xw, Ua, Zf, ad, UB, aP, Qv⟩ := eF EJ.out
       obtain ⟨WV, Wv, Zc, Py⟩ := fj Ix.out
       have PL := qc.out
       have Pv := qd.out
       go_wp2_with fail
       refine (CM.out _).mono ?_
       rintro _ cO ⟨rfl, hb⟩
       clear UO SE St Vh am Xw Ua Zf ad UB aP Qv WV Wv Zc Py PL Pv
       have HM := eK hb EJ
       clear EJ
       have ED := eK hb Ix
       clear Ix
       have DF := ec (Im.out.below hb)
       have Fy := ec (Fp.out.trans (Fq.of_below hb))
       clear hb Im Fp
       obtain ⟨Sy, Yp, YB, XF, Vk, SF, ZL, Uj, TW, aE, aT, Qt⟩ := eF HM.out
       obtain ⟨Vx, bs, XU, QL⟩ := fj ED.out
       have Ps := qc.out
       have Rp := qd.out
       go_wp2_with fail
       refine (CN.out _).mono ?_
       rintro _ da ⟨rfl, hb⟩
       clear Sy Yp YB XF Vk SF ZL Uj TW aE aT Qt Vx bs XU QL Ps Rp
       have En := eK hb HM
       clear HM
       have EV := eK hb ED
       clear ED
       have Fi := ec (DF.out.below hb)
       have Bx := ec (Fy.out.trans (Fq.of_below hb))
       clear hb DF Fy
       obtain ⟨aF, aS, Rw, cm, Zh, Zx, VG, ZZ, SU, Wu, Yw, PD⟩ := eF En.out
       obtain ⟨bk, VO, SJ, Pr⟩ := fj EV.out
       have Qa := qc.out
       have PF := qd.out
       have Fz := ec (i7 R L N s st _ Fi.out _ rfl)
       go_wp2_with fail
       refine Fz.out.mono ?_
       intro e dq he
       rcases he.split with ⟨Ae, dk, cI, ho, rfl, hv, hR, hF⟩ | ⟨c, m, ho, rfl, hF⟩
       rotate_left 1
       · exact eg rfl (.of_bad (el HO.out ho) (Bx.out.trans hF))
       clear aF aS Rw cm Zh Zx VG ZZ SU Wu Yw PD bk VO SJ Pr Qa PF
       have Jd := ec (ej HO.out ho)
       have De := eW hF En Aj
       clear En
       have GM := eW hF EV QE
       clear EV
       have HT := ec hR
       have Fm := ec (Bx.out.trans hF)
       obtain ⟨cG, rfl, Fl⟩ := hv
       obtain ⟨Cf, Ca, rfl⟩ := ed Fl
       have Kb := ec (Strs.mono Fl fun g hg => Nat.le_trans Bx.out.size hg)
       clear Fl
       clear he ho hR hF Fz Fi Bx HO
       obtain ⟨ZX, az, Vc, Rz, ZP, RA, Uk, VQ, SA, ao, Xj, PE⟩ := eF De.out
       obtain ⟨Yc, Yd, aY, Pe⟩ := fj GM.out
       have Pu := qc.out
       have Qu := qd.out
       go_wp2_with fail
       have hz := (And.intro ZX (And.intro az (And.intro Vc (And.intro Rz (And.intro ZP (And.intro RA (And.intro Uk (And.intro VQ (And.intro SA (And.intro ao (And.intro Xj (And.intro PE (And.intro Yc (And.intro Yd (And.intro aY (And.intro Pe (And.intro Pu Qu)))))))))))))))))
       simp [bodyPost, results, Tryz.results252, go_sem, hz]
       have Kl := eH 0 (.int .i64 1) Kb De
       clear Kb
       have DQ := ep 0 (.int .i64 1) De
       have NR := ew w 0 (.int .i64 1) GM qd
       clear De GM
       have Eo := eo HT Aj 0 (.int .i64 1)
       have ET := em Fm As 0 (.int .i64 1)
       clear HT Fm
       have OE := eH 1 (.bool Ae.neg) Kl DQ
       clear Kl
       have DP := ep 1 (.bool Ae.neg) DQ
       have MI := ew w 1 (.bool Ae.neg) NR qd
       clear DQ NR
       have Iw := eo Eo Aj 1 (.bool Ae.neg)
       have Fr := em ET As 1 (.bool Ae.neg)
       clear Eo ET
       have Ji := eH 2 (.string ⟨Ae.pred.toArray⟩) OE DP
       clear OE
       have Gp := ep 2 (.string ⟨Ae.pred.toArray⟩) DP
       have JA := ew w 2 (.string ⟨Ae.pred.toArray⟩) MI qd
       clear DP MI
       have Ga := eo Iw Aj 2 (.string ⟨Ae.pred.toArray⟩)
       have Hf := em Fr As 2 (.string ⟨Ae.pred.toArray⟩)
       clear Iw Fr
       have JM := eH 3 (.slice Cf Ae.args.length Ca) Ji Gp
       clear Ji
       have DY := ep 3 (.slice Cf Ae.args.length Ca) Gp
       have LV := ew w 3 (.slice Cf Ae.args.length Ca) JA qd
       clear Gp JA
       have GT := eo Ga Aj 3 (.slice Cf Ae.args.length Ca)
       have EI := em Hf As 3 (.slice Cf Ae.args.length Ca)
       clear Ga Hf
       have Lq := eH 4 (.bool Ae.hasValue) JM DY
       clear JM
       have Fw := ep 4 (.bool Ae.hasValue) DY
       have NU := ew w 4 (.bool Ae.hasValue) LV qd
       clear DY LV
       have Il := eo GT Aj 4 (.bool Ae.hasValue)
       have EK := em EI As 4 (.bool Ae.hasValue)
       clear GT EI
       have Ms := eH 5 (.int .i64 Ae.value) Lq Fw
       clear Lq
       have IC := ep 5 (.int .i64 Ae.value) Fw
       have LW := ew w 5 (.int .i64 Ae.value) NU qd
       clear Fw NU
       have GI := eo Il Aj 5 (.int .i64 Ae.value)
       have FM := em EK As 5 (.int .i64 Ae.value)
       clear Il EK
       have Mz := eH 6 (.slice none 0 0) Ms IC
       clear Ms
       have Hk := ep 6 (.slice none 0 0) IC
       have Lu := ew w 6 (.slice none 0 0) LW qd
       clear IC LW
       have FO := eo GI Aj 6 (.slice none 0 0)
       have Is := em FM As 6 (.slice none 0 0)
       clear GI FM
       have Li := eH 7 (.int .i64 0) Mz Hk
       clear Mz
       have Ij := ep 7 (.int .i64 0) Hk
       have OA := ew w 7 (.int .i64 0) Lu qd
       clear Hk Lu
       have HJ := eo FO Aj 7 (.int .i64 0)
       have DU := em Is As 7 (.int .i64 0)
       clear FO Is
       have KB := eH 8 (.slice none 0 0) Li Ij
       clear Li
       have HU := ep 8 (.slice none 0 0) Ij
       have JK := ew w 8 (.slice none 0 0) OA qd
       clear Ij OA
       have EF := eo HJ Aj 8 (.slice none 0 0)
       have Eb := em DU As 8 (.slice none 0 0)
       clear HJ DU
       have Mi := eH 9 (.string ⟨#[]⟩) KB HU
       clear KB
       have Hp := ep 9 (.string ⟨#[]⟩) HU
       have Kt := ew w 9 (.string ⟨#[]⟩) JK qd
       clear HU JK
       have IH := eo EF Aj 9 (.string ⟨#[]⟩)
       have EH := em Eb As 9 (.string ⟨#[]⟩)
       clear EF Eb
       have Yr := eH 10 (.string ⟨#[]⟩) Mi Hp
       clear Mi
       have dW := ep 10 (.string ⟨#[]⟩) Hp
       have dO := ew w 10 (.string ⟨#[]⟩) Kt qd
       clear Hp Kt
       have QD := eo IH Aj 10 (.string ⟨#[]⟩)
       have Pd := em EH As 10 (.string ⟨#[]⟩)
       clear IH EH
       exact .of_ok Jd.out (⟨_, _, _, rfl, Yr.out, Rows.nil _ _ _ _ _, Rows.nil _ _ _ _ _⟩) QD.out Pd.out
   · have HO := ec (fc ho (by simp [hk1, hk2]))
     have At := gc HO.out
     have CN := ec (ib L s.n (eI L N s.n) [123])
     cases hm2 : eT (kt L) s.n [123] with
     | true =>
      rw [hm2] at CN
      clear HO
      have HO := ec (fs At hm2)
      have hk1' : ¬ ((kd (kt L) s.n : Nat) : Int) = 1 := by omega
      have hk2' : ¬ ((kd (kt L) s.n : Nat) : Int) = 2 := by omega
      clear ho At hk1 hk2 hm2
      go_enter Tryz.func252, Tryz.ntmps252
      have Cp : Below _ _ ((w).alloc (.cells #[.int .i64 0, .bool false, .string ⟨#[]⟩, .slice none 0 0, .bool false, .int .i64 0, .slice none 0 0, .int .i64 0, .slice none 0 0, .string ⟨#[]⟩, .string ⟨#[]⟩] 108)) := (Below.refl _ _).alloc (Nat.le_refl _) _
      have Ai : Hid (R < w.heap.size) := ec H.out.lt
      have Ao : Hid (w.heap.size ≤ w.heap.size) := ec F.out.size
      have CV := ec (heap_alloc_new (w) (.cells #[.int .i64 0, .bool false, .string ⟨#[]⟩, .slice none 0 0, .bool false, .int .i64 0, .slice none 0 0, .int .i64 0, .slice none 0 0, .string ⟨#[]⟩, .string ⟨#[]⟩] 108))
      have CE := ec (H.out.below Cp)
      have Ft := ec (F.out.trans (Fq.of_below Cp))
      clear H F Cp
      go_wp2_with fail
      refine (Ar.out _ CE.out).mono ?_
      rintro _ AA ⟨rfl, hb⟩
      have Bm := eK hb CV
      clear CV
      have Cx := ec (CE.out.below hb)
      have Cq := ec (Ft.out.trans (Fq.of_below hb))
      clear hb CE Ft
      obtain ⟨Vp, cn, cs, VT, SI, Wn, UP, al, bF, SH, Sf, Ra⟩ := eF Bm.out
      have Bw : Below _ _ ((AA).alloc (.cells #[.int .i64 (kd (kt L) s.n), .string ⟨(tx (kt L) s.n).toArray⟩, .int .i64 (eI L N s.n)] 188)) := (Below.refl _ _).alloc (Nat.le_refl _) _
      have Pn : Hid (R < AA.heap.size) := ec Cx.out.lt
      have cX : Hid (w.heap.size ≤ AA.heap.size) := ec Cq.out.size
      have qc : Hid (w.heap.size ≠ AA.heap.size) := ec (Nat.ne_of_lt (eN Bm.out))
      have qd : Hid (AA.heap.size ≠ w.heap.size) := ec (Nat.ne_of_gt (eN Bm.out))
      have Ic := ec ((Bw.block _ (eN Bm.out)).trans Bm.out)
      clear Bm
      have Bv := ec (heap_alloc_new (AA) (.cells #[.int .i64 (kd (kt L) s.n), .string ⟨(tx (kt L) s.n).toArray⟩, .int .i64 (eI L N s.n)] 188))
      have Gm := ec (Cx.out.below Bw)
      have Fk := ec (Cq.out.trans (Fq.of_below Bw))
      clear Cx Cq Bw
      obtain ⟨af, Sc, WB, VX, ST, Tm, ax, Sn, Sw, ZH, ZA, QW⟩ := eF Ic.out
      obtain ⟨UZ, Wc, TX, QX⟩ := fj Bv.out
      have Qc := qc.out
      have Qo := qd.out
      go_wp2_with fail
      refine (CN.out _).mono ?_
      rintro _ dw ⟨rfl, hb⟩
      clear Vp cn cs VT SI Wn UP al bF SH Sf Ra af Sc WB VX ST Tm ax Sn Sw ZH ZA QW UZ Wc TX QX Qc Qo
      have Ii := eK hb Ic
      clear Ic
      have Ew := eK hb Bv
      clear Bv
      have Gb := ec (Gm.out.below hb)
      have AP := ec (Fk.out.trans (Fq.of_below hb))
      clear hb Gm Fk
      obtain ⟨UL, Uw, aI, WF, Zb, Sj, aC, Yi, VZ, cc, ci, PZ⟩ := eF Ii.out
      obtain ⟨Tf, Yn, Yo, QP⟩ := fj Ew.out
      have QI := qc.out
      have PP := qd.out
      have HH := ec (nx R L N s st _ Gb.out _ rfl)
      go_wp2_with fail
      refine HH.out.mono ?_
      intro e df he
      rcases he.split with ⟨Ag, cL, cZ, ho, rfl, hv, hR, hF⟩ | ⟨c, m, ho, rfl, hF⟩
      rotate_left 1
      · exact eg rfl (.of_bad (el HO.out ho) (AP.out.trans hF))
      clear UL Uw aI WF Zb Sj aC Yi VZ cc ci PZ Tf Yn Yo QP QI PP
      have Ja := ec (ej HO.out ho)
      have BG := eW hF Ii Ai
      clear Ii
      have Ei := eW hF Ew Pn
      clear Ew
      have HB := ec hR
      have FA := ec (AP.out.trans hF)
      obtain ⟨cC, cE, rfl, Gv, DI⟩ := hv
      obtain ⟨Bd, Bg, rfl⟩ := ed Gv
      have NQ := ec (Terms.mono Gv fun g hg => Nat.le_trans AP.out.size hg)
      clear Gv
      obtain ⟨Bj, AZ, rfl⟩ := ed DI
      have OS := ec (Terms.mono DI fun g hg => Nat.le_trans AP.out.size hg)
      clear DI
      clear he ho hR hF HH Gb AP HO
      obtain ⟨av, TY, ap, XZ, Yt, XN, Yy, WY, YY, Tn, UC, PY⟩ := eF BG.out
      obtain ⟨VB, SR, bh, QA⟩ := fj Ei.out
      have Rl := qc.out
      have PJ := qd.out
      go_wp2_with fail
      have hz := (And.intro av (And.intro TY (And.intro ap (And.intro XZ (And.intro Yt (And.intro XN (And.intro Yy (And.intro WY (And.intro YY (And.intro Tn (And.intro UC (And.intro PY (And.intro VB (And.intro SR (And.intro bh (And.intro QA (And.intro Rl PJ)))))))))))))))))
      simp [bodyPost, results, Tryz.results252, go_sem, hz]
      have MU := eV 0 (.int .i64 2) NQ BG
      clear NQ
      have LJ := eV 0 (.int .i64 2) OS BG
      clear OS
      have Dj := ep 0 (.int .i64 2) BG
      have KU := ew w 0 (.int .i64 2) Ei qd
      clear BG Ei
      have FY := eo HB Ai 0 (.int .i64 2)
      have FU := em FA Ao 0 (.int .i64 2)
      clear HB FA
      have JR := eV 1 (.bool false) MU Dj
      clear MU
      have NE := eV 1 (.bool false) LJ Dj
      clear LJ
      have Ds := ep 1 (.bool false) Dj
      have Oe := ew w 1 (.bool false) KU qd
      clear Dj KU
      have Er := eo FY Ai 1 (.bool false)
      have HZ := em FU Ao 1 (.bool false)
      clear FY FU
      have NP := eV 2 (.string ⟨#[]⟩) JR Ds
      clear JR
      have LU := eV 2 (.string ⟨#[]⟩) NE Ds
      clear NE
      have Do := ep 2 (.string ⟨#[]⟩) Ds
      have NV := ew w 2 (.string ⟨#[]⟩) Oe qd
      clear Ds Oe
      have IX := eo Er Ai 2 (.string ⟨#[]⟩)
      have Hi := em HZ Ao 2 (.string ⟨#[]⟩)
      clear Er HZ
      have Lg := eV 3 (.slice none 0 0) NP Do
      clear NP
      have OV := eV 3 (.slice none 0 0) LU Do
      clear LU
      have Dn := ep 3 (.slice none 0 0) Do
      have OL := ew w 3 (.slice none 0 0) NV qd
      clear Do NV
      have IZ := eo IX Ai 3 (.slice none 0 0)
      have HG := em Hi Ao 3 (.slice none 0 0)
      clear IX Hi
      have NL := eV 4 (.bool false) Lg Dn
      clear Lg
      have Le := eV 4 (.bool false) OV Dn
      clear OV
      have Df := ep 4 (.bool false) Dn
      have Jj := ew w 4 (.bool false) OL qd
      clear Dn OL
      have FG := eo IZ Ai 4 (.bool false)
      have Gs := em HG Ao 4 (.bool false)
      clear IZ HG
      have Ln := eV 5 (.int .i64 0) NL Df
      clear NL
      have Lj := eV 5 (.int .i64 0) Le Df
      clear Le
      have Dc := ep 5 (.int .i64 0) Df
      have MQ := ew w 5 (.int .i64 0) Jj qd
      clear Df Jj
      have Ia := eo FG Ai 5 (.int .i64 0)
      have GZ := em Gs Ao 5 (.int .i64 0)
      clear FG Gs
      have Np := eV 6 (.slice Bd Ag.left.length Bg) Ln Dc
      clear Ln
      have My := eV 6 (.slice Bd Ag.left.length Bg) Lj Dc
      clear Lj
      have Dz := ep 6 (.slice Bd Ag.left.length Bg) Dc
      have LM := ew w 6 (.slice Bd Ag.left.length Bg) MQ qd
      clear Dc MQ
      have HA := eo Ia Ai 6 (.slice Bd Ag.left.length Bg)
      have DC := em GZ Ao 6 (.slice Bd Ag.left.length Bg)
      clear Ia GZ
      have Kd := eV 7 (.int .i64 Ag.op) Np Dz
      clear Np
      have Kp := eV 7 (.int .i64 Ag.op) My Dz
      clear My
      have CR := ep 7 (.int .i64 Ag.op) Dz
      have Md := ew w 7 (.int .i64 Ag.op) LM qd
      clear Dz LM
      have DD := eo HA Ai 7 (.int .i64 Ag.op)
      have Fn := em DC Ao 7 (.int .i64 Ag.op)
      clear HA DC
      have Nt := eV 8 (.slice Bj Ag.right.length AZ) Kd CR
      clear Kd
      have MV := eV 8 (.slice Bj Ag.right.length AZ) Kp CR
      clear Kp
      have CS := ep 8 (.slice Bj Ag.right.length AZ) CR
      have Mv := ew w 8 (.slice Bj Ag.right.length AZ) Md qd
      clear CR Md
      have HV := eo DD Ai 8 (.slice Bj Ag.right.length AZ)
      have Ih := em Fn Ao 8 (.slice Bj Ag.right.length AZ)
      clear DD Fn
      have OJ := eV 9 (.string ⟨#[]⟩) Nt CS
      clear Nt
      have OC := eV 9 (.string ⟨#[]⟩) MV CS
      clear MV
      have Dy := ep 9 (.string ⟨#[]⟩) CS
      have KY := ew w 9 (.string ⟨#[]⟩) Mv qd
      clear CS Mv
      have IN := eo HV Ai 9 (.string ⟨#[]⟩)
      have IU := em Ih Ao 9 (.string ⟨#[]⟩)
      clear HV Ih
      have YE := eV 10 (.string ⟨#[]⟩) OJ Dy
      clear OJ
      have Zm := eV 10 (.string ⟨#[]⟩) OC Dy
      clear OC
      have dV := ep 10 (.string ⟨#[]⟩) Dy
      have dK := ew w 10 (.string ⟨#[]⟩) KY qd
      clear Dy KY
      have Rq := eo IN Ai 10 (.string ⟨#[]⟩)
      have Px := em IU Ao 10 (.string ⟨#[]⟩)
      clear IN IU
      exact .of_ok Ja.out (⟨_, _, _, rfl, Rows.nil _ _ _ _ _, YE.out, Zm.out⟩) Rq.out Px.out
     | false =>
      rw [hm2] at CN
      clear HO
      have HO := ec (fc At hm2)
      have hk1' : ¬ ((kd (kt L) s.n : Nat) : Int) = 1 := by omega
      have hk2' : ¬ ((kd (kt L) s.n : Nat) : Int) = 2 := by omega
      clear ho At hk1 hk2 hm2
      go_enter Tryz.func252, Tryz.ntmps252
      have Cm : Below _ _ ((w).alloc (.cells #[.int .i64 0, .bool false, .string ⟨#[]⟩, .slice none 0 0, .bool false, .int .i64 0, .slice none 0 0, .int .i64 0, .slice none 0 0, .string ⟨#[]⟩, .string ⟨#[]⟩] 108)) := (Below.refl _ _).alloc (Nat.le_refl _) _
      have Am : Hid (R < w.heap.size) := ec H.out.lt
      have Ap : Hid (w.heap.size ≤ w.heap.size) := ec F.out.size
      have Dx := ec (heap_alloc_new (w) (.cells #[.int .i64 0, .bool false, .string ⟨#[]⟩, .slice none 0 0, .bool false, .int .i64 0, .slice none 0 0, .int .i64 0, .slice none 0 0, .string ⟨#[]⟩, .string ⟨#[]⟩] 108))
      have Co := ec (H.out.below Cm)
      have Fv := ec (F.out.trans (Fq.of_below Cm))
      clear H F Cm
      go_wp2_with fail
      refine (Ar.out _ Co.out).mono ?_
      rintro _ AB ⟨rfl, hb⟩
      have Br := eK hb Dx
      clear Dx
      have CF := ec (Co.out.below hb)
      have CA := ec (Fv.out.trans (Fq.of_below hb))
      clear hb Co Fv
      obtain ⟨Uv, SO, TS, bJ, Zl, TP, WI, Wy, cr, Uz, TR, PS⟩ := eF Br.out
      have Bu : Below _ _ ((AB).alloc (.cells #[.int .i64 (kd (kt L) s.n), .string ⟨(tx (kt L) s.n).toArray⟩, .int .i64 (eI L N s.n)] 188)) := (Below.refl _ _).alloc (Nat.le_refl _) _
      have Qb : Hid (R < AB.heap.size) := ec CF.out.lt
      have db : Hid (w.heap.size ≤ AB.heap.size) := ec CA.out.size
      have qc : Hid (w.heap.size ≠ AB.heap.size) := ec (Nat.ne_of_lt (eN Br.out))
      have qd : Hid (AB.heap.size ≠ w.heap.size) := ec (Nat.ne_of_gt (eN Br.out))
      have GH := ec ((Bu.block _ (eN Br.out)).trans Br.out)
      clear Br
      have BE := ec (heap_alloc_new (AB) (.cells #[.int .i64 (kd (kt L) s.n), .string ⟨(tx (kt L) s.n).toArray⟩, .int .i64 (eI L N s.n)] 188))
      have EL := ec (CF.out.below Bu)
      have Gn := ec (CA.out.trans (Fq.of_below Bu))
      clear CF CA Bu
      obtain ⟨Wk, Uo, RC, YA, UH, VA, aN, Zn, Ze, YU, XW, Pk⟩ := eF GH.out
      obtain ⟨VF, ac, bc, Pc⟩ := fj BE.out
      have Pi := qc.out
      have Qh := qd.out
      go_wp2_with fail
      refine (CN.out _).mono ?_
      rintro _ dv ⟨rfl, hb⟩
      clear Uv SO TS bJ Zl TP WI Wy cr Uz TR PS Wk Uo RC YA UH VA aN Zn Ze YU XW Pk VF ac bc Pc Pi Qh
      have FX := eK hb GH
      clear GH
      have FT := eK hb BE
      clear BE
      have HL := ec (EL.out.below hb)
      have BD := ec (Gn.out.trans (Fq.of_below hb))
      clear hb EL Gn
      obtain ⟨Xy, Sg, Ti, XS, SM, RB, bq, XO, XL, aJ, Zp, QR⟩ := eF FX.out
      obtain ⟨YO, XY, Ts, QM⟩ := fj FT.out
      have Ri := qc.out
      have Qp := qd.out
      have GR := ec (i7 R L N s st _ HL.out _ rfl)
      go_wp2_with fail
      refine GR.out.mono ?_
      intro e cW he
      rcases he.split with ⟨Ad, cU, cP, ho, rfl, hv, hR, hF⟩ | ⟨c, m, ho, rfl, hF⟩
      rotate_left 1
      · exact eg rfl (.of_bad (el HO.out ho) (BD.out.trans hF))
      clear Xy Sg Ti XS SM RB bq XO XL aJ Zp QR YO XY Ts QM Ri Qp
      have Jb := ec (ej HO.out ho)
      have CP := eW hF FX Am
      clear FX
      have EQ := eW hF FT Qb
      clear FT
      have FV := ec hR
      have GC := ec (BD.out.trans hF)
      obtain ⟨cA, rfl, FJ⟩ := hv
      obtain ⟨BO, BU, rfl⟩ := ed FJ
      have Ky := ec (Strs.mono FJ fun g hg => Nat.le_trans BD.out.size hg)
      clear FJ
      clear he ho hR hF GR HL BD HO
      obtain ⟨RL, Sa, ch, ay, SY, aA, WG, YK, WL, Un, XM, Qr⟩ := eF CP.out
      obtain ⟨aK, aw, TH, PG⟩ := fj EQ.out
      have Pw := qc.out
      have Qy := qd.out
      go_wp2_with fail
      have hz := (And.intro RL (And.intro Sa (And.intro ch (And.intro ay (And.intro SY (And.intro aA (And.intro WG (And.intro YK (And.intro WL (And.intro Un (And.intro XM (And.intro Qr (And.intro aK (And.intro aw (And.intro TH (And.intro PG (And.intro Pw Qy)))))))))))))))))
      simp [bodyPost, results, Tryz.results252, go_sem, hz]
      have Ma := eH 0 (.int .i64 1) Ky CP
      clear Ky
      have DV := ep 0 (.int .i64 1) CP
      have NB := ew w 0 (.int .i64 1) EQ qd
      clear CP EQ
      have HI := eo FV Am 0 (.int .i64 1)
      have IL := em GC Ap 0 (.int .i64 1)
      clear FV GC
      have Jp := eH 1 (.bool Ad.neg) Ma DV
      clear Ma
      have FQ := ep 1 (.bool Ad.neg) DV
      have OG := ew w 1 (.bool Ad.neg) NB qd
      clear DV NB
      have GB := eo HI Am 1 (.bool Ad.neg)
      have Ek := em IL Ap 1 (.bool Ad.neg)
      clear HI IL
      have JN := eH 2 (.string ⟨Ad.pred.toArray⟩) Jp FQ
      clear Jp
      have IS := ep 2 (.string ⟨Ad.pred.toArray⟩) FQ
      have LD := ew w 2 (.string ⟨Ad.pred.toArray⟩) OG qd
      clear FQ OG
      have HC := eo GB Am 2 (.string ⟨Ad.pred.toArray⟩)
      have Hh := em Ek Ap 2 (.string ⟨Ad.pred.toArray⟩)
      clear GB Ek
      have Ot := eH 3 (.slice BO Ad.args.length BU) JN IS
      clear JN
      have Ig := ep 3 (.slice BO Ad.args.length BU) IS
      have Of := ew w 3 (.slice BO Ad.args.length BU) LD qd
      clear IS LD
      have EX := eo HC Am 3 (.slice BO Ad.args.length BU)
      have Gi := em Hh Ap 3 (.slice BO Ad.args.length BU)
      clear HC Hh
      have NI := eH 4 (.bool Ad.hasValue) Ot Ig
      clear Ot
      have HW := ep 4 (.bool Ad.hasValue) Ig
      have MZ := ew w 4 (.bool Ad.hasValue) Of qd
      clear Ig Of
      have Hz := eo EX Am 4 (.bool Ad.hasValue)
      have GS := em Gi Ap 4 (.bool Ad.hasValue)
      clear EX Gi
      have Lt := eH 5 (.int .i64 Ad.value) NI HW
      clear NI
      have Hv := ep 5 (.int .i64 Ad.value) HW
      have KT := ew w 5 (.int .i64 Ad.value) MZ qd
      clear HW MZ
      have Go := eo Hz Am 5 (.int .i64 Ad.value)
      have IW := em GS Ap 5 (.int .i64 Ad.value)
      clear Hz GS
      have MD := eH 6 (.slice none 0 0) Lt Hv
      clear Lt
      have GF := ep 6 (.slice none 0 0) Hv
      have MX := ew w 6 (.slice none 0 0) KT qd
      clear Hv KT
      have GV := eo Go Am 6 (.slice none 0 0)
      have If := em IW Ap 6 (.slice none 0 0)
      clear Go IW
      have KD := eH 7 (.int .i64 0) MD GF
      clear MD
      have Hy := ep 7 (.int .i64 0) GF
      have Ns := ew w 7 (.int .i64 0) MX qd
      clear GF MX
      have Gk := eo GV Am 7 (.int .i64 0)
      have Gz := em If Ap 7 (.int .i64 0)
      clear GV If
      have Kz := eH 8 (.slice none 0 0) KD Hy
      clear KD
      have DL := ep 8 (.slice none 0 0) Hy
      have Mq := ew w 8 (.slice none 0 0) Ns qd
      clear Hy Ns
      have Gr := eo Gk Am 8 (.slice none 0 0)
      have Io := em Gz Ap 8 (.slice none 0 0)
      clear Gk Gz
      have Nd := eH 9 (.string ⟨#[]⟩) Kz DL
      clear Kz
      have Gw := ep 9 (.string ⟨#[]⟩) DL
      have Kn := ew w 9 (.string ⟨#[]⟩) Mq qd
      clear DL Mq
      have Hb := eo Gr Am 9 (.string ⟨#[]⟩)
      have Iz := em Io Ap 9 (.string ⟨#[]⟩)
      clear Gr Io
      have SX := eH 10 (.string ⟨#[]⟩) Nd Gw
      clear Nd
      have dD := ep 10 (.string ⟨#[]⟩) Gw
      have dy := ew w 10 (.string ⟨#[]⟩) Kn qd
      clear Gw Kn
      have Qd := eo Hb Am 10 (.string ⟨#[]⟩)
      have PW := em Iz Ap 10 (.string ⟨#[]⟩)
      clear Hb Iz
      exact .of_ok Jb.out (⟨_, _, _, rfl, SX.out, Rows.nil _ _ _ _ _, Rows.nil _ _ _ _ _⟩) Qd.out PW.out
end
end Go.Proofs.YtbpphlmakmeoaaaGreatDoor.Sy
