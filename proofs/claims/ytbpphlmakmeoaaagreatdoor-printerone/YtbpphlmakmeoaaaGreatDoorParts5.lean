import Derived.Test.YtbpphlmakmeoaaaGreatDoorLit
set_option maxRecDepth 100000
set_option maxHeartbeats 1600000
namespace Go.Proofs.YtbpphlmakmeoaaaGreatDoor.Sy
open Go.RowKit
section
variable (R : Nat) (L : List fw) (N : Nat) (s : RS) (st : St9) (w : World)
theorem oL (sort : Nat) (h : Rd R L N s st w) (o : Out fZ) (ho : jJ (kt L) sort s = o) :
    Calls Tryz.prog 244 #[.pointer (some ⟨R, 0, none⟩), .int .i64 sort] w (Ends R L N st w (lP (fo w)) o) := by
 have HO := ec ho
 have H := ec h
 have F := ec (Fq.refl R w)
 clear h ho
 go_enter Tryz.func244, Tryz.ntmps244
 have B1 : Below _ _ ((w).alloc (.cells #[.string ⟨#[]⟩, .int .i64 0, .slice none 0 0, .slice none 0 0] 128)) := (Below.refl _ _).alloc (Nat.le_refl _) _
 have Q1 : Hid (R < w.heap.size) := ec H.out.lt
 have G1 : Hid (w.heap.size ≤ w.heap.size) := ec F.out.size
 have Ab := ec (heap_alloc_new (w) (.cells #[.string ⟨#[]⟩, .int .i64 0, .slice none 0 0, .slice none 0 0] 128))
 have H1 := ec (H.out.below B1)
 have F1 := ec (F.out.trans (Fq.of_below B1))
 clear H F B1
 have C2 := ec (gv R L N s st _ H1.out _ rfl)
 go_wp2_with fail
 refine C2.out.mono ?_
 intro e w2 he
 rcases he.split with ⟨a2, s2, v2, ho, rfl, hv, hR, hF⟩ | ⟨c, m, ho, rfl, hF⟩
 rotate_left 1
 · exact eg rfl (.of_bad (el HO.out ho) (F1.out.trans hF))
 have Aa := ec (ej HO.out ho)
 have q0 := eW hF Ab Q1
 clear Ab
 have H2 := ec hR
 have F2 := ec (F1.out.trans hF)
 cases hv
 clear he ho hR hF C2 H1 F1 HO
 obtain ⟨q1, q2, q3, q4, y3⟩ := fy q0.out
 have C4 := ec (sd R L N s2 st _ H2.out _ rfl)
 go_wp2_with fail
 refine C4.out.mono ?_
 intro e w4 he
 rcases he.split with ⟨a4, s4, v4, ho, rfl, hv, hR, hF⟩ | ⟨c, m, ho, rfl, hF⟩
 rotate_left 1
 · exact eg rfl (.of_bad (el Aa.out ho) (F2.out.trans hF))
 clear q1 q2 q3 q4 y3
 have Ac := ec (ej Aa.out ho)
 have q5 := eW hF q0 Q1
 clear q0
 have H4 := ec hR
 have F4 := ec (F2.out.trans hF)
 obtain ⟨p4, r4, rfl⟩ := ed hv
 have V4 := ec (Strs.mono hv fun g hg => Nat.le_trans F2.out.size hg)
 clear hv
 clear he ho hR hF C4 H2 F2 Aa
 obtain ⟨q6, q7, q8, q9, y5⟩ := fy q5.out
 go_wp2_with fail
 have hz := (And.intro q6 (And.intro q7 (And.intro q8 (And.intro q9 y5))))
 simp [bodyPost, results, Tryz.results244, go_sem, hz]
 have qa := eH 0 (.string ⟨a2.toArray⟩) V4 q5
 clear V4
 have qb := ep 0 (.string ⟨a2.toArray⟩) q5
 clear q5
 have H6 := eo H4 Q1 0 (.string ⟨a2.toArray⟩)
 have F6 := em F4 G1 0 (.string ⟨a2.toArray⟩)
 clear H4 F4
 have qc := eH 1 (.int .i64 sort) qa qb
 clear qa
 have qd := ep 1 (.int .i64 sort) qb
 clear qb
 have H7 := eo H6 Q1 1 (.int .i64 sort)
 have F7 := em F6 G1 1 (.int .i64 sort)
 clear H6 F6
 have qe := eH 2 (.slice p4 a4.length r4) qc qd
 clear qc
 have qf := ep 2 (.slice p4 a4.length r4) qd
 clear qd
 have H8 := eo H7 Q1 2 (.slice p4 a4.length r4)
 have F8 := em F7 G1 2 (.slice p4 a4.length r4)
 clear H7 F7
 have qg := eH 3 (.slice none 0 0) qe qf
 clear qe
 have qh := ep 3 (.slice none 0 0) qf
 clear qf
 have H9 := eo H8 Q1 3 (.slice none 0 0)
 have F9 := em F8 G1 3 (.slice none 0 0)
 clear H8 F8
 exact .of_ok Ac.out (⟨_, _, rfl, qg.out, Rows.nil _ _ _ _ _⟩) H9.out F9.out
theorem xP (h : Rd R L N s st w) (o : Out fZ) (ho : jJ (kt L) 1 s = o) :
    Calls Tryz.prog 186 #[.pointer (some ⟨R, 0, none⟩)] w (Ends R L N st w (lP (fo w)) o) := by
 have HO := ec ho
 have H := ec h
 have F := ec (Fq.refl R w)
 clear h ho
 go_enter Tryz.func186, Tryz.ntmps186
 have Ae : Below _ _ ((w).alloc (.cells #[.string ⟨#[]⟩, .int .i64 0, .slice none 0 0, .slice none 0 0] 128)) := (Below.refl _ _).alloc (Nat.le_refl _) _
 have Ac : Hid (R < w.heap.size) := ec H.out.lt
 have Ad : Hid (w.heap.size ≤ w.heap.size) := ec F.out.size
 have Af := ec (heap_alloc_new (w) (.cells #[.string ⟨#[]⟩, .int .i64 0, .slice none 0 0, .slice none 0 0] 128))
 have Ai := ec (H.out.below Ae)
 have Ab := ec (F.out.trans (Fq.of_below Ae))
 clear H F Ae
 have Ag := ec (oL R L N s st _ 1 Ai.out _ rfl)
 go_wp2_with fail
 refine Ag.out.mono ?_
 intro e Ax he
 rcases he.split with ⟨Aa, s11, Aw, ho, rfl, hv, hR, hF⟩ | ⟨c, m, ho, rfl, hF⟩
 rotate_left 1
 · exact eg rfl (.of_bad (ho.symm.trans HO.out) (Ab.out.trans hF))
 have Aq := ec (ho.symm.trans HO.out)
 have q0 := eW hF Af Ac
 clear Af
 have Ap := ec hR
 have Ao := ec (Ab.out.trans hF)
 obtain ⟨Au, Av, rfl, q1, q2⟩ := hv
 obtain ⟨q3, q4, rfl⟩ := ed q1
 have q5 := ec (Strs.mono q1 fun g hg => Nat.le_trans Ab.out.size hg)
 clear q1
 obtain ⟨q6, q7, rfl⟩ := ed q2
 have q8 := ec (Moneys.mono q2 fun g hg => Nat.le_trans Ab.out.size hg)
 clear q2
 clear he ho hR hF Ag Ai Ab HO
 obtain ⟨q9, qa, qb, qc, At⟩ := fy q0.out
 go_wp2_with fail
 have hz := (And.intro q9 (And.intro qa (And.intro qb (And.intro qc At))))
 simp [bodyPost, results, Tryz.results186, go_sem, hz]
 have qd := eH 0 (.string ⟨Aa.name.toArray⟩) q5 q0
 clear q5
 have qe := ec (Moneys.keep q8.out (Kp.setLoc (T := [45]) (i := 0) (v := .string ⟨Aa.name.toArray⟩) q0.out (by decide)) (by decide))
 clear q8
 have qf := ep 0 (.string ⟨Aa.name.toArray⟩) q0
 clear q0
 have Aj := eo Ap Ac 0 (.string ⟨Aa.name.toArray⟩)
 have Am := em Ao Ad 0 (.string ⟨Aa.name.toArray⟩)
 clear Ap Ao
 have qg := eH 1 (.int .i64 Aa.sort) qd qf
 clear qd
 have qh := ec (Moneys.keep qe.out (Kp.setLoc (T := [45]) (i := 1) (v := .int .i64 Aa.sort) qf.out (by decide)) (by decide))
 clear qe
 have qi := ep 1 (.int .i64 Aa.sort) qf
 clear qf
 have Ak := eo Aj Ac 1 (.int .i64 Aa.sort)
 have An := em Am Ad 1 (.int .i64 Aa.sort)
 clear Aj Am
 have qj := eH 2 (.slice q3 Aa.kinds.length q4) qg qi
 clear qg
 have qk := ec (Moneys.keep qh.out (Kp.setLoc (T := [45]) (i := 2) (v := .slice q3 Aa.kinds.length q4) qi.out (by decide)) (by decide))
 clear qh
 have ql := ep 2 (.slice q3 Aa.kinds.length q4) qi
 clear qi
 have Al := eo Ak Ac 2 (.slice q3 Aa.kinds.length q4)
 have Ah := em An Ad 2 (.slice q3 Aa.kinds.length q4)
 clear Ak An
 have qm := eH 3 (.slice q6 Aa.values.length q7) qj ql
 clear qj
 have qn := ec (Moneys.keep qk.out (Kp.setLoc (T := [45]) (i := 3) (v := .slice q6 Aa.values.length q7) ql.out (by decide)) (by decide))
 clear qk
 have qo := ep 3 (.slice q6 Aa.values.length q7) ql
 clear ql
 have Ar := eo Al Ac 3 (.slice q6 Aa.values.length q7)
 have As := em Ah Ad 3 (.slice q6 Aa.values.length q7)
 clear Al Ah
 exact .of_ok Aq.out (⟨_, _, rfl, qm.out, qn.out⟩) Ar.out As.out
theorem ki (h : Rd R L N s st w) (o : Out fZ) (ho : jJ (kt L) 2 s = o) :
    Calls Tryz.prog 187 #[.pointer (some ⟨R, 0, none⟩)] w (Ends R L N st w (lP (fo w)) o) := by
 have HO := ec ho
 have H := ec h
 have F := ec (Fq.refl R w)
 clear h ho
 go_enter Tryz.func187, Tryz.ntmps187
 have Af : Below _ _ ((w).alloc (.cells #[.string ⟨#[]⟩, .int .i64 0, .slice none 0 0, .slice none 0 0] 128)) := (Below.refl _ _).alloc (Nat.le_refl _) _
 have Ac : Hid (R < w.heap.size) := ec H.out.lt
 have Ad : Hid (w.heap.size ≤ w.heap.size) := ec F.out.size
 have Ae := ec (heap_alloc_new (w) (.cells #[.string ⟨#[]⟩, .int .i64 0, .slice none 0 0, .slice none 0 0] 128))
 have Ah := ec (H.out.below Af)
 have Ab := ec (F.out.trans (Fq.of_below Af))
 clear H F Af
 have Ak := ec (oL R L N s st _ 2 Ah.out _ rfl)
 go_wp2_with fail
 refine Ak.out.mono ?_
 intro e Aw he
 rcases he.split with ⟨Aa, Ay, Ax, ho, rfl, hv, hR, hF⟩ | ⟨c, m, ho, rfl, hF⟩
 rotate_left 1
 · exact eg rfl (.of_bad (ho.symm.trans HO.out) (Ab.out.trans hF))
 have Aq := ec (ho.symm.trans HO.out)
 have q0 := eW hF Ae Ac
 clear Ae
 have Ao := ec hR
 have Ag := ec (Ab.out.trans hF)
 obtain ⟨Au, Av, rfl, q1, q2⟩ := hv
 obtain ⟨q3, q4, rfl⟩ := ed q1
 have q5 := ec (Strs.mono q1 fun g hg => Nat.le_trans Ab.out.size hg)
 clear q1
 obtain ⟨q6, q7, rfl⟩ := ed q2
 have q8 := ec (Moneys.mono q2 fun g hg => Nat.le_trans Ab.out.size hg)
 clear q2
 clear he ho hR hF Ak Ah Ab HO
 obtain ⟨q9, qa, qb, qc, At⟩ := fy q0.out
 go_wp2_with fail
 have hz := (And.intro q9 (And.intro qa (And.intro qb (And.intro qc At))))
 simp [bodyPost, results, Tryz.results187, go_sem, hz]
 have qd := eH 0 (.string ⟨Aa.name.toArray⟩) q5 q0
 clear q5
 have qe := ec (Moneys.keep q8.out (Kp.setLoc (T := [45]) (i := 0) (v := .string ⟨Aa.name.toArray⟩) q0.out (by decide)) (by decide))
 clear q8
 have qf := ep 0 (.string ⟨Aa.name.toArray⟩) q0
 clear q0
 have Aj := eo Ao Ac 0 (.string ⟨Aa.name.toArray⟩)
 have Am := em Ag Ad 0 (.string ⟨Aa.name.toArray⟩)
 clear Ao Ag
 have qg := eH 1 (.int .i64 Aa.sort) qd qf
 clear qd
 have qh := ec (Moneys.keep qe.out (Kp.setLoc (T := [45]) (i := 1) (v := .int .i64 Aa.sort) qf.out (by decide)) (by decide))
 clear qe
 have qi := ep 1 (.int .i64 Aa.sort) qf
 clear qf
 have An := eo Aj Ac 1 (.int .i64 Aa.sort)
 have Ap := em Am Ad 1 (.int .i64 Aa.sort)
 clear Aj Am
 have qj := eH 2 (.slice q3 Aa.kinds.length q4) qg qi
 clear qg
 have qk := ec (Moneys.keep qh.out (Kp.setLoc (T := [45]) (i := 2) (v := .slice q3 Aa.kinds.length q4) qi.out (by decide)) (by decide))
 clear qh
 have ql := ep 2 (.slice q3 Aa.kinds.length q4) qi
 clear qi
 have Al := eo An Ac 2 (.slice q3 Aa.kinds.length q4)
 have Ai := em Ap Ad 2 (.slice q3 Aa.kinds.length q4)
 clear An Ap
 have qm := eH 3 (.slice q6 Aa.values.length q7) qj ql
 clear qj
 have qn := ec (Moneys.keep qk.out (Kp.setLoc (T := [45]) (i := 3) (v := .slice q6 Aa.values.length q7) ql.out (by decide)) (by decide))
 clear qk
 have qo := ep 3 (.slice q6 Aa.values.length q7) ql
 clear ql
 have Ar := eo Al Ac 3 (.slice q6 Aa.values.length q7)
 have As := em Ai Ad 3 (.slice q6 Aa.values.length q7)
 clear Al Ai
 exact .of_ok Aq.out (⟨_, _, rfl, qm.out, qn.out⟩) Ar.out As.out
theorem ro (h : Rd R L N s st w) (o : Out fZ) (ho : iE FN (kt L) s = o) :
    Calls Tryz.prog 188 #[.pointer (some ⟨R, 0, none⟩)] w (Ends R L N st w (lP (fo w)) o) := by
 have HO := ec ho
 have H := ec h
 have F := ec (Fq.refl R w)
 clear h ho
 go_enter Tryz.func188, Tryz.ntmps188
 have At : Below _ _ ((w).alloc (.cells #[.string ⟨#[]⟩, .int .i64 0, .slice none 0 0, .slice none 0 0] 128)) := (Below.refl _ _).alloc (Nat.le_refl _) _
 have Af : Hid (R < w.heap.size) := ec H.out.lt
 have Am : Hid (w.heap.size ≤ w.heap.size) := ec F.out.size
 have Ap := ec (heap_alloc_new (w) (.cells #[.string ⟨#[]⟩, .int .i64 0, .slice none 0 0, .slice none 0 0] 128))
 have AA := ec (H.out.below At)
 have Ah := ec (F.out.trans (Fq.of_below At))
 clear H F At
 have AC := ec (oL R L N s st _ 3 AA.out _ rfl)
 go_wp2_with fail
 refine AC.out.mono ?_
 intro e Ae he
 rcases he.split with ⟨Aa, AO, Be, ho, rfl, hv, hR, hF⟩ | ⟨c, m, ho, rfl, hF⟩
 rotate_left 1
 · exact eg rfl (.of_bad (el HO.out ho) (Ah.out.trans hF))
 have Aj := ec (ej HO.out ho)
 have q0 := eW hF Ap Af
 clear Ap
 have Ao := ec hR
 have As := ec (Ah.out.trans hF)
 obtain ⟨Bb, Bc, rfl, q1, q2⟩ := hv
 obtain ⟨q3, q4, rfl⟩ := ed q1
 have q5 := ec (Strs.mono q1 fun g hg => Nat.le_trans Ah.out.size hg)
 clear q1
 obtain ⟨q6, q7, rfl⟩ := ed q2
 have q8 := ec (Moneys.mono q2 fun g hg => Nat.le_trans Ah.out.size hg)
 clear q2
 clear he ho hR hF AC AA Ah HO
 obtain ⟨q9, qa, qb, qc, AP⟩ := fy q0.out
 have Ag : Below _ _ ((Ae).alloc (.cells #[.string ⟨Aa.name.toArray⟩, .int .i64 Aa.sort, .slice q3 Aa.kinds.length q4, .slice q6 Aa.values.length q7] 128)) := (Below.refl _ _).alloc (Nat.le_refl _) _
 have Au : Hid (R < Ae.heap.size) := ec Ao.out.lt
 have AM : Hid (w.heap.size ≤ Ae.heap.size) := ec As.out.size
 have qd : Hid (w.heap.size ≠ Ae.heap.size) := ec (Nat.ne_of_lt (eN q0.out))
 have qe : Hid (Ae.heap.size ≠ w.heap.size) := ec (Nat.ne_of_gt (eN q0.out))
 have qf := ec ((Ag.block _ (eN q0.out)).trans q0.out)
 clear q0
 have qg := ec (Strs.keep q5.out (Kp.of_below (T := [9]) Ag) (by decide))
 clear q5
 have qh := ec (Moneys.keep q8.out (Kp.of_below (T := [45]) Ag) (by decide))
 clear q8
 have Aq := ec (heap_alloc_new (Ae) (.cells #[.string ⟨Aa.name.toArray⟩, .int .i64 Aa.sort, .slice q3 Aa.kinds.length q4, .slice q6 Aa.values.length q7] 128))
 have Al := ec (Ao.out.below Ag)
 have Ar := ec (As.out.trans (Fq.of_below Ag))
 clear Ao As Ag
 have Aw := ec (fM R L N AO st _ [58] Al.out _ rfl)
 go_wp2_with fail
 refine Aw.out.mono ?_
 intro e Bh he
 rcases he.split with ⟨Bi, Ba, Bg, ho, rfl, hv, hR, hF⟩ | ⟨c, m, ho, rfl, hF⟩
 rotate_left 1
 · exact eg rfl (.of_bad (el Aj.out ho) (Ar.out.trans hF))
 clear q9 qa qb qc AP
 have Ai := ec (ej Aj.out ho)
 have qi := eW hF qf Af
 clear qf
 have qj := eW hF Aq Au
 clear Aq
 have qk := ec (Strs.keep qg.out (Kp.of_fq (T := [9]) hF Al.out (by decide)) (by decide))
 clear qg
 have ql := ec (Moneys.keep qh.out (Kp.of_fq (T := [45]) hF Al.out (by decide)) (by decide))
 clear qh
 have An := ec hR
 have Ak := ec (Ar.out.trans hF)
 cases hv
 clear he ho hR hF Aw Al Ar Aj
 obtain ⟨qm, qn, qo, qp, AY⟩ := fy qi.out
 obtain ⟨qq, qr, qs, qt, AQ⟩ := fy qj.out
 have AZ := qd.out
 have AX := qe.out
 have AD := ec (ov R L N Ba st _ (jy FN (kt L)) (fun s w h => kM R L N s st w h _ rfl) (iz (kt L)) (fun s w h => jk R L N s st w h _ rfl) (fun s a u => ll FN _ s a u) (fun s u => gC) 64 An.out _ rfl)
 go_wp2_with fail
 refine AD.out.mono ?_
 intro e Bj he
 rcases he.split with ⟨Ad, Bm, Bk, ho, rfl, hv, hR, hF⟩ | ⟨c, m, ho, rfl, hF⟩
 rotate_left 1
 · exact eg rfl (.of_bad (el Ai.out ho) (Ak.out.trans hF))
 clear qm qn qo qp AY qq qr qs qt AQ AZ AX
 have AK := ec (ej Ai.out ho)
 have qu := eW hF qi Af
 clear qi
 have qv := eW hF qj Au
 clear qj
 have qw := ec (Strs.keep qk.out (Kp.of_fq (T := [9]) hF An.out (by decide)) (by decide))
 clear qk
 have qx := ec (Moneys.keep ql.out (Kp.of_fq (T := [45]) hF An.out (by decide)) (by decide))
 clear ql
 have Az := ec hR
 have AH := ec (Ak.out.trans hF)
 obtain ⟨Ab, Ac, rfl⟩ := ed hv
 have AF := ec (Moneys.mono hv fun g hg => Nat.le_trans Ak.out.size hg)
 clear hv
 clear he ho hR hF AD An Ak Ai
 obtain ⟨qy, qz, qA, qB, AL⟩ := fy qu.out
 obtain ⟨qC, qD, qE, qF, AN⟩ := fy qv.out
 have AS := qd.out
 have AT := qe.out
 have qG := eH 3 (.slice Ab Ad.length Ac) qw qv
 clear qw
 have qH := ec (Moneys.keep qx.out (Kp.setLoc (T := [45]) (i := 3) (v := .slice Ab Ad.length Ac) qv.out (by decide)) (by decide))
 clear qx
 have qI := ec (Moneys.keep AF.out (Kp.setLoc (T := [45]) (i := 3) (v := .slice Ab Ad.length Ac) qv.out (by decide)) (by decide))
 clear AF
 have qJ := ew Ae 3 (.slice Ab Ad.length Ac) qu qd
 have qK := ep 3 (.slice Ab Ad.length Ac) qv
 clear qu qv
 have AI := eo Az Au 3 (.slice Ab Ad.length Ac)
 have Av := em AH AM 3 (.slice Ab Ad.length Ac)
 clear Az AH
 go_wp2_with fail
 have hz := (And.intro qy (And.intro qz (And.intro qA (And.intro qB (And.intro AL (And.intro qC (And.intro qD (And.intro qE (And.intro qF (And.intro AN (And.intro AS AT)))))))))))
 simp [bodyPost, results, Tryz.results188, go_sem, hz]
 have qL := eH 0 (.string ⟨Aa.name.toArray⟩) qG qJ
 clear qG
 have qM := ec (Moneys.keep qH.out (Kp.setLoc (T := [45]) (i := 0) (v := .string ⟨Aa.name.toArray⟩) qJ.out (by decide)) (by decide))
 clear qH
 have qN := ec (Moneys.keep qI.out (Kp.setLoc (T := [45]) (i := 0) (v := .string ⟨Aa.name.toArray⟩) qJ.out (by decide)) (by decide))
 clear qI
 have qO := ep 0 (.string ⟨Aa.name.toArray⟩) qJ
 have qP := ew w 0 (.string ⟨Aa.name.toArray⟩) qK qe
 clear qJ qK
 have AJ := eo AI Af 0 (.string ⟨Aa.name.toArray⟩)
 have Ay := em Av Am 0 (.string ⟨Aa.name.toArray⟩)
 clear AI Av
 have qQ := eH 1 (.int .i64 Aa.sort) qL qO
 clear qL
 have qR := ec (Moneys.keep qM.out (Kp.setLoc (T := [45]) (i := 1) (v := .int .i64 Aa.sort) qO.out (by decide)) (by decide))
 clear qM
 have qS := ec (Moneys.keep qN.out (Kp.setLoc (T := [45]) (i := 1) (v := .int .i64 Aa.sort) qO.out (by decide)) (by decide))
 clear qN
 have qT := ep 1 (.int .i64 Aa.sort) qO
 have qU := ew w 1 (.int .i64 Aa.sort) qP qe
 clear qO qP
 have AG := eo AJ Af 1 (.int .i64 Aa.sort)
 have AB := em Ay Am 1 (.int .i64 Aa.sort)
 clear AJ Ay
 have qV := eH 2 (.slice q3 Aa.kinds.length q4) qQ qT
 clear qQ
 have qW := ec (Moneys.keep qR.out (Kp.setLoc (T := [45]) (i := 2) (v := .slice q3 Aa.kinds.length q4) qT.out (by decide)) (by decide))
 clear qR
 have qX := ec (Moneys.keep qS.out (Kp.setLoc (T := [45]) (i := 2) (v := .slice q3 Aa.kinds.length q4) qT.out (by decide)) (by decide))
 clear qS
 have qY := ep 2 (.slice q3 Aa.kinds.length q4) qT
 have qZ := ew w 2 (.slice q3 Aa.kinds.length q4) qU qe
 clear qT qU
 have Ax := eo AG Af 2 (.slice q3 Aa.kinds.length q4)
 have AE := em AB Am 2 (.slice q3 Aa.kinds.length q4)
 clear AG AB
 have AW := eH 3 (.slice Ab Ad.length Ac) qV qY
 clear qV
 have Bf := ec (Moneys.keep qW.out (Kp.setLoc (T := [45]) (i := 3) (v := .slice Ab Ad.length Ac) qY.out (by decide)) (by decide))
 clear qW
 have AU := ec (Moneys.keep qX.out (Kp.setLoc (T := [45]) (i := 3) (v := .slice Ab Ad.length Ac) qY.out (by decide)) (by decide))
 clear qX
 have Bd := ep 3 (.slice Ab Ad.length Ac) qY
 have Bl := ew w 3 (.slice Ab Ad.length Ac) qZ qe
 clear qY qZ
 have AV := eo Ax Af 3 (.slice Ab Ad.length Ac)
 have AR := em AE Am 3 (.slice Ab Ad.length Ac)
 clear Ax AE
 exact .of_ok AK.out (⟨_, _, rfl, AW.out, AU.out⟩) AV.out AR.out
theorem wD (h : Rd R L N s st w) (o : Out (List ee)) (ho : kS (kt L) s = o) :
    Calls Tryz.prog 190 #[.pointer (some ⟨R, 0, none⟩)] w (Ends R L N st w (Strs (fo w)) o) := by
 have HO := ec ho
 have H := ec h
 have F := ec (Fq.refl R w)
 clear h ho
 go_enter Tryz.func190, Tryz.ntmps190
 have Ad := ec (jn R L N s st _ (gw (kt L)) (fun s w h => gv R L N s st w h _ rfl) (iz (kt L)) (fun s w h => jk R L N s st w h _ rfl) (fun s a u => go _ s a u) (fun s u => gC) 16 H.out _ rfl)
 go_wp2_with fail
 refine Ad.out.mono ?_
 intro e Ai he
 rcases he.split with ⟨Ab, Af, Ak, ho, rfl, hv, hR, hF⟩ | ⟨c, m, ho, rfl, hF⟩
 rotate_left 1
 · exact eg rfl (.of_bad (el HO.out ho) (F.out.trans hF))
 have Aa := ec (ej HO.out ho)
 have Ae := ec hR
 have Ac := ec (F.out.trans hF)
 obtain ⟨Ah, Aj, rfl⟩ := ed hv
 have Ag := ec (Strs.mono hv fun g hg => Nat.le_trans F.out.size hg)
 clear hv
 clear he ho hR hF Ad H F HO
 by_cases hl : Ab.length = 1
 · have HO := ec (fs Aa.out (by simp [hl]))
   have hl' : ((Ab.length : Nat) : Int) = 1 := by omega
   clear Aa
   have CF := ec (fS R L N Af st _ Ae.out 51)
   go_wp2_with fail
   refine CF.out.mono ?_
   rintro _ w9 ⟨rfl, hF⟩
   exact eg rfl (.of_bad HO.out (Ac.out.trans hF))
 · have HO := ec (fc Aa.out (by simp [hl]))
   have hl' : ¬ ((Ab.length : Nat) : Int) = 1 := by omega
   clear Aa
   go_wp2_with fail
   go_ret
   exact .of_ok HO.out Ag.out Ae.out Ac.out
theorem vO (h : Rd R L N s st w) (o : Out (ee × Int)) (ho : ky FN (kt L) s = o) :
    Calls Tryz.prog 192 #[.pointer (some ⟨R, 0, none⟩)] w (Ends R L N st w D3 o) := by
 have HO := ec ho
 have H := ec h
 have F := ec (Fq.refl R w)
 clear h ho
 go_enter Tryz.func192, Tryz.ntmps192
 have Ad : Below _ _ ((w).alloc (.cells #[.string ⟨#[]⟩, .int .i64 0] 131)) := (Below.refl _ _).alloc (Nat.le_refl _) _
 have Aa : Hid (R < w.heap.size) := ec H.out.lt
 have An : Hid (w.heap.size ≤ w.heap.size) := ec F.out.size
 have Ag := ec (heap_alloc_new (w) (.cells #[.string ⟨#[]⟩, .int .i64 0] 131))
 have Am := ec (H.out.below Ad)
 have Ah := ec (F.out.trans (Fq.of_below Ad))
 clear H F Ad
 have Aq := ec (gv R L N s st _ Am.out _ rfl)
 go_wp2_with fail
 refine Aq.out.mono ?_
 intro e AF he
 rcases he.split with ⟨Af, AA, AG, ho, rfl, hv, hR, hF⟩ | ⟨c, m, ho, rfl, hF⟩
 rotate_left 1
 · exact eg rfl (.of_bad (el HO.out ho) (Ah.out.trans hF))
 have Ab := ec (ej HO.out ho)
 have q0 := eW hF Ag Aa
 clear Ag
 have Ap := ec hR
 have Ai := ec (Ah.out.trans hF)
 cases hv
 clear he ho hR hF Aq Am Ah HO
 obtain ⟨q1, q2, Az⟩ := oH q0.out
 have As := ec (j6 R L N AA st _ [114, 97, 110, 107] Ap.out _ rfl)
 go_wp2_with fail
 refine As.out.mono ?_
 intro e AE he
 rcases he.split with ⟨AI, Ay, AH, ho, rfl, hv, hR, hF⟩ | ⟨c, m, ho, rfl, hF⟩
 rotate_left 1
 · exact eg rfl (.of_bad (el Ab.out ho) (Ai.out.trans hF))
 clear q1 q2 Az
 have Ac := ec (ej Ab.out ho)
 have q3 := eW hF q0 Aa
 clear q0
 have Al := ec hR
 have Aj := ec (Ai.out.trans hF)
 cases hv
 clear he ho hR hF As Ap Ai Ab
 obtain ⟨q4, q5, Ax⟩ := oH q3.out
 have Ak := ec (us R L N Ay st _ 0 1000 Al.out _ rfl)
 go_wp2_with fail
 refine Ak.out.mono ?_
 intro e AK he
 rcases he.split with ⟨Ae, AJ, AD, ho, rfl, hv, hR, hF⟩ | ⟨c, m, ho, rfl, hF⟩
 rotate_left 1
 · exact eg rfl (.of_bad (el Ac.out ho) (Aj.out.trans hF))
 clear q4 q5 Ax
 have Av := ec (ej Ac.out ho)
 have q6 := eW hF q3 Aa
 clear q3
 have Au := ec hR
 have Ar := ec (Aj.out.trans hF)
 cases hv
 clear he ho hR hF Ak Al Aj Ac
 obtain ⟨q7, q8, AB⟩ := oH q6.out
 go_wp2_with fail
 have hz := (And.intro q7 (And.intro q8 AB))
 simp [bodyPost, results, Tryz.results192, go_sem, hz]
 have q9 := ep 0 (.string ⟨Af.toArray⟩) q6
 clear q6
 have Ao := eo Au Aa 0 (.string ⟨Af.toArray⟩)
 have At := em Ar An 0 (.string ⟨Af.toArray⟩)
 clear Au Ar
 have qa := ep 1 (.int .i64 Ae) q9
 clear q9
 have Aw := eo Ao Aa 1 (.int .i64 Ae)
 have AC := em At An 1 (.int .i64 Ae)
 clear Ao At
 exact .of_ok Av.out (rfl) Aw.out AC.out
theorem si (h : Rd R L N s st w) (o : Out (ee × ee)) (ho : jm (kt L) s = o) :
    Calls Tryz.prog 196 #[.pointer (some ⟨R, 0, none⟩)] w (Ends R L N st w vM o) := by
 have HO := ec ho
 have H := ec h
 have F := ec (Fq.refl R w)
 clear h ho
 go_enter Tryz.func196, Tryz.ntmps196
 have Ad : Below _ _ ((w).alloc (.cells #[.string ⟨#[]⟩, .string ⟨#[]⟩] 133)) := (Below.refl _ _).alloc (Nat.le_refl _) _
 have Aa : Hid (R < w.heap.size) := ec H.out.lt
 have Ar : Hid (w.heap.size ≤ w.heap.size) := ec F.out.size
 have Ae := ec (heap_alloc_new (w) (.cells #[.string ⟨#[]⟩, .string ⟨#[]⟩] 133))
 have Ao := ec (H.out.below Ad)
 have Aj := ec (F.out.trans (Fq.of_below Ad))
 clear H F Ad
 have An := ec (gv R L N s st _ Ao.out _ rfl)
 go_wp2_with fail
 refine An.out.mono ?_
 intro e AE he
 rcases he.split with ⟨Ag, AB, AD, ho, rfl, hv, hR, hF⟩ | ⟨c, m, ho, rfl, hF⟩
 rotate_left 1
 · exact eg rfl (.of_bad (el HO.out ho) (Aj.out.trans hF))
 have Ac := ec (ej HO.out ho)
 have q0 := eW hF Ae Aa
 clear Ae
 have Ak := ec hR
 have Ai := ec (Aj.out.trans hF)
 cases hv
 clear he ho hR hF An Ao Aj HO
 obtain ⟨q1, q2, Az⟩ := oH q0.out
 have Au := ec (j6 R L N AB st _ [116, 111] Ak.out _ rfl)
 go_wp2_with fail
 refine Au.out.mono ?_
 intro e AH he
 rcases he.split with ⟨AG, AC, AK, ho, rfl, hv, hR, hF⟩ | ⟨c, m, ho, rfl, hF⟩
 rotate_left 1
 · exact eg rfl (.of_bad (el Ac.out ho) (Ai.out.trans hF))
 clear q1 q2 Az
 have Ab := ec (ej Ac.out ho)
 have q3 := eW hF q0 Aa
 clear q0
 have Aq := ec hR
 have Ah := ec (Ai.out.trans hF)
 cases hv
 clear he ho hR hF Au Ak Ai Ac
 obtain ⟨q4, q5, Aw⟩ := oH q3.out
 have Ap := ec (gv R L N AC st _ Aq.out _ rfl)
 go_wp2_with fail
 refine Ap.out.mono ?_
 intro e AF he
 rcases he.split with ⟨Af, AJ, AI, ho, rfl, hv, hR, hF⟩ | ⟨c, m, ho, rfl, hF⟩
 rotate_left 1
 · exact eg rfl (.of_bad (el Ab.out ho) (Ah.out.trans hF))
 clear q4 q5 Aw
 have Av := ec (ej Ab.out ho)
 have q6 := eW hF q3 Aa
 clear q3
 have Al := ec hR
 have As := ec (Ah.out.trans hF)
 cases hv
 clear he ho hR hF Ap Aq Ah Ab
 obtain ⟨q7, q8, AA⟩ := oH q6.out
 go_wp2_with fail
 have hz := (And.intro q7 (And.intro q8 AA))
 simp [bodyPost, results, Tryz.results196, go_sem, hz]
 have q9 := ep 0 (.string ⟨Ag.toArray⟩) q6
 clear q6
 have At := eo Al Aa 0 (.string ⟨Ag.toArray⟩)
 have Am := em As Ar 0 (.string ⟨Ag.toArray⟩)
 clear Al As
 have qa := ep 1 (.string ⟨Af.toArray⟩) q9
 clear q9
 have Ay := eo At Aa 1 (.string ⟨Af.toArray⟩)
 have Ax := em Am Ar 1 (.string ⟨Af.toArray⟩)
 clear At Am
 exact .of_ok Av.out (rfl) Ay.out Ax.out
theorem xz (h : Rd R L N s st w) (o : Out gx) (ho : kW FN (kt L) s = o) :
    Calls Tryz.prog 198 #[.pointer (some ⟨R, 0, none⟩)] w (Ends R L N st w (sT (fo w)) o) := by
 have HO := ec ho
 have H := ec h
 have F := ec (Fq.refl R w)
 clear h ho
 go_enter Tryz.func198, Tryz.ntmps198
 have Bd : Below _ _ ((w).alloc (.cells #[.string ⟨#[]⟩, .string ⟨#[]⟩, .slice none 0 0, .bool false, .int .i64 0] 135)) := (Below.refl _ _).alloc (Nat.le_refl _) _
 have Aa : Hid (R < w.heap.size) := ec H.out.lt
 have Aj : Hid (w.heap.size ≤ w.heap.size) := ec F.out.size
 have AD := ec (heap_alloc_new (w) (.cells #[.string ⟨#[]⟩, .string ⟨#[]⟩, .slice none 0 0, .bool false, .int .i64 0] 135))
 have BH := ec (H.out.below Bd)
 have AV := ec (F.out.trans (Fq.of_below Bd))
 clear H F Bd
 have By := ec (gv R L N s st _ BH.out _ rfl)
 go_wp2_with fail
 refine By.out.mono ?_
 intro e Ai he
 rcases he.split with ⟨Ag, Df, DZ, ho, rfl, hv, hR, hF⟩ | ⟨c, m, ho, rfl, hF⟩
 rotate_left 1
 · exact eg rfl (.of_bad (el HO.out ho) (AV.out.trans hF))
 have As := ec (ej HO.out ho)
 have q0 := eW hF AD Aa
 clear AD
 have AN := ec hR
 have Bl := ec (AV.out.trans hF)
 cases hv
 clear he ho hR hF By BH AV HO
 obtain ⟨q1, q2, q3, q4, q5, Dc⟩ := gN q0.out
 have Ay : Below _ _ ((Ai).alloc (.cells #[.string ⟨Ag.toArray⟩, .string ⟨#[]⟩, .slice none 0 0, .bool false, .int .i64 0] 135)) := (Below.refl _ _).alloc (Nat.le_refl _) _
 have Ah : Hid (R < Ai.heap.size) := ec AN.out.lt
 have AA : Hid (w.heap.size ≤ Ai.heap.size) := ec Bl.out.size
 have q6 : Hid (w.heap.size ≠ Ai.heap.size) := ec (Nat.ne_of_lt (eN q0.out))
 have q7 : Hid (Ai.heap.size ≠ w.heap.size) := ec (Nat.ne_of_gt (eN q0.out))
 have q8 := ec ((Ay.block _ (eN q0.out)).trans q0.out)
 clear q0
 have AZ := ec (heap_alloc_new (Ai) (.cells #[.string ⟨Ag.toArray⟩, .string ⟨#[]⟩, .slice none 0 0, .bool false, .int .i64 0] 135))
 have Cu := ec (AN.out.below Ay)
 have AS := ec (Bl.out.trans (Fq.of_below Ay))
 clear AN Bl Ay
 have BB := ec (fM R L N Df st _ [40] Cu.out _ rfl)
 go_wp2_with fail
 refine BB.out.mono ?_
 intro e DK he
 rcases he.split with ⟨DQ, CZ, DR, ho, rfl, hv, hR, hF⟩ | ⟨c, m, ho, rfl, hF⟩
 rotate_left 1
 · exact eg rfl (.of_bad (el As.out ho) (AS.out.trans hF))
 clear q1 q2 q3 q4 q5 Dc
 have An := ec (ej As.out ho)
 have q9 := eW hF q8 Aa
 clear q8
 have qa := eW hF AZ Ah
 clear AZ
 have BS := ec hR
 have AJ := ec (AS.out.trans hF)
 cases hv
 clear he ho hR hF BB Cu AS As
 obtain ⟨qb, qc, qd, qe, qf, Dt⟩ := gN q9.out
 obtain ⟨qg, qh, qi, qj, qk, Do⟩ := gN qa.out
 have DB := q6.out
 have CV := q7.out
 have Ch := ec (gv R L N CZ st _ BS.out _ rfl)
 go_wp2_with fail
 refine Ch.out.mono ?_
 intro e Ea he
 rcases he.split with ⟨Ae, CO, Eb, ho, rfl, hv, hR, hF⟩ | ⟨c, m, ho, rfl, hF⟩
 rotate_left 1
 · exact eg rfl (.of_bad (el An.out ho) (AJ.out.trans hF))
 clear qb qc qd qe qf Dt qg qh qi qj qk Do DB CV
 have Ao := ec (ej An.out ho)
 have ql := eW hF q9 Aa
 clear q9
 have qm := eW hF qa Ah
 clear qa
 have BF := ec hR
 have Br := ec (AJ.out.trans hF)
 cases hv
 clear he ho hR hF Ch BS AJ An
 obtain ⟨qn, qo, qp, qq, qr, De⟩ := gN ql.out
 obtain ⟨qs, qt, qu, qv, qw, CQ⟩ := gN qm.out
 have CS := q6.out
 have Dz := q7.out
 have qx := ew Ai 1 (.string ⟨Ae.toArray⟩) ql q6
 have qy := ep 1 (.string ⟨Ae.toArray⟩) qm
 clear ql qm
 have Bw := eo BF Ah 1 (.string ⟨Ae.toArray⟩)
 have AO := em Br AA 1 (.string ⟨Ae.toArray⟩)
 clear BF Br
 have BU := ec (fM R L N CO st _ [41] Bw.out _ rfl)
 go_wp2_with fail
 refine BU.out.mono ?_
 intro e DY he
 rcases he.split with ⟨DX, CY, DV, ho, rfl, hv, hR, hF⟩ | ⟨c, m, ho, rfl, hF⟩
 rotate_left 1
 · exact eg rfl (.of_bad (el Ao.out ho) (AO.out.trans hF))
 clear qn qo qp qq qr De qs qt qu qv qw CQ CS Dz
 have Aq := ec (ej Ao.out ho)
 have qz := eW hF qx Aa
 clear qx
 have qA := eW hF qy Ah
 clear qy
 have Cn := ec hR
 have Bc := ec (AO.out.trans hF)
 cases hv
 clear he ho hR hF BU Bw AO Ao
 obtain ⟨qB, qC, qD, qE, qF, DA⟩ := gN qz.out
 obtain ⟨qG, qH, qI, qJ, qK, CP⟩ := gN qA.out
 have Dm := q6.out
 have CJ := q7.out
 have Bz := ec (fM R L N CY st _ [58] Cn.out _ rfl)
 go_wp2_with fail
 refine Bz.out.mono ?_
 intro e DN he
 rcases he.split with ⟨DM, CU, DJ, ho, rfl, hv, hR, hF⟩ | ⟨c, m, ho, rfl, hF⟩
 rotate_left 1
 · exact eg rfl (.of_bad (el Aq.out ho) (Bc.out.trans hF))
 clear qB qC qD qE qF DA qG qH qI qJ qK CP Dm CJ
 have Ar := ec (ej Aq.out ho)
 have qL := eW hF qz Aa
 clear qz
 have qM := eW hF qA Ah
 clear qA
 have Bq := ec hR
 have Aw := ec (Bc.out.trans hF)
 cases hv
 clear he ho hR hF Bz Cn Bc Aq
 obtain ⟨qN, qO, qP, qQ, qR, Dn⟩ := gN qL.out
 obtain ⟨qS, qT, qU, qV, qW, Dk⟩ := gN qM.out
 have Da := q6.out
 have Dx := q7.out
 have Cb := ec (jn R L N CU st _ (gw (kt L)) (fun s w h => gv R L N s st w h _ rfl) (iz (kt L)) (fun s w h => jk R L N s st w h _ rfl) (fun s a u => go _ s a u) (fun s u => gC) 16 Bq.out _ rfl)
 go_wp2_with fail
 refine Cb.out.mono ?_
 intro e DS he
 rcases he.split with ⟨Ac, CI, DI, ho, rfl, hv, hR, hF⟩ | ⟨c, m, ho, rfl, hF⟩
 rotate_left 1
 · exact eg rfl (.of_bad (el Ar.out ho) (Aw.out.trans hF))
 clear qN qO qP qQ qR Dn qS qT qU qV qW Dk Da Dx
 have Ap := ec (ej Ar.out ho)
 have qX := eW hF qL Aa
 clear qL
 have qY := eW hF qM Ah
 clear qM
 have BN := ec hR
 have BE := ec (Aw.out.trans hF)
 obtain ⟨Ab, Ad, rfl⟩ := ed hv
 have BP := ec (Strs.mono hv fun g hg => Nat.le_trans Aw.out.size hg)
 clear hv
 clear he ho hR hF Cb Bq Aw Ar
 obtain ⟨qZ, Ds, Dw, Dq, CW, Dp⟩ := gN qX.out
 obtain ⟨DD, CK, CT, DC, Dh, Db⟩ := gN qY.out
 have CR := q6.out
 have Du := q7.out
 have Ct := eH 2 (.slice Ab Ac.length Ad) BP qY
 clear BP
 have BX := ew Ai 2 (.slice Ab Ac.length Ad) qX q6
 have BD := ep 2 (.slice Ab Ac.length Ad) qY
 clear qX qY
 have AC := eo BN Ah 2 (.slice Ab Ac.length Ad)
 have AH := em BE AA 2 (.slice Ab Ac.length Ad)
 clear BN BE
 have BO := ec (gh R L N CI st _ [99, 97, 112] AC.out _ rfl)
 go_wp2_with fail
 refine BO.out.mono ?_
 intro e DW he
 rcases he.split with ⟨Dy, CH, DL, ho, rfl, hv, hR, hF⟩ | ⟨c, m, ho, rfl, hF⟩
 rotate_left 1
 · exact eg rfl (.of_bad (el Ap.out ho) (AH.out.trans hF))
 clear qZ Ds Dw Dq CW Dp DD CK CT DC Dh Db CR Du
 have AP := ec (ej Ap.out ho)
 have Ak := eW hF BX Aa
 clear BX
 have Al := eW hF BD Ah
 clear BD
 have Ax := ec (Strs.keep Ct.out (Kp.of_fq (T := [9]) hF AC.out (by decide)) (by decide))
 clear Ct
 have Az := ec hR
 have Av := ec (AH.out.trans hF)
 cases hv
 clear he ho hR hF BO AC AH Ap
 obtain ⟨Bu, BL, BI, BR, Cl, Bv⟩ := gN Ak.out
 obtain ⟨Cw, BT, Cd, Bx, Cm, Ce⟩ := gN Al.out
 have Ck := q6.out
 have Cx := q7.out
 cases Dy with
 | false =>
  have HO := ec (fc AP.out rfl)
  go_wp2_with fail
  have hz := (And.intro Bu (And.intro BL (And.intro BI (And.intro BR (And.intro Cl (And.intro Bv (And.intro Cw (And.intro BT (And.intro Cd (And.intro Bx (And.intro Cm (And.intro Ce (And.intro Ck Cx)))))))))))))
  simp [bodyPost, results, Tryz.results198, go_sem, hz]
  have BK := eH 0 (.string ⟨Ag.toArray⟩) Ax Ak
  clear Ax
  have Bj := ep 0 (.string ⟨Ag.toArray⟩) Ak
  have Cr := ew w 0 (.string ⟨Ag.toArray⟩) Al q7
  clear Ak Al
  have Cj := eo Az Aa 0 (.string ⟨Ag.toArray⟩)
  have BW := em Av Aj 0 (.string ⟨Ag.toArray⟩)
  clear Az Av
  have Cq := eH 1 (.string ⟨Ae.toArray⟩) BK Bj
  clear BK
  have Bh := ep 1 (.string ⟨Ae.toArray⟩) Bj
  have Bt := ew w 1 (.string ⟨Ae.toArray⟩) Cr q7
  clear Bj Cr
  have BG := eo Cj Aa 1 (.string ⟨Ae.toArray⟩)
  have BJ := em BW Aj 1 (.string ⟨Ae.toArray⟩)
  clear Cj BW
  have Cg := eH 2 (.slice Ab Ac.length Ad) Cq Bh
  clear Cq
  have AF := ep 2 (.slice Ab Ac.length Ad) Bh
  have Cs := ew w 2 (.slice Ab Ac.length Ad) Bt q7
  clear Bh Bt
  have Bk := eo BG Aa 2 (.slice Ab Ac.length Ad)
  have Bb := em BJ Aj 2 (.slice Ab Ac.length Ad)
  clear BG BJ
  have Cv := eH 3 (.bool false) Cg AF
  clear Cg
  have Bf := ep 3 (.bool false) AF
  have BZ := ew w 3 (.bool false) Cs q7
  clear AF Cs
  have AQ := eo Bk Aa 3 (.bool false)
  have AX := em Bb Aj 3 (.bool false)
  clear Bk Bb
  have DE := eH 4 (.int .i64 0) Cv Bf
  clear Cv
  have DP := ep 4 (.int .i64 0) Bf
  have DT := ew w 4 (.int .i64 0) BZ q7
  clear Bf BZ
  have CF := eo AQ Aa 4 (.int .i64 0)
  have CA := em AX Aj 4 (.int .i64 0)
  clear AQ AX
  exact .of_ok HO.out (⟨_, rfl, DE.out⟩) CF.out CA.out
 | true =>
  have HO := ec (fs AP.out rfl)
  have Cy := eH 3 (.bool true) Ax Al
  clear Ax
  have Co := ew Ai 3 (.bool true) Ak q6
  have Bs := ep 3 (.bool true) Al
  clear Ak Al
  have Am := eo Az Ah 3 (.bool true)
  have At := em Av AA 3 (.bool true)
  clear Az Av
  have AW := ec (kM R L N CH st _ Am.out _ rfl)
  go_wp2_with fail
  refine AW.out.mono ?_
  intro e DG he
  rcases he.split with ⟨Af, DF, DH, ho, rfl, hv, hR, hF⟩ | ⟨c, m, ho, rfl, hF⟩
  rotate_left 1
  · exact eg rfl (.of_bad (el HO.out ho) (At.out.trans hF))
  clear Bu BL BI BR Cl Bv Cw BT Cd Bx Cm Ce Ck Cx
  have Bp := ec (ej HO.out ho)
  have Be := eW hF Co Aa
  clear Co
  have Au := eW hF Bs Ah
  clear Bs
  have Cc := ec (Strs.keep Cy.out (Kp.of_fq (T := [9]) hF Am.out (by decide)) (by decide))
  clear Cy
  have Bo := ec hR
  have AE := ec (At.out.trans hF)
  cases hv
  clear he ho hR hF AW Am At HO
  obtain ⟨Dd, Dv, CM, Dl, Dr, Cz⟩ := gN Be.out
  obtain ⟨CN, Dg, CL, Dj, CX, CD⟩ := gN Au.out
  have CG := q6.out
  have CB := q7.out
  have BC := eH 4 (.int .i64 Af) Cc Au
  clear Cc
  have AT := ew Ai 4 (.int .i64 Af) Be q6
  have Cp := ep 4 (.int .i64 Af) Au
  clear Be Au
  have Bn := eo Bo Ah 4 (.int .i64 Af)
  have Ba := em AE AA 4 (.int .i64 Af)
  clear Bo AE
  go_wp2_with fail
  have hz := (And.intro Dd (And.intro Dv (And.intro CM (And.intro Dl (And.intro Dr (And.intro Cz (And.intro CN (And.intro Dg (And.intro CL (And.intro Dj (And.intro CX (And.intro CD (And.intro CG CB)))))))))))))
  simp [bodyPost, results, Tryz.results198, go_sem, hz]
  have BM := eH 0 (.string ⟨Ag.toArray⟩) BC AT
  clear BC
  have Bm := ep 0 (.string ⟨Ag.toArray⟩) AT
  have Ci := ew w 0 (.string ⟨Ag.toArray⟩) Cp q7
  clear AT Cp
  have AM := eo Bn Aa 0 (.string ⟨Ag.toArray⟩)
  have AY := em Ba Aj 0 (.string ⟨Ag.toArray⟩)
  clear Bn Ba
  have BY := eH 1 (.string ⟨Ae.toArray⟩) BM Bm
  clear BM
  have AU := ep 1 (.string ⟨Ae.toArray⟩) Bm
  have BV := ew w 1 (.string ⟨Ae.toArray⟩) Ci q7
  clear Bm Ci
  have Bg := eo AM Aa 1 (.string ⟨Ae.toArray⟩)
  have AK := em AY Aj 1 (.string ⟨Ae.toArray⟩)
  clear AM AY
  have Ca := eH 2 (.slice Ab Ac.length Ad) BY AU
  clear BY
  have AB := ep 2 (.slice Ab Ac.length Ad) AU
  have BQ := ew w 2 (.slice Ab Ac.length Ad) BV q7
  clear AU BV
  have AL := eo Bg Aa 2 (.slice Ab Ac.length Ad)
  have AI := em AK Aj 2 (.slice Ab Ac.length Ad)
  clear Bg AK
  have Cf := eH 3 (.bool true) Ca AB
  clear Ca
  have AG := ep 3 (.bool true) AB
  have BA := ew w 3 (.bool true) BQ q7
  clear AB BQ
  have AR := eo AL Aa 3 (.bool true)
  have Bi := em AI Aj 3 (.bool true)
  clear AL AI
  have Di := eH 4 (.int .i64 Af) Cf AG
  clear Cf
  have DO := ep 4 (.int .i64 Af) AG
  have DU := ew w 4 (.int .i64 Af) BA q7
  clear AG BA
  have CC := eo AR Aa 4 (.int .i64 Af)
  have CE := em Bi Aj 4 (.int .i64 Af)
  clear AR Bi
  exact .of_ok Bp.out (⟨_, rfl, Di.out⟩) CC.out CE.out
end
end Go.Proofs.YtbpphlmakmeoaaaGreatDoor.Sy
