import Derived.Test.YtbpphlmakmeoaaaGreatDoorItem5
set_option maxRecDepth 100000
set_option maxHeartbeats 1600000
namespace Go.Proofs.YtbpphlmakmeoaaaGreatDoor.Sy
open Go.RowKit
theorem SRep.put_title {R : Nat} {w : World} {st : St9} {S : StatM} (h : SRep R w st S) (t : ee) : SRep R (w.setCell ⟨R, 5, none⟩ (.string ⟨t.toArray⟩)) { st with title := .string ⟨t.toArray⟩ } { S with title := t } := by
 have h' := h.keep (Kp.setR (R := R) (i := 5) (v := .string ⟨t.toArray⟩) fun g hg => Nat.ne_of_gt hg)
 exact ⟨rfl, h'.kinds, h'.members, h'.preds, h'.classes, h'.sources, h'.rules, h'.excepts, h'.totals⟩
theorem sZ {F : j5} {K : fQ} {f : Nat} {S : StatM} {s : RS} {o : Out StatM} (h : kN F K (f + 1) S s = o) :
    (gB (fun s => decide (s.n < K.length)) >>= fun b => if b = true then lN F K S >>= fun S' => gp K [46] >>= fun _ => kN F K f S' else pure S) s = o := h
section
variable (R : Nat) (L : List fw) (N : Nat) (s : RS) (st : St9) (w : World)
theorem nh (F : j5) (S : StatM) : Good (fun K => lN F K S) :=
 .bind (eR _) fun b => .ite b (.bind (fW _ _ good_name) fun _ => .pure _) <|
 .bind (eR _) fun b => .ite b (.bind (ny _) fun _ => .pure _) <|
 .bind (eR _) fun b => .ite b (.bind (fW _ _ (kP 1)) fun _ => .pure _) <|
 .bind (eR _) fun b => .ite b (.bind (fW _ _ (kP 2)) fun _ => .pure _) <|
 .bind (eR _) fun b => .ite b (.bind (fW _ _ (lK F)) fun _ => .pure _) <|
 .bind (eR _) fun b => .ite b (.bind (fW _ _ oY) fun _ => .pure _) <|
 .bind (eR _) fun b => .ite b (.bind (fW _ _ (nZ F)) fun _ => .pure _) <|
 .bind (eR _) fun b => .ite b (.bind (fW _ _ (rW F)) fun _ => .pure _) <|
 .bind (eR _) fun b => .ite b (.bind (fW _ _ mA) fun _ => .pure _) <|
 .bind (eR _) fun b => .ite b (.bind (fW _ _ (oQ F)) fun _ => .pure _) (.fail _)
theorem ol (h : Rd R L N s st w) (hS : SRep R w st StatM.none) (o : Out StatM) (ho : textM FN (kt L) s = o) :
    Calls Tryz.prog 63 #[.pointer (some ⟨R, 0, none⟩)] w (EndsI R L N w o) := by
 have HN := ec (show (kt L).length = L.length by simp [kt])
 have HO := ec (ko ho)
 have H := ec h
 have HS := ec hS
 have C1 := ec (gh R L N s st w [115, 116, 97, 116, 117, 116, 101] h _ rfl)
 clear h hS ho
 go_enter Tryz.func63, Tryz.ntmps63
 go_wp2_with fail
 refine C1.out.mono ?_
 intro e w1 he
 rcases he.split with ⟨b1, s1, v1, ho, rfl, hv, hR, hF⟩ | ⟨c, m, ho, rfl, hF⟩
 rotate_left 1
 · exact eg rfl (.of_bad (el HO.out ho) (hF.fi H.out.lt))
 cases hv
 have Ak := ec (ej HO.out ho)
 have Aj := ec (HS.out.keep (Kp.of_fq hF H.out (by decide)))
 have H1 := ec hR
 have F1 := ec (hF.fi H.out.lt)
 clear he ho hR hF C1 H HS HO
 cases b1 with
 | false =>
  have Aa := ec (kL (ps Ak.out rfl))
  have Aw : Hid (Lens { StatM.none with title := [] } s1.n) := ec ⟨Nat.zero_le _, Nat.zero_le _, Nat.zero_le _, Nat.zero_le _, Nat.zero_le _, Nat.zero_le _, Nat.zero_le _, Nat.zero_le _⟩
  clear Ak
  obtain ⟨ta, tc, Ab, _⟩ := H1.out.blk
  clear Ab
  go_wp2_with fail
  go_loopw [] (fun wr => ∃ (S : StatM) (t : RS) (st : St9) (f : Nat), Hid (Rd R L N t st wr) ∧ Hid (SRep R wr st S) ∧ Hid (Lens S t.n) ∧ Hid (Fi R w wr) ∧ Hid (kN FN (kt L) f S t = o) ∧ Hid (L.length - t.n < f)) (fun wr => L.length - pn R wr)
  case atStart => exact ⟨_, s1, st, _, H1, Aj, Aw, F1, Aa, ec (by rw [HN.out]; omega)⟩
  case round =>
   obtain ⟨S, t, st', f, HR, HS', HL', HF', HO', Hf⟩ := hrel
   clear H1 Aj Aw F1 Aa
   obtain ⟨f, rfl⟩ : ∃ g, f = g + 1 := ⟨f - 1, by have := Hf.out; omega⟩
   have ho := gc (sZ HO'.out)
   obtain ⟨xa, xc, Ab, _⟩ := HR.out.blk
   have c0 : wr.cell? ⟨R, 0, none⟩ = some (.slice xa L.length xc) := by rw [cell_of_row wr R 0 _ 122 _ Ab]; rfl
   have c1 := HR.out.c1
   have hn := HR.out.nle
   have hL := HR.out.Lle
   clear Ab HO'
   by_cases hlt : t.n < L.length
   · have Aa := ec (fs ho (by rw [HN.out]; simp [hlt]))
     clear ho
     have CI := ec (fun w h => tq R L N t st' w S h)
     go_wp2_with fail
     go_quiet (fail)
     go_wp2_with fail
     refine (CI.out _ (HR.out.drewN _) (HS'.out.keep (Kp.of_below (eJ _ _))) HL'.out _ rfl).mono ?_
     intro e w5 he
     rcases he.split with ⟨S5, t5, Ai, ho, rfl, hR, hS, hl, hF⟩ | ⟨c, m, ho, rfl, hF⟩
     rotate_left 1
     · exact ⟨rfl, .of_bad (el Aa.out ho) (HF'.out.trans (((Fq.drewN _).fi HR.out.lt).trans hF))⟩
     have Ae := ec (ej Aa.out ho)
     have Ag : Hid (t.n ≤ t5.n) := ec ((nh FN S).le _ _ _ _ ho)
     have Ad := ec hR
     have Ar := ec hS
     have Ap := ec hl
     have Ah := ec (HF'.out.trans (((Fq.drewN _).fi HR.out.lt).trans hF))
     have C6 := ec (fM R L N t5 Ai _ [46] hR _ rfl)
     clear he ho hR hS hl hF CI Aa
     go_wp2_with fail
     refine C6.out.mono ?_
     intro e w6 he
     rcases he.split with ⟨a6, t6, v6, ho, rfl, hv, hR, hF⟩ | ⟨c, m, ho, rfl, hF⟩
     rotate_left 1
     · exact ⟨rfl, .of_bad (el Ae.out ho) (Ah.out.trans (hF.fi Ad.out.lt))⟩
     have Aq := ec (ej Ae.out ho)
     have Af : Hid (t5.n < t6.n) := ec (kZ _ _ _ _ _ ho)
     have Ac := ec hR
     have Ao := ec (Ar.out.keep (Kp.of_fq hF Ad.out (by decide)))
     have An := ec (Ap.out.up (Nat.le_of_lt Af.out))
     have Al := ec (Ah.out.trans (hF.fi Ad.out.lt))
     clear he ho hv hR hF C6 Ae
     go_wp2_with fail
     go_roundw
     case rel => exact ⟨S5, t6, Ai, f, Ac, Ao, An, Al, Aq, ec (by have := Ag.out; have := Af.out; have := Hf.out; have := Ac.out.nle; omega)⟩
     case measure =>
      rw [Ac.out.nOf_eq, HR.out.nOf_eq]
      have := Ag.out; have := Af.out; have := Ac.out.nle
      omega
   · have Aa := ec (fc ho (by rw [HN.out]; simp; omega))
     clear ho
     go_wp2_with fail
     go_quiet (fail)
     go_wp2_with fail
     go_end0
     exact .of_ok Aa.out (HR.out.drewN _) (HS'.out.keep (Kp.of_below (eJ _ _))) HL'.out (HF'.out.trans ((Fq.drewN _).fi HR.out.lt))
 | true =>
  have Aa := ec (ko (o8 Ak.out rfl))
  have C2 := ec (xf R L N s1 st _ H1.out _ rfl)
  clear Ak
  go_wp2_with fail
  refine C2.out.mono ?_
  intro e w2 he
  rcases he.split with ⟨a2, s2, v2, ho, rfl, hv, hR, hF⟩ | ⟨c, m, ho, rfl, hF⟩
  rotate_left 1
  · exact eg rfl (.of_bad (el Aa.out ho) (F1.out.trans (hF.fi H1.out.lt)))
  cases hv
  have h3 := ej Aa.out ho
  have Am := ec (ko h3)
  have Av := ec ((Aj.out.keep (Kp.of_fq hF H1.out (by decide))).put_title a2)
  have H2 := ec (hR.s5 (.string ⟨a2.toArray⟩))
  have F2 := ec ((F1.out.trans (hF.fi H1.out.lt)).set 5 (.string ⟨a2.toArray⟩))
  have d1 := hR.d5
  have d2 := hR.frz 5
  have Ax := ec Aj.out.title
  rw [Ax.out] at d1
  have C3 := ec (fM R L N s2 _ _ [46] H2.out _ rfl)
  clear he ho hR hF C2 H1 Aj F1 Aa h3
  go_wp2_with fail
  refine C3.out.mono ?_
  intro e w3 he
  rcases he.split with ⟨a3, s3, v3, ho, rfl, hv, hR, hF⟩ | ⟨c, m, ho, rfl, hF⟩
  rotate_left 1
  · exact eg rfl (.of_bad (el Am.out ho) (F2.out.trans (hF.fi H2.out.lt)))
  have h4 := ej Am.out ho
  have Au := ec (kL h4)
  have At := ec (Av.out.keep (Kp.of_fq hF H2.out (by decide)))
  have H3 := ec hR
  have F3 := ec (F2.out.trans (hF.fi H2.out.lt))
  have As : Hid (Lens { StatM.none with title := a2 } s3.n) := ec ⟨Nat.zero_le _, Nat.zero_le _, Nat.zero_le _, Nat.zero_le _, Nat.zero_le _, Nat.zero_le _, Nat.zero_le _, Nat.zero_le _⟩
  clear he ho hv hR hF C3 H2 Av F2 Am h4 d1 d2
  obtain ⟨ta, tc, Ab, _⟩ := H3.out.blk
  clear Ab
  go_wp2_with fail
  go_loopw [] (fun wr => ∃ (S : StatM) (t : RS) (st : St9) (f : Nat), Hid (Rd R L N t st wr) ∧ Hid (SRep R wr st S) ∧ Hid (Lens S t.n) ∧ Hid (Fi R w wr) ∧ Hid (kN FN (kt L) f S t = o) ∧ Hid (L.length - t.n < f)) (fun wr => L.length - pn R wr)
  case atStart => exact ⟨_, s3, _, _, H3, At, As, F3, Au, ec (by rw [HN.out]; omega)⟩
  case round =>
   obtain ⟨S, t, st', f, HR, HS', HL', HF', HO', Hf⟩ := hrel
   clear H3 At As F3 Au
   obtain ⟨f, rfl⟩ : ∃ g, f = g + 1 := ⟨f - 1, by have := Hf.out; omega⟩
   have ho := gc (sZ HO'.out)
   obtain ⟨xa, xc, Ab, _⟩ := HR.out.blk
   have c0 : wr.cell? ⟨R, 0, none⟩ = some (.slice xa L.length xc) := by rw [cell_of_row wr R 0 _ 122 _ Ab]; rfl
   have c1 := HR.out.c1
   have hn := HR.out.nle
   have hL := HR.out.Lle
   clear Ab HO'
   by_cases hlt : t.n < L.length
   · have Aa := ec (fs ho (by rw [HN.out]; simp [hlt]))
     clear ho
     have CI := ec (fun w h => tq R L N t st' w S h)
     go_wp2_with fail
     go_quiet (fail)
     go_wp2_with fail
     refine (CI.out _ (HR.out.drewN _) (HS'.out.keep (Kp.of_below (eJ _ _))) HL'.out _ rfl).mono ?_
     intro e w5 he
     rcases he.split with ⟨S5, t5, Ai, ho, rfl, hR, hS, hl, hF⟩ | ⟨c, m, ho, rfl, hF⟩
     rotate_left 1
     · exact ⟨rfl, .of_bad (el Aa.out ho) (HF'.out.trans (((Fq.drewN _).fi HR.out.lt).trans hF))⟩
     have Ae := ec (ej Aa.out ho)
     have Ag : Hid (t.n ≤ t5.n) := ec ((nh FN S).le _ _ _ _ ho)
     have Ad := ec hR
     have Ar := ec hS
     have Ap := ec hl
     have Ah := ec (HF'.out.trans (((Fq.drewN _).fi HR.out.lt).trans hF))
     have C6 := ec (fM R L N t5 Ai _ [46] hR _ rfl)
     clear he ho hR hS hl hF CI Aa
     go_wp2_with fail
     refine C6.out.mono ?_
     intro e w6 he
     rcases he.split with ⟨a6, t6, v6, ho, rfl, hv, hR, hF⟩ | ⟨c, m, ho, rfl, hF⟩
     rotate_left 1
     · exact ⟨rfl, .of_bad (el Ae.out ho) (Ah.out.trans (hF.fi Ad.out.lt))⟩
     have Aq := ec (ej Ae.out ho)
     have Af : Hid (t5.n < t6.n) := ec (kZ _ _ _ _ _ ho)
     have Ac := ec hR
     have Ao := ec (Ar.out.keep (Kp.of_fq hF Ad.out (by decide)))
     have An := ec (Ap.out.up (Nat.le_of_lt Af.out))
     have Al := ec (Ah.out.trans (hF.fi Ad.out.lt))
     clear he ho hv hR hF C6 Ae
     go_wp2_with fail
     go_roundw
     case rel => exact ⟨S5, t6, Ai, f, Ac, Ao, An, Al, Aq, ec (by have := Ag.out; have := Af.out; have := Hf.out; have := Ac.out.nle; omega)⟩
     case measure =>
      rw [Ac.out.nOf_eq, HR.out.nOf_eq]
      have := Ag.out; have := Af.out; have := Ac.out.nle
      omega
   · have Aa := ec (fc ho (by rw [HN.out]; simp; omega))
     clear ho
     go_wp2_with fail
     go_quiet (fail)
     go_wp2_with fail
     go_end0
     exact .of_ok Aa.out (HR.out.drewN _) (HS'.out.keep (Kp.of_below (eJ _ _))) HL'.out (HF'.out.trans ((Fq.drewN _).fi HR.out.lt))
end
end Go.Proofs.YtbpphlmakmeoaaaGreatDoor.Sy
