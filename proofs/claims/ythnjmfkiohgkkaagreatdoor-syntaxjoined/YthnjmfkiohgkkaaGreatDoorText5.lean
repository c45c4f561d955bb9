/- A whole text. -/
import Derived.Test.YthnjmfkiohgkkaaGreatDoorItem5
namespace Go.Proofs.YthnjmfkiohgkkaaGreatDoor.Sy
open Go.RowKit

theorem SRep.put_title {R : Nat} {w : World} {st : St9} {S : StatM} (h : SRep R w st S) (t : Bytes) : SRep R (w.setCell ⟨R, 5, none⟩ (.string ⟨t.toArray⟩)) { st with title := .string ⟨t.toArray⟩ } { S with title := t } := by
  have h' := h.keep (Kp.setR (R := R) (i := 5) (v := .string ⟨t.toArray⟩) fun g hg => Nat.ne_of_gt hg)
  exact ⟨rfl, h'.kinds, h'.members, h'.preds, h'.classes, h'.sources, h'.rules, h'.excepts, h'.totals⟩

theorem items_go {F : Fns} {K : Toks} {f : Nat} {S : StatM} {s : RS} {o : Out StatM} (h : itemsM F K (f + 1) S s = o) :
    (askM (fun s => decide (s.n < K.length)) >>= fun b => if b = true then itemM F K S >>= fun S' => wantMark K [46] >>= fun _ => itemsM F K f S' else pure S) s = o := h

section
variable (R : Nat) (L : List Tok) (N : Nat) (s : RS) (st : St9) (w : World)

theorem good_item (F : Fns) (S : StatM) : Good (fun K => itemM F K S) :=
  .bind (good_hasWord _) fun b => .ite b (.bind (good_add _ _ good_name) fun _ => .pure _) <|
  .bind (good_hasWord _) fun b => .ite b (.bind (good_members _) fun _ => .pure _) <|
  .bind (good_hasWord _) fun b => .ite b (.bind (good_add _ _ (good_pred 1)) fun _ => .pure _) <|
  .bind (good_hasWord _) fun b => .ite b (.bind (good_add _ _ (good_pred 2)) fun _ => .pure _) <|
  .bind (good_hasWord _) fun b => .ite b (.bind (good_add _ _ (good_amountPred F)) fun _ => .pure _) <|
  .bind (good_hasWord _) fun b => .ite b (.bind (good_add _ _ good_class) fun _ => .pure _) <|
  .bind (good_hasWord _) fun b => .ite b (.bind (good_add _ _ (good_source F)) fun _ => .pure _) <|
  .bind (good_hasWord _) fun b => .ite b (.bind (good_add _ _ (good_rule F)) fun _ => .pure _) <|
  .bind (good_hasWord _) fun b => .ite b (.bind (good_add _ _ good_exception) fun _ => .pure _) <|
  .bind (good_hasWord _) fun b => .ite b (.bind (good_add _ _ (good_total F)) fun _ => .pure _) (.fail _)

set_option maxRecDepth 100000 in
set_option maxHeartbeats 1600000 in
theorem text_any (h : Rd R L N s st w) (hS : SRep R w st StatM.none) (o : Out StatM) (ho : textM FN (kt L) s = o) :
    Calls Tryz.prog 22 #[.pointer (some ⟨R, 0, none⟩)] w (EndsI R L N w o) := by
  have HN := hide (show (kt L).length = L.length by simp [kt])
  have HO := hide (bind_two ho)
  have H := hide h
  have HS := hide hS
  have C1 := hide (hasWord_any R L N s st w [115, 116, 97, 116, 117, 116, 101] h _ rfl)
  clear h hS ho
  go_enter Tryz.func22, Tryz.ntmps22
  go_wp2_with fail
  refine C1.out.mono ?_
  intro e w1 he
  rcases he.split with ⟨b1, s1, v1, ho, rfl, hv, hR, hF⟩ | ⟨c, m, ho, rfl, hF⟩
  rotate_left 1
  · exact on_panic rfl (.of_bad (bind_no HO.out ho) (hF.fi H.out.lt))
  cases hv
  have HO1 := hide (bind_go HO.out ho)
  have HS1 := hide (HS.out.keep (Kp.of_fq hF H.out (by decide)))
  have H1 := hide hR
  have F1 := hide (hF.fi H.out.lt)
  clear he ho hR hF C1 H HS HO
  cases b1 with
  | false =>
    have HO2 := hide (bind_pure (bind_f HO1.out rfl))
    have HL2 : Hid (Lens { StatM.none with title := [] } s1.n) := hide ⟨Nat.zero_le _, Nat.zero_le _, Nat.zero_le _, Nat.zero_le _, Nat.zero_le _, Nat.zero_le _, Nat.zero_le _, Nat.zero_le _⟩
    clear HO1
    obtain ⟨ta, tc, hblk, _⟩ := H1.out.blk
    clear hblk
    go_wp2_with fail
    go_loopw [] (fun wr => ∃ (S : StatM) (t : RS) (st : St9) (f : Nat), Hid (Rd R L N t st wr) ∧ Hid (SRep R wr st S) ∧ Hid (Lens S t.n) ∧ Hid (Fi R w wr) ∧ Hid (itemsM FN (kt L) f S t = o) ∧ Hid (L.length - t.n < f)) (fun wr => L.length - nOf R wr)
    case atStart => exact ⟨_, s1, st, _, H1, HS1, HL2, F1, HO2, hide (by rw [HN.out]; omega)⟩
    case round =>
      obtain ⟨S, t, st', f, HR, HS', HL', HF', HO', Hf⟩ := hrel
      clear H1 HS1 HL2 F1 HO2
      obtain ⟨f, rfl⟩ : ∃ g, f = g + 1 := ⟨f - 1, by have := Hf.out; omega⟩
      have ho := ask_go (items_go HO'.out)
      obtain ⟨xa, xc, hblk, _⟩ := HR.out.blk
      have c0 : wr.cell? ⟨R, 0, none⟩ = some (.slice xa L.length xc) := by rw [cell_of_row wr R 0 _ 62 _ hblk]; rfl
      have c1 := HR.out.c1
      have hn := HR.out.nle
      have hL := HR.out.Lle
      clear hblk HO'
      by_cases hlt : t.n < L.length
      · have HO2 := hide (ite_t ho (by rw [HN.out]; simp [hlt]))
        clear ho
        have CI := hide (fun w h => item_any R L N t st' w S h)
        go_wp2_with fail
        go_quiet (fail)
        go_wp2_with fail
        refine (CI.out _ (HR.out.drewN _) (HS'.out.keep (Kp.of_below (below_drewN _ _))) HL'.out _ rfl).mono ?_
        intro e w5 he
        rcases he.split with ⟨S5, t5, st5, ho, rfl, hR, hS, hl, hF⟩ | ⟨c, m, ho, rfl, hF⟩
        rotate_left 1
        · exact ⟨rfl, .of_bad (bind_no HO2.out ho) (HF'.out.trans (((Fq.drewN _).fi HR.out.lt).trans hF))⟩
        have HO5 := hide (bind_go HO2.out ho)
        have HT5 : Hid (t.n ≤ t5.n) := hide ((good_item FN S).le _ _ _ _ ho)
        have HR5 := hide hR
        have HS5 := hide hS
        have HL5 := hide hl
        have HF5 := hide (HF'.out.trans (((Fq.drewN _).fi HR.out.lt).trans hF))
        have C6 := hide (wantMark_any R L N t5 st5 _ [46] hR _ rfl)
        clear he ho hR hS hl hF CI HO2
        go_wp2_with fail
        refine C6.out.mono ?_
        intro e w6 he
        rcases he.split with ⟨a6, t6, v6, ho, rfl, hv, hR, hF⟩ | ⟨c, m, ho, rfl, hF⟩
        rotate_left 1
        · exact ⟨rfl, .of_bad (bind_no HO5.out ho) (HF5.out.trans (hF.fi HR5.out.lt))⟩
        have HO6 := hide (bind_go HO5.out ho)
        have HT6 : Hid (t5.n < t6.n) := hide (eats_wantMark _ _ _ _ _ ho)
        have HR6 := hide hR
        have HS6 := hide (HS5.out.keep (Kp.of_fq hF HR5.out (by decide)))
        have HL6 := hide (HL5.out.up (Nat.le_of_lt HT6.out))
        have HF6 := hide (HF5.out.trans (hF.fi HR5.out.lt))
        clear he ho hv hR hF C6 HO5
        go_wp2_with fail
        go_roundw
        case rel => exact ⟨S5, t6, st5, f, HR6, HS6, HL6, HF6, HO6, hide (by have := HT5.out; have := HT6.out; have := Hf.out; have := HR6.out.nle; omega)⟩
        case measure =>
          rw [HR6.out.nOf_eq, HR.out.nOf_eq]
          have := HT5.out; have := HT6.out; have := HR6.out.nle
          omega
      · have HO2 := hide (ite_f ho (by rw [HN.out]; simp; omega))
        clear ho
        go_wp2_with fail
        go_quiet (fail)
        go_wp2_with fail
        go_end0
        exact .of_ok HO2.out (HR.out.drewN _) (HS'.out.keep (Kp.of_below (below_drewN _ _))) HL'.out (HF'.out.trans ((Fq.drewN _).fi HR.out.lt))
  | true =>
    have HO2 := hide (bind_two (bind_t HO1.out rfl))
    have C2 := hide (quote_any R L N s1 st _ H1.out _ rfl)
    clear HO1
    go_wp2_with fail
    refine C2.out.mono ?_
    intro e w2 he
    rcases he.split with ⟨a2, s2, v2, ho, rfl, hv, hR, hF⟩ | ⟨c, m, ho, rfl, hF⟩
    rotate_left 1
    · exact on_panic rfl (.of_bad (bind_no HO2.out ho) (F1.out.trans (hF.fi H1.out.lt)))
    cases hv
    have h3 := bind_go HO2.out ho
    have HO3 := hide (bind_two h3)
    have HS2 := hide ((HS1.out.keep (Kp.of_fq hF H1.out (by decide))).put_title a2)
    have H2 := hide (hR.s5 (.string ⟨a2.toArray⟩))
    have F2 := hide ((F1.out.trans (hF.fi H1.out.lt)).set 5 (.string ⟨a2.toArray⟩))
    have d1 := hR.d5
    have d2 := hR.frz 5
    have HD5 := hide HS1.out.title
    rw [HD5.out] at d1
    have C3 := hide (wantMark_any R L N s2 _ _ [46] H2.out _ rfl)
    clear he ho hR hF C2 H1 HS1 F1 HO2 h3
    go_wp2_with fail
    refine C3.out.mono ?_
    intro e w3 he
    rcases he.split with ⟨a3, s3, v3, ho, rfl, hv, hR, hF⟩ | ⟨c, m, ho, rfl, hF⟩
    rotate_left 1
    · exact on_panic rfl (.of_bad (bind_no HO3.out ho) (F2.out.trans (hF.fi H2.out.lt)))
    have h4 := bind_go HO3.out ho
    have HO4 := hide (bind_pure h4)
    have HS3 := hide (HS2.out.keep (Kp.of_fq hF H2.out (by decide)))
    have H3 := hide hR
    have F3 := hide (F2.out.trans (hF.fi H2.out.lt))
    have HL3 : Hid (Lens { StatM.none with title := a2 } s3.n) := hide ⟨Nat.zero_le _, Nat.zero_le _, Nat.zero_le _, Nat.zero_le _, Nat.zero_le _, Nat.zero_le _, Nat.zero_le _, Nat.zero_le _⟩
    clear he ho hv hR hF C3 H2 HS2 F2 HO3 h4 d1 d2
    obtain ⟨ta, tc, hblk, _⟩ := H3.out.blk
    clear hblk
    go_wp2_with fail
    go_loopw [] (fun wr => ∃ (S : StatM) (t : RS) (st : St9) (f : Nat), Hid (Rd R L N t st wr) ∧ Hid (SRep R wr st S) ∧ Hid (Lens S t.n) ∧ Hid (Fi R w wr) ∧ Hid (itemsM FN (kt L) f S t = o) ∧ Hid (L.length - t.n < f)) (fun wr => L.length - nOf R wr)
    case atStart => exact ⟨_, s3, _, _, H3, HS3, HL3, F3, HO4, hide (by rw [HN.out]; omega)⟩
    case round =>
      obtain ⟨S, t, st', f, HR, HS', HL', HF', HO', Hf⟩ := hrel
      clear H3 HS3 HL3 F3 HO4
      obtain ⟨f, rfl⟩ : ∃ g, f = g + 1 := ⟨f - 1, by have := Hf.out; omega⟩
      have ho := ask_go (items_go HO'.out)
      obtain ⟨xa, xc, hblk, _⟩ := HR.out.blk
      have c0 : wr.cell? ⟨R, 0, none⟩ = some (.slice xa L.length xc) := by rw [cell_of_row wr R 0 _ 62 _ hblk]; rfl
      have c1 := HR.out.c1
      have hn := HR.out.nle
      have hL := HR.out.Lle
      clear hblk HO'
      by_cases hlt : t.n < L.length
      · have HO2 := hide (ite_t ho (by rw [HN.out]; simp [hlt]))
        clear ho
        have CI := hide (fun w h => item_any R L N t st' w S h)
        go_wp2_with fail
        go_quiet (fail)
        go_wp2_with fail
        refine (CI.out _ (HR.out.drewN _) (HS'.out.keep (Kp.of_below (below_drewN _ _))) HL'.out _ rfl).mono ?_
        intro e w5 he
        rcases he.split with ⟨S5, t5, st5, ho, rfl, hR, hS, hl, hF⟩ | ⟨c, m, ho, rfl, hF⟩
        rotate_left 1
        · exact ⟨rfl, .of_bad (bind_no HO2.out ho) (HF'.out.trans (((Fq.drewN _).fi HR.out.lt).trans hF))⟩
        have HO5 := hide (bind_go HO2.out ho)
        have HT5 : Hid (t.n ≤ t5.n) := hide ((good_item FN S).le _ _ _ _ ho)
        have HR5 := hide hR
        have HS5 := hide hS
        have HL5 := hide hl
        have HF5 := hide (HF'.out.trans (((Fq.drewN _).fi HR.out.lt).trans hF))
        have C6 := hide (wantMark_any R L N t5 st5 _ [46] hR _ rfl)
        clear he ho hR hS hl hF CI HO2
        go_wp2_with fail
        refine C6.out.mono ?_
        intro e w6 he
        rcases he.split with ⟨a6, t6, v6, ho, rfl, hv, hR, hF⟩ | ⟨c, m, ho, rfl, hF⟩
        rotate_left 1
        · exact ⟨rfl, .of_bad (bind_no HO5.out ho) (HF5.out.trans (hF.fi HR5.out.lt))⟩
        have HO6 := hide (bind_go HO5.out ho)
        have HT6 : Hid (t5.n < t6.n) := hide (eats_wantMark _ _ _ _ _ ho)
        have HR6 := hide hR
        have HS6 := hide (HS5.out.keep (Kp.of_fq hF HR5.out (by decide)))
        have HL6 := hide (HL5.out.up (Nat.le_of_lt HT6.out))
        have HF6 := hide (HF5.out.trans (hF.fi HR5.out.lt))
        clear he ho hv hR hF C6 HO5
        go_wp2_with fail
        go_roundw
        case rel => exact ⟨S5, t6, st5, f, HR6, HS6, HL6, HF6, HO6, hide (by have := HT5.out; have := HT6.out; have := Hf.out; have := HR6.out.nle; omega)⟩
        case measure =>
          rw [HR6.out.nOf_eq, HR.out.nOf_eq]
          have := HT5.out; have := HT6.out; have := HR6.out.nle
          omega
      · have HO2 := hide (ite_f ho (by rw [HN.out]; simp; omega))
        clear ho
        go_wp2_with fail
        go_quiet (fail)
        go_wp2_with fail
        go_end0
        exact .of_ok HO2.out (HR.out.drewN _) (HS'.out.keep (Kp.of_below (below_drewN _ _))) HL'.out (HF'.out.trans ((Fq.drewN _).fi HR.out.lt))
end
end Go.Proofs.YthnjmfkiohgkkaaGreatDoor.Sy
