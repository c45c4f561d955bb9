/- An item. By program. -/
import Derived.Test.YthnjmfkiohgkkaaGreatDoorMem5
import Derived.Deep.RegionLaw
import Derived.Deep.AppendLies
namespace Go.Proofs.YthnjmfkiohgkkaaGreatDoor.Sy
open Go.RowKit

theorem eats_pred (sort : Nat) : Eats (fun K => predM K sort) := .bind eats_name fun _ => .bind (good_brackets good_name) fun _ => .pure _
theorem eats_amountPred (F : Fns) : Eats (amountPredM F) := .bind (eats_pred 3) fun _ => .bind (good_wantMark _) fun _ => .bind (good_list 64 (good_money F) good_comma) fun _ => .pure _
theorem eats_class : Eats classM := .bind (eats_list 16 eats_name good_name good_comma) fun _ => .ite _ (.fail _) (.pure _)
theorem eats_source (F : Fns) : Eats (sourceM F) := .bind eats_name fun _ => .bind (good_wantWord _) fun _ => .bind (good_int F _ _) fun _ => .pure _
theorem eats_exception : Eats exceptionM := .bind eats_name fun _ => .bind (good_wantWord _) fun _ => .bind good_name fun _ => .pure _
theorem eats_total (F : Fns) : Eats (totalM F) :=
  .bind eats_name fun _ => .bind (good_wantMark _) fun _ => .bind good_name fun _ => .bind (good_wantMark _) fun _ => .bind (good_wantMark _) fun _ =>
    .bind (good_list 16 good_name good_comma) fun _ => .bind (good_hasWord _) fun b => .ite b (.bind (good_money F) fun _ => .pure _) (.pure _)
theorem eats_rule (F : Fns) : Eats (ruleM F) :=
  .bind eats_name fun _ => .bind (good_wantWord _) fun _ => .bind good_name fun _ => .bind (good_wantWord _) fun _ => .bind (good_date F) fun _ => .bind (good_until F) fun _ =>
    .bind (good_wantMark _) fun _ => .bind (good_body F) fun _ => .bind good_arrow fun _ => .bind (good_literal F) fun _ => .pure _

section
variable (R : Nat) (L : List Tok) (N : Nat) (s : RS) (st : St9) (w : World)

set_option maxRecDepth 100000 in
set_option maxHeartbeats 8000000 in
theorem item_any (S : StatM) (h : Rd R L N s st w) (hS : SRep R w st S) (hl : Lens S s.n) (o : Out StatM) (ho : itemM FN (kt L) S s = o) :
    Calls Tryz.prog 49 #[.pointer (some ⟨R, 0, none⟩)] w (EndsI R L N w o) := by
  have HO := hide ho
  have H := hide h
  have HS := hide hS
  have HL := hide hl
  have F := hide (Fi.refl R w)
  clear h hS hl ho
  go_enter Tryz.func49, Tryz.ntmps49
  have C1 := hide (hasWord_any R L N s st _ [107, 105, 110, 100] H.out _ rfl)
  go_wp2_with fail
  refine C1.out.mono ?_
  intro e w1 he
  rcases he.split with ⟨b1, s1, v1, ho, rfl, hv, hR, hF⟩ | ⟨c, m, ho, rfl, hF⟩
  rotate_left 1
  · exact on_panic rfl (.of_bad (bind_no HO.out ho) (F.out.trans (hF.fi H.out.lt)))
  cases hv
  have HO1 := hide (bind_go HO.out ho)
  have HS1 := hide (HS.out.keep (Kp.of_fq hF H.out (by decide)))
  have HL1 := hide (HL.out.up ((good_hasWord _).le _ _ _ _ ho))
  have H1 := hide hR
  have F1 := hide (F.out.trans (hF.fi H.out.lt))
  clear he ho hR hF C1 H HS HL F HO
  cases b1 with
  | true =>
    have HO := hide (ite_t HO1.out rfl)
    have HR0 : Hid (Strs (fun g => R < g ∧ (some g = st.kinds.ownBlock ∨ w1.heap.size ≤ g)) w1 S.kinds st.kinds) := hide (by
      obtain ⟨xs, hx, hx2⟩ := HS1.out.kinds
      exact ⟨xs, ⟨hx.1, fun g hg => ⟨hx.2 g hg, .inl hg.symm⟩⟩, hx2⟩)
    have CA := hide (add_string_name R L N s1 st _ (nameM (kt L)) (fun s w h => name_any R L N s st w h _ rfl) (fun g => R < g ∧ (some g = st.kinds.ownBlock ∨ w1.heap.size ≤ g)) S.kinds st.kinds 16 (by have := H1.out.nle; have := H1.out.Lle; have := HL1.out.kinds; omega) HR0.out (fun g hg => ⟨Nat.lt_of_lt_of_le H1.out.lt hg, .inr hg⟩) (fun g hg => hg.1) H1.out _ rfl)
    have d0 := H1.out.d6
    clear HO1
    go_wp2_with fail
    refine CA.out.mono ?_
    intro e w99 he
    rcases he.split with ⟨a, t, v, ho, rfl, hv, hR, hF⟩ | ⟨c, m, ho, rfl, hF⟩
    rotate_left 1
    · exact on_panic rfl (.of_bad (bind_no HO.out ho) (F1.out.trans (hF.fi H1.out.lt)))
    have d1 := hR.d6
    have d2 := hR.frz 6
    have HO2 := hide (bind_go HO.out ho)
    have HP := hide (SRep.put_kinds HS1.out hF hv)
    have HT := hide (hR.s6 v)
    have HF2 := hide ((F1.out.trans (hF.fi H1.out.lt fun g hg => by obtain ⟨xs, hx, _⟩ := HR0.out; exact (hx.2 g hg).1)).set 6 v)
    have HLe : Hid (s1.n < t.n) := hide (add_eats (fun s a u => eats_name _ s a u) ho)
    have HLn : Hid (Lens { S with kinds := S.kinds ++ [a] } t.n) := hide { (HL1.out.up (Nat.le_of_lt HLe.out)) with kinds := by have := HL1.out.kinds; have := HLe.out; simp; omega }
    obtain ⟨va, vn, vc, rfl⟩ : ∃ a n c, v = .slice a n c := by obtain ⟨a, c, e⟩ := rows_form hv; exact ⟨a, _, c, e⟩
    clear he ho hv hR hF CA HO d0
    go_wp2_with fail
    go_end0
    exact .of_ok HO2.out HT.out HP.out HLn.out HF2.out
  | false =>
    have HO101 := hide (ite_f HO1.out rfl)
    clear HO1
    have C2 := hide (hasWord_any R L N s1 st _ [109, 101, 109, 98, 101, 114] H1.out _ rfl)
    go_wp2_with fail
    refine C2.out.mono ?_
    intro e w2 he
    rcases he.split with ⟨b2, s2, v2, ho, rfl, hv, hR, hF⟩ | ⟨c, m, ho, rfl, hF⟩
    rotate_left 1
    · exact on_panic rfl (.of_bad (bind_no HO101.out ho) (F1.out.trans (hF.fi H1.out.lt)))
    cases hv
    have HO2 := hide (bind_go HO101.out ho)
    have HS2 := hide (HS1.out.keep (Kp.of_fq hF H1.out (by decide)))
    have HL2 := hide (HL1.out.up ((good_hasWord _).le _ _ _ _ ho))
    have H2 := hide hR
    have F2 := hide (F1.out.trans (hF.fi H1.out.lt))
    clear he ho hR hF C2 H1 HS1 HL1 F1 HO101
    cases b2 with
    | true =>
      have HO := hide (ite_t HO2.out rfl)
      clear HO2
      obtain ⟨iM, hiM, zM0, zM1, zM2⟩ := info_parts' info_member
      obtain ⟨mo, hmo⟩ : ∃ mo : Int, (64 : Int) - (S.members.length : Int) = mo := ⟨_, rfl⟩
      rw [hmo] at HO
      have hlm : S.members.length ≤ 65536 := by have := H2.out.nle; have := H2.out.Lle; have := HL2.out.members; omega
      have hwr : IntKind.i64.wrap ((64 : Int) - (S.members.length : Int)) = mo := by rw [← hmo]; exact wrap_in _ (by omega)
      obtain ⟨xs, hrow, hold⟩ := HS2.out.members
      have HROW := hide hrow
      have HOLD := hide hold
      obtain ⟨ma, mc, hform⟩ := slice_form hrow.1
      have hneR : some R ≠ (Value.slice ma S.members.length mc).ownBlock := by
        rw [← hform]
        intro e
        exact Nat.lt_irrefl R (hrow.2 R e.symm).1
      have CM := hide (members_any R L N s2 st w2.drew mo (H2.out.below (Below.refl _ _).drew) _ rfl)
      have d0 := H2.out.d7
      rw [hform] at d0
      clear hrow hold hmo
      go_wp2_with fail
      go_region_law (first
        | (refine step_append_lies _ (by rfl) _ _ _ (by rfl) 0 78 iM _ 2 32 Tryz.underlying23 hiM zM0 zM1 zM2 rfl (by omega) (.slice ma S.members.length mc) S.members.length xs (by rfl) HOW.out ⟨mg, 0, none⟩ a.length mcap ys (by rfl) HYL.out HYN.out HY1.out (by omega) (by unfold maxLen; omega) (by omega) (Nat.zero_le _) w99.heap.size rfl ?_; intro gg cap w4 hown hgrow hat hlt4; have q1 : w4.cell? ⟨R, 7, none⟩ = some (.slice ma S.members.length mc) := (hgrow.cell_far ⟨R, 7, none⟩ HLT.out hneR).trans d1; have q2 : w4.frozen? ⟨R, 7, none⟩ = false := (hgrow.frozen_far ⟨R, 7, none⟩ HLT.out hneR).trans d2)
        | (go_simp; go_wp2_with (go_at_call 73; refine CM.out.mono ?_; intro e w99 he; rcases he.split with ⟨a, t, v, ho, rfl, hv, hR, hF⟩ | ⟨c, m, ho, rfl, hF⟩; rotate_left 1; exact on_panic rfl (.of_bad (bind_no HO.out ho) (F2.out.trans ((Fq.trans (Fq.of_below (Below.refl _ w2).drew) hF).fi H2.out.lt))); have hal := (members_len ho).1; have hal2 : a.length ≤ 65536 := (by have := (members_len ho).2; have := hR.nle; have := hR.Lle; omega); obtain ⟨mg, mcap, ys, rfl, y1, y2, y3, y4⟩ := pairs_row hv hal; have HYL := hide y1; have HYN := hide y2; have HY1 := hide y3; have HY4 := hide y4; have HFd := hide (Fq.trans (Fq.of_below (Below.refl _ w2).drew) hF); have d1 := hR.d7; have d2 := hR.frz 7; have HLT := hide hR.lt; have HOW := hide (HROW.out.toFq HFd.out H2.out (by decide)); rw [hform] at d1 HOW; have HO2 := hide (bind_go HO.out ho); have HML := hide (members_len ho).2; have HR9 := hide hR; clear he ho hv hR hF y1 y2 y3 y4)))
      all_goals
        obtain ⟨p1, p2, p3⟩ := members_done HS2.out H2.out hform HFd.out HR9.out HROW.out HOLD.out HY4.out hown hgrow hat _ rfl
        have P1 := hide p1
        have P2 := hide p2
        have P3 := hide (F2.out.trans p3)
        have P4 : Hid (Lens { S with members := S.members ++ a } t.n) := hide { (HL2.out.up (by have := HML.out; omega)) with members := by have := HL2.out.members; have := HML.out; simp; omega }
        clear p1 p2 p3 hown hgrow hat hlt4 HROW HOLD HY4 HFd HR9
        go_wp2_with fail
        go_end0
        exact .of_ok HO2.out P1.out P2.out P4.out P3.out
    | false =>
      have HO102 := hide (ite_f HO2.out rfl)
      clear HO2
      have C3 := hide (hasWord_any R L N s2 st _ [112, 114, 101, 100] H2.out _ rfl)
      go_wp2_with fail
      refine C3.out.mono ?_
      intro e w3 he
      rcases he.split with ⟨b3, s3, v3, ho, rfl, hv, hR, hF⟩ | ⟨c, m, ho, rfl, hF⟩
      rotate_left 1
      · exact on_panic rfl (.of_bad (bind_no HO102.out ho) (F2.out.trans (hF.fi H2.out.lt)))
      cases hv
      have HO3 := hide (bind_go HO102.out ho)
      have HS3 := hide (HS2.out.keep (Kp.of_fq hF H2.out (by decide)))
      have HL3 := hide (HL2.out.up ((good_hasWord _).le _ _ _ _ ho))
      have H3 := hide hR
      have F3 := hide (F2.out.trans (hF.fi H2.out.lt))
      clear he ho hR hF C3 H2 HS2 HL2 F2 HO102
      cases b3 with
      | true =>
        have HO := hide (ite_t HO3.out rfl)
        have HR0 := hide HS3.out.preds
        have CA := hide (add_pred_plain R L N s3 st _ (predM (kt L) 1) (fun s w h => plain_any R L N s st w h _ rfl) (Beh R st.kinds) S.preds st.preds 256 (by have := H3.out.nle; have := H3.out.Lle; have := HL3.out.preds; omega) HR0.out (fun g hg => ⟨Nat.lt_of_lt_of_le H3.out.lt hg, fun e => by obtain ⟨xs, hx, _⟩ := HS3.out.kinds; have := (hx.1.lt g e.symm).2; omega⟩) (fun g hg => hg.1) H3.out _ rfl)
        have d0 := H3.out.d8
        clear HO3
        go_wp2_with fail
        refine CA.out.mono ?_
        intro e w99 he
        rcases he.split with ⟨a, t, v, ho, rfl, hv, hR, hF⟩ | ⟨c, m, ho, rfl, hF⟩
        rotate_left 1
        · exact on_panic rfl (.of_bad (bind_no HO.out ho) (F3.out.trans (hF.fi H3.out.lt)))
        have d1 := hR.d8
        have d2 := hR.frz 8
        have HO2 := hide (bind_go HO.out ho)
        have HP := hide (SRep.put_preds HS3.out H3.out hF hv)
        have HT := hide (hR.s8 v)
        have HF2 := hide ((F3.out.trans (hF.fi H3.out.lt fun g hg => by obtain ⟨xs, hx, _⟩ := HR0.out; exact (hx.2 g hg).1)).set 8 v)
        have HLe : Hid (s3.n < t.n) := hide (add_eats (fun s a u => eats_pred 1 _ s a u) ho)
        have HLn : Hid (Lens { S with preds := S.preds ++ [a] } t.n) := hide { (HL3.out.up (Nat.le_of_lt HLe.out)) with preds := by have := HL3.out.preds; have := HLe.out; simp; omega }
        obtain ⟨va, vn, vc, rfl⟩ : ∃ a n c, v = .slice a n c := by obtain ⟨a, c, e⟩ := rows_form hv; exact ⟨a, _, c, e⟩
        clear he ho hv hR hF CA HO d0
        go_wp2_with fail
        go_end0
        exact .of_ok HO2.out HT.out HP.out HLn.out HF2.out
      | false =>
        have HO103 := hide (ite_f HO3.out rfl)
        clear HO3
        have C4 := hide (hasWord_any R L N s3 st _ [110, 117, 109, 98, 101, 114] H3.out _ rfl)
        go_wp2_with fail
        refine C4.out.mono ?_
        intro e w4 he
        rcases he.split with ⟨b4, s4, v4, ho, rfl, hv, hR, hF⟩ | ⟨c, m, ho, rfl, hF⟩
        rotate_left 1
        · exact on_panic rfl (.of_bad (bind_no HO103.out ho) (F3.out.trans (hF.fi H3.out.lt)))
        cases hv
        have HO4 := hide (bind_go HO103.out ho)
        have HS4 := hide (HS3.out.keep (Kp.of_fq hF H3.out (by decide)))
        have HL4 := hide (HL3.out.up ((good_hasWord _).le _ _ _ _ ho))
        have H4 := hide hR
        have F4 := hide (F3.out.trans (hF.fi H3.out.lt))
        clear he ho hR hF C4 H3 HS3 HL3 F3 HO103
        cases b4 with
        | true =>
          have HO := hide (ite_t HO4.out rfl)
          have HR0 := hide HS4.out.preds
          have CA := hide (add_pred_number R L N s4 st _ (predM (kt L) 2) (fun s w h => number_any R L N s st w h _ rfl) (Beh R st.kinds) S.preds st.preds 256 (by have := H4.out.nle; have := H4.out.Lle; have := HL4.out.preds; omega) HR0.out (fun g hg => ⟨Nat.lt_of_lt_of_le H4.out.lt hg, fun e => by obtain ⟨xs, hx, _⟩ := HS4.out.kinds; have := (hx.1.lt g e.symm).2; omega⟩) (fun g hg => hg.1) H4.out _ rfl)
          have d0 := H4.out.d8
          clear HO4
          go_wp2_with fail
          refine CA.out.mono ?_
          intro e w99 he
          rcases he.split with ⟨a, t, v, ho, rfl, hv, hR, hF⟩ | ⟨c, m, ho, rfl, hF⟩
          rotate_left 1
          · exact on_panic rfl (.of_bad (bind_no HO.out ho) (F4.out.trans (hF.fi H4.out.lt)))
          have d1 := hR.d8
          have d2 := hR.frz 8
          have HO2 := hide (bind_go HO.out ho)
          have HP := hide (SRep.put_preds HS4.out H4.out hF hv)
          have HT := hide (hR.s8 v)
          have HF2 := hide ((F4.out.trans (hF.fi H4.out.lt fun g hg => by obtain ⟨xs, hx, _⟩ := HR0.out; exact (hx.2 g hg).1)).set 8 v)
          have HLe : Hid (s4.n < t.n) := hide (add_eats (fun s a u => eats_pred 2 _ s a u) ho)
          have HLn : Hid (Lens { S with preds := S.preds ++ [a] } t.n) := hide { (HL4.out.up (Nat.le_of_lt HLe.out)) with preds := by have := HL4.out.preds; have := HLe.out; simp; omega }
          obtain ⟨va, vn, vc, rfl⟩ : ∃ a n c, v = .slice a n c := by obtain ⟨a, c, e⟩ := rows_form hv; exact ⟨a, _, c, e⟩
          clear he ho hv hR hF CA HO d0
          go_wp2_with fail
          go_end0
          exact .of_ok HO2.out HT.out HP.out HLn.out HF2.out
        | false =>
          have HO104 := hide (ite_f HO4.out rfl)
          clear HO4
          have C5 := hide (hasWord_any R L N s4 st _ [97, 109, 111, 117, 110, 116] H4.out _ rfl)
          go_wp2_with fail
          refine C5.out.mono ?_
          intro e w5 he
          rcases he.split with ⟨b5, s5, v5, ho, rfl, hv, hR, hF⟩ | ⟨c, m, ho, rfl, hF⟩
          rotate_left 1
          · exact on_panic rfl (.of_bad (bind_no HO104.out ho) (F4.out.trans (hF.fi H4.out.lt)))
          cases hv
          have HO5 := hide (bind_go HO104.out ho)
          have HS5 := hide (HS4.out.keep (Kp.of_fq hF H4.out (by decide)))
          have HL5 := hide (HL4.out.up ((good_hasWord _).le _ _ _ _ ho))
          have H5 := hide hR
          have F5 := hide (F4.out.trans (hF.fi H4.out.lt))
          clear he ho hR hF C5 H4 HS4 HL4 F4 HO104
          cases b5 with
          | true =>
            have HO := hide (ite_t HO5.out rfl)
            have HR0 := hide HS5.out.preds
            have CA := hide (add_pred_amount R L N s5 st _ (amountPredM FN (kt L)) (fun s w h => amountPred_any R L N s st w h _ rfl) (Beh R st.kinds) S.preds st.preds 256 (by have := H5.out.nle; have := H5.out.Lle; have := HL5.out.preds; omega) HR0.out (fun g hg => ⟨Nat.lt_of_lt_of_le H5.out.lt hg, fun e => by obtain ⟨xs, hx, _⟩ := HS5.out.kinds; have := (hx.1.lt g e.symm).2; omega⟩) (fun g hg => hg.1) H5.out _ rfl)
            have d0 := H5.out.d8
            clear HO5
            go_wp2_with fail
            refine CA.out.mono ?_
            intro e w99 he
            rcases he.split with ⟨a, t, v, ho, rfl, hv, hR, hF⟩ | ⟨c, m, ho, rfl, hF⟩
            rotate_left 1
            · exact on_panic rfl (.of_bad (bind_no HO.out ho) (F5.out.trans (hF.fi H5.out.lt)))
            have d1 := hR.d8
            have d2 := hR.frz 8
            have HO2 := hide (bind_go HO.out ho)
            have HP := hide (SRep.put_preds HS5.out H5.out hF hv)
            have HT := hide (hR.s8 v)
            have HF2 := hide ((F5.out.trans (hF.fi H5.out.lt fun g hg => by obtain ⟨xs, hx, _⟩ := HR0.out; exact (hx.2 g hg).1)).set 8 v)
            have HLe : Hid (s5.n < t.n) := hide (add_eats (fun s a u => eats_amountPred FN _ s a u) ho)
            have HLn : Hid (Lens { S with preds := S.preds ++ [a] } t.n) := hide { (HL5.out.up (Nat.le_of_lt HLe.out)) with preds := by have := HL5.out.preds; have := HLe.out; simp; omega }
            obtain ⟨va, vn, vc, rfl⟩ : ∃ a n c, v = .slice a n c := by obtain ⟨a, c, e⟩ := rows_form hv; exact ⟨a, _, c, e⟩
            clear he ho hv hR hF CA HO d0
            go_wp2_with fail
            go_end0
            exact .of_ok HO2.out HT.out HP.out HLn.out HF2.out
          | false =>
            have HO105 := hide (ite_f HO5.out rfl)
            clear HO5
            have C6 := hide (hasWord_any R L N s5 st _ [99, 108, 97, 115, 115] H5.out _ rfl)
            go_wp2_with fail
            refine C6.out.mono ?_
            intro e w6 he
            rcases he.split with ⟨b6, s6, v6, ho, rfl, hv, hR, hF⟩ | ⟨c, m, ho, rfl, hF⟩
            rotate_left 1
            · exact on_panic rfl (.of_bad (bind_no HO105.out ho) (F5.out.trans (hF.fi H5.out.lt)))
            cases hv
            have HO6 := hide (bind_go HO105.out ho)
            have HS6 := hide (HS5.out.keep (Kp.of_fq hF H5.out (by decide)))
            have HL6 := hide (HL5.out.up ((good_hasWord _).le _ _ _ _ ho))
            have H6 := hide hR
            have F6 := hide (F5.out.trans (hF.fi H5.out.lt))
            clear he ho hR hF C6 H5 HS5 HL5 F5 HO105
            cases b6 with
            | true =>
              have HO := hide (ite_t HO6.out rfl)
              have HR0 := hide HS6.out.classes
              have CA := hide (add_class_class R L N s6 st _ (classM (kt L)) (fun s w h => class_any R L N s st w h _ rfl) (Beh R st.kinds) S.classes st.classes 64 (by have := H6.out.nle; have := H6.out.Lle; have := HL6.out.classes; omega) HR0.out (fun g hg => ⟨Nat.lt_of_lt_of_le H6.out.lt hg, fun e => by obtain ⟨xs, hx, _⟩ := HS6.out.kinds; have := (hx.1.lt g e.symm).2; omega⟩) (fun g hg => hg.1) H6.out _ rfl)
              have d0 := H6.out.d9
              clear HO6
              go_wp2_with fail
              refine CA.out.mono ?_
              intro e w99 he
              rcases he.split with ⟨a, t, v, ho, rfl, hv, hR, hF⟩ | ⟨c, m, ho, rfl, hF⟩
              rotate_left 1
              · exact on_panic rfl (.of_bad (bind_no HO.out ho) (F6.out.trans (hF.fi H6.out.lt)))
              have d1 := hR.d9
              have d2 := hR.frz 9
              have HO2 := hide (bind_go HO.out ho)
              have HP := hide (SRep.put_classes HS6.out H6.out hF hv)
              have HT := hide (hR.s9 v)
              have HF2 := hide ((F6.out.trans (hF.fi H6.out.lt fun g hg => by obtain ⟨xs, hx, _⟩ := HR0.out; exact (hx.2 g hg).1)).set 9 v)
              have HLe : Hid (s6.n < t.n) := hide (add_eats (fun s a u => eats_class _ s a u) ho)
              have HLn : Hid (Lens { S with classes := S.classes ++ [a] } t.n) := hide { (HL6.out.up (Nat.le_of_lt HLe.out)) with classes := by have := HL6.out.classes; have := HLe.out; simp; omega }
              obtain ⟨va, vn, vc, rfl⟩ : ∃ a n c, v = .slice a n c := by obtain ⟨a, c, e⟩ := rows_form hv; exact ⟨a, _, c, e⟩
              clear he ho hv hR hF CA HO d0
              go_wp2_with fail
              go_end0
              exact .of_ok HO2.out HT.out HP.out HLn.out HF2.out
            | false =>
              have HO106 := hide (ite_f HO6.out rfl)
              clear HO6
              have C7 := hide (hasWord_any R L N s6 st _ [115, 111, 117, 114, 99, 101] H6.out _ rfl)
              go_wp2_with fail
              refine C7.out.mono ?_
              intro e w7 he
              rcases he.split with ⟨b7, s7, v7, ho, rfl, hv, hR, hF⟩ | ⟨c, m, ho, rfl, hF⟩
              rotate_left 1
              · exact on_panic rfl (.of_bad (bind_no HO106.out ho) (F6.out.trans (hF.fi H6.out.lt)))
              cases hv
              have HO7 := hide (bind_go HO106.out ho)
              have HS7 := hide (HS6.out.keep (Kp.of_fq hF H6.out (by decide)))
              have HL7 := hide (HL6.out.up ((good_hasWord _).le _ _ _ _ ho))
              have H7 := hide hR
              have F7 := hide (F6.out.trans (hF.fi H6.out.lt))
              clear he ho hR hF C7 H6 HS6 HL6 F6 HO106
              cases b7 with
              | true =>
                have HO := hide (ite_t HO7.out rfl)
                have HR0 := hide HS7.out.sources
                have CA := hide (add_source_source R L N s7 st _ (sourceM FN (kt L)) (fun s w h => source_any R L N s st w h _ rfl) (Beh R st.kinds) S.sources st.sources 64 (by have := H7.out.nle; have := H7.out.Lle; have := HL7.out.sources; omega) HR0.out (fun g hg => ⟨Nat.lt_of_lt_of_le H7.out.lt hg, fun e => by obtain ⟨xs, hx, _⟩ := HS7.out.kinds; have := (hx.1.lt g e.symm).2; omega⟩) (fun g hg => hg.1) H7.out _ rfl)
                have d0 := H7.out.d10
                clear HO7
                go_wp2_with fail
                refine CA.out.mono ?_
                intro e w99 he
                rcases he.split with ⟨a, t, v, ho, rfl, hv, hR, hF⟩ | ⟨c, m, ho, rfl, hF⟩
                rotate_left 1
                · exact on_panic rfl (.of_bad (bind_no HO.out ho) (F7.out.trans (hF.fi H7.out.lt)))
                have d1 := hR.d10
                have d2 := hR.frz 10
                have HO2 := hide (bind_go HO.out ho)
                have HP := hide (SRep.put_sources HS7.out H7.out hF hv)
                have HT := hide (hR.s10 v)
                have HF2 := hide ((F7.out.trans (hF.fi H7.out.lt fun g hg => by obtain ⟨xs, hx, _⟩ := HR0.out; exact (hx.2 g hg).1)).set 10 v)
                have HLe : Hid (s7.n < t.n) := hide (add_eats (fun s a u => eats_source FN _ s a u) ho)
                have HLn : Hid (Lens { S with sources := S.sources ++ [a] } t.n) := hide { (HL7.out.up (Nat.le_of_lt HLe.out)) with sources := by have := HL7.out.sources; have := HLe.out; simp; omega }
                obtain ⟨va, vn, vc, rfl⟩ : ∃ a n c, v = .slice a n c := by obtain ⟨a, c, e⟩ := rows_form hv; exact ⟨a, _, c, e⟩
                clear he ho hv hR hF CA HO d0
                go_wp2_with fail
                go_end0
                exact .of_ok HO2.out HT.out HP.out HLn.out HF2.out
              | false =>
                have HO107 := hide (ite_f HO7.out rfl)
                clear HO7
                have C8 := hide (hasWord_any R L N s7 st _ [114, 117, 108, 101] H7.out _ rfl)
                go_wp2_with fail
                refine C8.out.mono ?_
                intro e w8 he
                rcases he.split with ⟨b8, s8, v8, ho, rfl, hv, hR, hF⟩ | ⟨c, m, ho, rfl, hF⟩
                rotate_left 1
                · exact on_panic rfl (.of_bad (bind_no HO107.out ho) (F7.out.trans (hF.fi H7.out.lt)))
                cases hv
                have HO8 := hide (bind_go HO107.out ho)
                have HS8 := hide (HS7.out.keep (Kp.of_fq hF H7.out (by decide)))
                have HL8 := hide (HL7.out.up ((good_hasWord _).le _ _ _ _ ho))
                have H8 := hide hR
                have F8 := hide (F7.out.trans (hF.fi H7.out.lt))
                clear he ho hR hF C8 H7 HS7 HL7 F7 HO107
                cases b8 with
                | true =>
                  have HO := hide (ite_t HO8.out rfl)
                  have HR0 := hide HS8.out.rules
                  have CA := hide (add_rule_rule R L N s8 st _ (ruleM FN (kt L)) (fun s w h => rule_any R L N s st w h _ rfl) (Beh R st.kinds) S.rules st.rules 512 (by have := H8.out.nle; have := H8.out.Lle; have := HL8.out.rules; omega) HR0.out (fun g hg => ⟨Nat.lt_of_lt_of_le H8.out.lt hg, fun e => by obtain ⟨xs, hx, _⟩ := HS8.out.kinds; have := (hx.1.lt g e.symm).2; omega⟩) (fun g hg => hg.1) H8.out _ rfl)
                  have d0 := H8.out.d11
                  clear HO8
                  go_wp2_with fail
                  refine CA.out.mono ?_
                  intro e w99 he
                  rcases he.split with ⟨a, t, v, ho, rfl, hv, hR, hF⟩ | ⟨c, m, ho, rfl, hF⟩
                  rotate_left 1
                  · exact on_panic rfl (.of_bad (bind_no HO.out ho) (F8.out.trans (hF.fi H8.out.lt)))
                  have d1 := hR.d11
                  have d2 := hR.frz 11
                  have HO2 := hide (bind_go HO.out ho)
                  have HP := hide (SRep.put_rules HS8.out H8.out hF hv)
                  have HT := hide (hR.s11 v)
                  have HF2 := hide ((F8.out.trans (hF.fi H8.out.lt fun g hg => by obtain ⟨xs, hx, _⟩ := HR0.out; exact (hx.2 g hg).1)).set 11 v)
                  have HLe : Hid (s8.n < t.n) := hide (add_eats (fun s a u => eats_rule FN _ s a u) ho)
                  have HLn : Hid (Lens { S with rules := S.rules ++ [a] } t.n) := hide { (HL8.out.up (Nat.le_of_lt HLe.out)) with rules := by have := HL8.out.rules; have := HLe.out; simp; omega }
                  obtain ⟨va, vn, vc, rfl⟩ : ∃ a n c, v = .slice a n c := by obtain ⟨a, c, e⟩ := rows_form hv; exact ⟨a, _, c, e⟩
                  clear he ho hv hR hF CA HO d0
                  go_wp2_with fail
                  go_end0
                  exact .of_ok HO2.out HT.out HP.out HLn.out HF2.out
                | false =>
                  have HO108 := hide (ite_f HO8.out rfl)
                  clear HO8
                  have C9 := hide (hasWord_any R L N s8 st _ [101, 120, 99, 101, 112, 116, 105, 111, 110] H8.out _ rfl)
                  go_wp2_with fail
                  refine C9.out.mono ?_
                  intro e w9 he
                  rcases he.split with ⟨b9, s9, v9, ho, rfl, hv, hR, hF⟩ | ⟨c, m, ho, rfl, hF⟩
                  rotate_left 1
                  · exact on_panic rfl (.of_bad (bind_no HO108.out ho) (F8.out.trans (hF.fi H8.out.lt)))
                  cases hv
                  have HO9 := hide (bind_go HO108.out ho)
                  have HS9 := hide (HS8.out.keep (Kp.of_fq hF H8.out (by decide)))
                  have HL9 := hide (HL8.out.up ((good_hasWord _).le _ _ _ _ ho))
                  have H9 := hide hR
                  have F9 := hide (F8.out.trans (hF.fi H8.out.lt))
                  clear he ho hR hF C9 H8 HS8 HL8 F8 HO108
                  cases b9 with
                  | true =>
                    have HO := hide (ite_t HO9.out rfl)
                    have HR0 := hide HS9.out.excepts
                    have CA := hide (add_except_exception R L N s9 st _ (exceptionM (kt L)) (fun s w h => exception_any R L N s st w h _ rfl) (Beh R st.kinds) S.excepts st.excepts 512 (by have := H9.out.nle; have := H9.out.Lle; have := HL9.out.excepts; omega) HR0.out (fun g hg => ⟨Nat.lt_of_lt_of_le H9.out.lt hg, fun e => by obtain ⟨xs, hx, _⟩ := HS9.out.kinds; have := (hx.1.lt g e.symm).2; omega⟩) (fun g hg => hg.1) H9.out _ rfl)
                    have d0 := H9.out.d12
                    clear HO9
                    go_wp2_with fail
                    refine CA.out.mono ?_
                    intro e w99 he
                    rcases he.split with ⟨a, t, v, ho, rfl, hv, hR, hF⟩ | ⟨c, m, ho, rfl, hF⟩
                    rotate_left 1
                    · exact on_panic rfl (.of_bad (bind_no HO.out ho) (F9.out.trans (hF.fi H9.out.lt)))
                    have d1 := hR.d12
                    have d2 := hR.frz 12
                    have HO2 := hide (bind_go HO.out ho)
                    have HP := hide (SRep.put_excepts HS9.out H9.out hF hv)
                    have HT := hide (hR.s12 v)
                    have HF2 := hide ((F9.out.trans (hF.fi H9.out.lt fun g hg => by obtain ⟨xs, hx, _⟩ := HR0.out; exact (hx.2 g hg).1)).set 12 v)
                    have HLe : Hid (s9.n < t.n) := hide (add_eats (fun s a u => eats_exception _ s a u) ho)
                    have HLn : Hid (Lens { S with excepts := S.excepts ++ [a] } t.n) := hide { (HL9.out.up (Nat.le_of_lt HLe.out)) with excepts := by have := HL9.out.excepts; have := HLe.out; simp; omega }
                    obtain ⟨va, vn, vc, rfl⟩ : ∃ a n c, v = .slice a n c := by obtain ⟨a, c, e⟩ := rows_form hv; exact ⟨a, _, c, e⟩
                    clear he ho hv hR hF CA HO d0
                    go_wp2_with fail
                    go_end0
                    exact .of_ok HO2.out HT.out HP.out HLn.out HF2.out
                  | false =>
                    have HO109 := hide (ite_f HO9.out rfl)
                    clear HO9
                    have C10 := hide (hasWord_any R L N s9 st _ [116, 111, 116, 97, 108] H9.out _ rfl)
                    go_wp2_with fail
                    refine C10.out.mono ?_
                    intro e w10 he
                    rcases he.split with ⟨b10, s10, v10, ho, rfl, hv, hR, hF⟩ | ⟨c, m, ho, rfl, hF⟩
                    rotate_left 1
                    · exact on_panic rfl (.of_bad (bind_no HO109.out ho) (F9.out.trans (hF.fi H9.out.lt)))
                    cases hv
                    have HO10 := hide (bind_go HO109.out ho)
                    have HS10 := hide (HS9.out.keep (Kp.of_fq hF H9.out (by decide)))
                    have HL10 := hide (HL9.out.up ((good_hasWord _).le _ _ _ _ ho))
                    have H10 := hide hR
                    have F10 := hide (F9.out.trans (hF.fi H9.out.lt))
                    clear he ho hR hF C10 H9 HS9 HL9 F9 HO109
                    cases b10 with
                    | true =>
                      have HO := hide (ite_t HO10.out rfl)
                      have HR0 := hide HS10.out.totals
                      have CA := hide (add_total_total R L N s10 st _ (totalM FN (kt L)) (fun s w h => total_any R L N s st w h _ rfl) (Beh R st.kinds) S.totals st.totals 64 (by have := H10.out.nle; have := H10.out.Lle; have := HL10.out.totals; omega) HR0.out (fun g hg => ⟨Nat.lt_of_lt_of_le H10.out.lt hg, fun e => by obtain ⟨xs, hx, _⟩ := HS10.out.kinds; have := (hx.1.lt g e.symm).2; omega⟩) (fun g hg => hg.1) H10.out _ rfl)
                      have d0 := H10.out.d13
                      clear HO10
                      go_wp2_with fail
                      refine CA.out.mono ?_
                      intro e w99 he
                      rcases he.split with ⟨a, t, v, ho, rfl, hv, hR, hF⟩ | ⟨c, m, ho, rfl, hF⟩
                      rotate_left 1
                      · exact on_panic rfl (.of_bad (bind_no HO.out ho) (F10.out.trans (hF.fi H10.out.lt)))
                      have d1 := hR.d13
                      have d2 := hR.frz 13
                      have HO2 := hide (bind_go HO.out ho)
                      have HP := hide (SRep.put_totals HS10.out H10.out hF hv)
                      have HT := hide (hR.s13 v)
                      have HF2 := hide ((F10.out.trans (hF.fi H10.out.lt fun g hg => by obtain ⟨xs, hx, _⟩ := HR0.out; exact (hx.2 g hg).1)).set 13 v)
                      have HLe : Hid (s10.n < t.n) := hide (add_eats (fun s a u => eats_total FN _ s a u) ho)
                      have HLn : Hid (Lens { S with totals := S.totals ++ [a] } t.n) := hide { (HL10.out.up (Nat.le_of_lt HLe.out)) with totals := by have := HL10.out.totals; have := HLe.out; simp; omega }
                      obtain ⟨va, vn, vc, rfl⟩ : ∃ a n c, v = .slice a n c := by obtain ⟨a, c, e⟩ := rows_form hv; exact ⟨a, _, c, e⟩
                      clear he ho hv hR hF CA HO d0
                      go_wp2_with fail
                      go_end0
                      exact .of_ok HO2.out HT.out HP.out HLn.out HF2.out
                    | false =>
                      have HO110 := hide (ite_f HO10.out rfl)
                      clear HO10
                      have CF := hide (fail_any R L N s10 st _ H10.out 51)
                      go_wp2_with fail
                      refine CF.out.mono ?_
                      rintro _ w9 ⟨rfl, hF⟩
                      exact on_panic rfl (.of_bad HO110.out (F10.out.trans (hF.fi H10.out.lt)))
end
end Go.Proofs.YthnjmfkiohgkkaaGreatDoor.Sy
