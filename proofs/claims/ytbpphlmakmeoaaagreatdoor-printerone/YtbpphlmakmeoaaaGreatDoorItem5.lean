import Derived.Test.YtbpphlmakmeoaaaGreatDoorMem5
import Derived.Deep.RegionLaw
import Derived.Deep.AppendLies
set_option maxRecDepth 100000
set_option maxHeartbeats 8000000
namespace Go.Proofs.YtbpphlmakmeoaaaGreatDoor.Sy
open Go.RowKit
theorem np (sort : Nat) : Eats (fun K => jJ K sort) := .bind go fun _ => .bind (gS good_name) fun _ => .pure _
theorem oT (F : j5) : Eats (iE F) := .bind (np 3) fun _ => .bind (ff _) fun _ => .bind (iX 64 (iZ F) good_comma) fun _ => .pure _
theorem vf : Eats kS := .bind (xu 16 go good_name good_comma) fun _ => .ite _ (.fail _) (.pure _)
theorem uj (F : j5) : Eats (ky F) := .bind go fun _ => .bind (hO _) fun _ => .bind (oA F _ _) fun _ => .pure _
theorem rh : Eats jm := .bind go fun _ => .bind (hO _) fun _ => .bind good_name fun _ => .pure _
theorem uN (F : j5) : Eats (kW F) :=
 .bind go fun _ => .bind (ff _) fun _ => .bind good_name fun _ => .bind (ff _) fun _ => .bind (ff _) fun _ =>
  .bind (iX 16 good_name good_comma) fun _ => .bind (eR _) fun b => .ite b (.bind (iZ F) fun _ => .pure _) (.pure _)
theorem xw (F : j5) : Eats (lX F) :=
 .bind go fun _ => .bind (hO _) fun _ => .bind good_name fun _ => .bind (hO _) fun _ => .bind (m8 F) fun _ => .bind (oO F) fun _ =>
  .bind (ff _) fun _ => .bind (rV F) fun _ => .bind pw fun _ => .bind (lH F) fun _ => .pure _
section
variable (R : Nat) (L : List fw) (N : Nat) (s : RS) (st : St9) (w : World)
theorem tq (S : StatM) (h : Rd R L N s st w) (hS : SRep R w st S) (hl : Lens S s.n) (o : Out StatM) (ho : lN FN (kt L) S s = o) :
    Calls Tryz.prog 129 #[.pointer (some ⟨R, 0, none⟩)] w (EndsI R L N w o) := by
 have HO := ec ho
 have H := ec h
 have HS := ec hS
 have HL := ec hl
 have F := ec (Fi.refl R w)
 clear h hS hl ho
 go_enter Tryz.func129, Tryz.ntmps129
 have C1 := ec (gh R L N s st _ [107, 105, 110, 100] H.out _ rfl)
 go_wp2_with fail
 refine C1.out.mono ?_
 intro e w1 he
 rcases he.split with ⟨b1, s1, v1, ho, rfl, hv, hR, hF⟩ | ⟨c, m, ho, rfl, hF⟩
 rotate_left 1
 · exact eg rfl (.of_bad (el HO.out ho) (F.out.trans (hF.fi H.out.lt)))
 cases hv
 have AN := ec (ej HO.out ho)
 have AT := ec (HS.out.keep (Kp.of_fq hF H.out (by decide)))
 have Az := ec (HL.out.up ((eR _).le _ _ _ _ ho))
 have H1 := ec hR
 have F1 := ec (F.out.trans (hF.fi H.out.lt))
 clear he ho hR hF C1 H HS HL F HO
 cases b1 with
 | true =>
  have HO := ec (fs AN.out rfl)
  have Aa : Hid (Strs (fun g => R < g ∧ (some g = st.kinds.ownBlock ∨ w1.heap.size ≤ g)) w1 S.kinds st.kinds) := ec (by
   obtain ⟨xs, hx, Bq⟩ := AT.out.kinds
   exact ⟨xs, ⟨hx.1, fun g hg => ⟨hx.2 g hg, .inl hg.symm⟩⟩, Bq⟩)
  have CA := ec (lT R L N s1 st _ (gw (kt L)) (fun s w h => gv R L N s st w h _ rfl) (fun g => R < g ∧ (some g = st.kinds.ownBlock ∨ w1.heap.size ≤ g)) S.kinds st.kinds 16 (by have := H1.out.nle; have := H1.out.Lle; have := Az.out.kinds; omega) Aa.out (fun g hg => ⟨Nat.lt_of_lt_of_le H1.out.lt hg, .inr hg⟩) (fun g hg => hg.1) H1.out _ rfl)
  have d0 := H1.out.d6
  clear AN
  go_wp2_with fail
  refine CA.out.mono ?_
  intro e Ad he
  rcases he.split with ⟨a, t, v, ho, rfl, hv, hR, hF⟩ | ⟨c, m, ho, rfl, hF⟩
  rotate_left 1
  · exact eg rfl (.of_bad (el HO.out ho) (F1.out.trans (hF.fi H1.out.lt)))
  have d1 := hR.d6
  have d2 := hR.frz 6
  have Ab := ec (ej HO.out ho)
  have HP := ec (SRep.put_kinds AT.out hF hv)
  have HT := ec (hR.s6 v)
  have Ac := ec ((F1.out.trans (hF.fi H1.out.lt fun g hg => by obtain ⟨xs, hx, _⟩ := Aa.out; exact (hx.2 g hg).1)).set 6 v)
  have HLe : Hid (s1.n < t.n) := ec (fX (fun s a u => go _ s a u) ho)
  have HLn : Hid (Lens { S with kinds := S.kinds ++ [a] } t.n) := ec { (Az.out.up (Nat.le_of_lt HLe.out)) with kinds := by have := Az.out.kinds; have := HLe.out; simp; omega }
  obtain ⟨va, vn, vc, rfl⟩ : ∃ a n c, v = .slice a n c := by obtain ⟨a, c, e⟩ := ed hv; exact ⟨a, _, c, e⟩
  clear he ho hv hR hF CA HO d0
  go_wp2_with fail
  go_end0
  exact .of_ok Ab.out HT.out HP.out HLn.out Ac.out
 | false =>
  have Ak := ec (fc AN.out rfl)
  clear AN
  have C2 := ec (gh R L N s1 st _ [109, 101, 109, 98, 101, 114] H1.out _ rfl)
  go_wp2_with fail
  refine C2.out.mono ?_
  intro e w2 he
  rcases he.split with ⟨b2, s2, v2, ho, rfl, hv, hR, hF⟩ | ⟨c, m, ho, rfl, hF⟩
  rotate_left 1
  · exact eg rfl (.of_bad (el Ak.out ho) (F1.out.trans (hF.fi H1.out.lt)))
  cases hv
  have Ab := ec (ej Ak.out ho)
  have AP := ec (AT.out.keep (Kp.of_fq hF H1.out (by decide)))
  have Ax := ec (Az.out.up ((eR _).le _ _ _ _ ho))
  have H2 := ec hR
  have F2 := ec (F1.out.trans (hF.fi H1.out.lt))
  clear he ho hR hF C2 H1 AT Az F1 Ak
  cases b2 with
  | true =>
   have HO := ec (fs Ab.out rfl)
   clear Ab
   obtain ⟨iM, Bn, Bp, Bm, Bl⟩ := fY og
   obtain ⟨mo, AX⟩ : ∃ mo : Int, (64 : Int) - (S.members.length : Int) = mo := ⟨_, rfl⟩
   rw [AX] at HO
   have Bz : S.members.length ≤ 65536 := by have := H2.out.nle; have := H2.out.Lle; have := Ax.out.members; omega
   have Bx : IntKind.i64.wrap ((64 : Int) - (S.members.length : Int)) = mo := by rw [← AX]; exact A9 _ (by omega)
   obtain ⟨xs, Ai, Ba⟩ := AP.out.members
   have AJ := ec Ai
   have AY := ec Ba
   obtain ⟨ma, mc, Ag⟩ := gd Ai.1
   have AW : some R ≠ (Value.slice ma S.members.length mc).ownBlock := by
    rw [← Ag]
    intro e
    exact Nat.lt_irrefl R (Ai.2 R e.symm).1
   have CM := ec (tZ R L N s2 st w2.drew mo (H2.out.below (Below.refl _ _).drew) _ rfl)
   have d0 := H2.out.d7
   rw [Ag] at d0
   clear Ai Ba AX
   go_wp2_with fail
   go_region_law (first
    | (refine step_append_lies _ (by rfl) _ _ _ (by rfl) 0 124 iM _ 2 32 Tryz.underlying23 Bn Bp Bm Bl rfl (by omega) (.slice ma S.members.length mc) S.members.length xs (by rfl) Bf.out ⟨mg, 0, none⟩ a.length Bk ys (by rfl) Bs.out Bo.out Br.out (by omega) (by unfold maxLen; omega) (by omega) (Nat.zero_le _) Ad.heap.size rfl ?_; intro gg Bw w4 AV Af Be Bj; have q1 : w4.cell? ⟨R, 7, none⟩ = some (.slice ma S.members.length mc) := (Af.cell_far ⟨R, 7, none⟩ Bi.out AW).trans d1; have q2 : w4.frozen? ⟨R, 7, none⟩ = false := (Af.frozen_far ⟨R, 7, none⟩ Bi.out AW).trans d2)
    | (go_simp; go_wp2_with (go_at_call 184; refine CM.out.mono ?_; intro e Ad he; rcases he.split with ⟨a, t, v, ho, rfl, hv, hR, hF⟩ | ⟨c, m, ho, rfl, hF⟩; rotate_left 1; exact eg rfl (.of_bad (el HO.out ho) (F2.out.trans ((Fq.trans (Fq.of_below (Below.refl _ w2).drew) hF).fi H2.out.lt))); have Bu := (me ho).1; have Bv : a.length ≤ 65536 := (by have := (me ho).2; have := hR.nle; have := hR.Lle; omega); obtain ⟨mg, Bk, ys, rfl, y1, y2, y3, y4⟩ := wy hv Bu; have Bs := ec y1; have Bo := ec y2; have Br := ec y3; have Bg := ec y4; have HFd := ec (Fq.trans (Fq.of_below (Below.refl _ w2).drew) hF); have d1 := hR.d7; have d2 := hR.frz 7; have Bi := ec hR.lt; have Bf := ec (AJ.out.toFq HFd.out H2.out (by decide)); rw [Ag] at d1 Bf; have Ab := ec (ej HO.out ho); have Bh := ec (me ho).2; have Bd := ec hR; clear he ho hv hR hF y1 y2 y3 y4)))
   all_goals
    obtain ⟨p1, p2, p3⟩ := tz AP.out H2.out Ag HFd.out Bd.out AJ.out AY.out Bg.out AV Af Be _ rfl
    have P1 := ec p1
    have P2 := ec p2
    have P3 := ec (F2.out.trans p3)
    have P4 : Hid (Lens { S with members := S.members ++ a } t.n) := ec { (Ax.out.up (by have := Bh.out; omega)) with members := by have := Ax.out.members; have := Bh.out; simp; omega }
    clear p1 p2 p3 AV Af Be Bj AJ AY Bg HFd Bd
    go_wp2_with fail
    go_end0
    exact .of_ok Ab.out P1.out P2.out P4.out P3.out
  | false =>
   have Ap := ec (fc Ab.out rfl)
   clear Ab
   have C3 := ec (gh R L N s2 st _ [112, 114, 101, 100] H2.out _ rfl)
   go_wp2_with fail
   refine C3.out.mono ?_
   intro e w3 he
   rcases he.split with ⟨b3, s3, v3, ho, rfl, hv, hR, hF⟩ | ⟨c, m, ho, rfl, hF⟩
   rotate_left 1
   · exact eg rfl (.of_bad (el Ap.out ho) (F2.out.trans (hF.fi H2.out.lt)))
   cases hv
   have AM := ec (ej Ap.out ho)
   have AE := ec (AP.out.keep (Kp.of_fq hF H2.out (by decide)))
   have As := ec (Ax.out.up ((eR _).le _ _ _ _ ho))
   have H3 := ec hR
   have F3 := ec (F2.out.trans (hF.fi H2.out.lt))
   clear he ho hR hF C3 H2 AP Ax F2 Ap
   cases b3 with
   | true =>
    have HO := ec (fs AM.out rfl)
    have Aa := ec AE.out.preds
    have CA := ec (rg R L N s3 st _ (jJ (kt L) 1) (fun s w h => xP R L N s st w h _ rfl) (fV R st.kinds) S.preds st.preds 256 (by have := H3.out.nle; have := H3.out.Lle; have := As.out.preds; omega) Aa.out (fun g hg => ⟨Nat.lt_of_lt_of_le H3.out.lt hg, fun e => by obtain ⟨xs, hx, _⟩ := AE.out.kinds; have := (hx.1.lt g e.symm).2; omega⟩) (fun g hg => hg.1) H3.out _ rfl)
    have d0 := H3.out.d8
    clear AM
    go_wp2_with fail
    refine CA.out.mono ?_
    intro e Ad he
    rcases he.split with ⟨a, t, v, ho, rfl, hv, hR, hF⟩ | ⟨c, m, ho, rfl, hF⟩
    rotate_left 1
    · exact eg rfl (.of_bad (el HO.out ho) (F3.out.trans (hF.fi H3.out.lt)))
    have d1 := hR.d8
    have d2 := hR.frz 8
    have Ab := ec (ej HO.out ho)
    have HP := ec (SRep.put_preds AE.out H3.out hF hv)
    have HT := ec (hR.s8 v)
    have Ac := ec ((F3.out.trans (hF.fi H3.out.lt fun g hg => by obtain ⟨xs, hx, _⟩ := Aa.out; exact (hx.2 g hg).1)).set 8 v)
    have HLe : Hid (s3.n < t.n) := ec (fX (fun s a u => np 1 _ s a u) ho)
    have HLn : Hid (Lens { S with preds := S.preds ++ [a] } t.n) := ec { (As.out.up (Nat.le_of_lt HLe.out)) with preds := by have := As.out.preds; have := HLe.out; simp; omega }
    obtain ⟨va, vn, vc, rfl⟩ : ∃ a n c, v = .slice a n c := by obtain ⟨a, c, e⟩ := ed hv; exact ⟨a, _, c, e⟩
    clear he ho hv hR hF CA HO d0
    go_wp2_with fail
    go_end0
    exact .of_ok Ab.out HT.out HP.out HLn.out Ac.out
   | false =>
    have Al := ec (fc AM.out rfl)
    clear AM
    have C4 := ec (gh R L N s3 st _ [110, 117, 109, 98, 101, 114] H3.out _ rfl)
    go_wp2_with fail
    refine C4.out.mono ?_
    intro e w4 he
    rcases he.split with ⟨b4, s4, v4, ho, rfl, hv, hR, hF⟩ | ⟨c, m, ho, rfl, hF⟩
    rotate_left 1
    · exact eg rfl (.of_bad (el Al.out ho) (F3.out.trans (hF.fi H3.out.lt)))
    cases hv
    have AU := ec (ej Al.out ho)
    have AF := ec (AE.out.keep (Kp.of_fq hF H3.out (by decide)))
    have AA := ec (As.out.up ((eR _).le _ _ _ _ ho))
    have H4 := ec hR
    have F4 := ec (F3.out.trans (hF.fi H3.out.lt))
    clear he ho hR hF C4 H3 AE As F3 Al
    cases b4 with
    | true =>
     have HO := ec (fs AU.out rfl)
     have Aa := ec AF.out.preds
     have CA := ec (pE R L N s4 st _ (jJ (kt L) 2) (fun s w h => ki R L N s st w h _ rfl) (fV R st.kinds) S.preds st.preds 256 (by have := H4.out.nle; have := H4.out.Lle; have := AA.out.preds; omega) Aa.out (fun g hg => ⟨Nat.lt_of_lt_of_le H4.out.lt hg, fun e => by obtain ⟨xs, hx, _⟩ := AF.out.kinds; have := (hx.1.lt g e.symm).2; omega⟩) (fun g hg => hg.1) H4.out _ rfl)
     have d0 := H4.out.d8
     clear AU
     go_wp2_with fail
     refine CA.out.mono ?_
     intro e Ad he
     rcases he.split with ⟨a, t, v, ho, rfl, hv, hR, hF⟩ | ⟨c, m, ho, rfl, hF⟩
     rotate_left 1
     · exact eg rfl (.of_bad (el HO.out ho) (F4.out.trans (hF.fi H4.out.lt)))
     have d1 := hR.d8
     have d2 := hR.frz 8
     have Ab := ec (ej HO.out ho)
     have HP := ec (SRep.put_preds AF.out H4.out hF hv)
     have HT := ec (hR.s8 v)
     have Ac := ec ((F4.out.trans (hF.fi H4.out.lt fun g hg => by obtain ⟨xs, hx, _⟩ := Aa.out; exact (hx.2 g hg).1)).set 8 v)
     have HLe : Hid (s4.n < t.n) := ec (fX (fun s a u => np 2 _ s a u) ho)
     have HLn : Hid (Lens { S with preds := S.preds ++ [a] } t.n) := ec { (AA.out.up (Nat.le_of_lt HLe.out)) with preds := by have := AA.out.preds; have := HLe.out; simp; omega }
     obtain ⟨va, vn, vc, rfl⟩ : ∃ a n c, v = .slice a n c := by obtain ⟨a, c, e⟩ := ed hv; exact ⟨a, _, c, e⟩
     clear he ho hv hR hF CA HO d0
     go_wp2_with fail
     go_end0
     exact .of_ok Ab.out HT.out HP.out HLn.out Ac.out
    | false =>
     have Ah := ec (fc AU.out rfl)
     clear AU
     have C5 := ec (gh R L N s4 st _ [97, 109, 111, 117, 110, 116] H4.out _ rfl)
     go_wp2_with fail
     refine C5.out.mono ?_
     intro e w5 he
     rcases he.split with ⟨b5, s5, v5, ho, rfl, hv, hR, hF⟩ | ⟨c, m, ho, rfl, hF⟩
     rotate_left 1
     · exact eg rfl (.of_bad (el Ah.out ho) (F4.out.trans (hF.fi H4.out.lt)))
     cases hv
     have AO := ec (ej Ah.out ho)
     have AG := ec (AF.out.keep (Kp.of_fq hF H4.out (by decide)))
     have Aw := ec (AA.out.up ((eR _).le _ _ _ _ ho))
     have H5 := ec hR
     have F5 := ec (F4.out.trans (hF.fi H4.out.lt))
     clear he ho hR hF C5 H4 AF AA F4 Ah
     cases b5 with
     | true =>
      have HO := ec (fs AO.out rfl)
      have Aa := ec AG.out.preds
      have CA := ec (pz R L N s5 st _ (iE FN (kt L)) (fun s w h => ro R L N s st w h _ rfl) (fV R st.kinds) S.preds st.preds 256 (by have := H5.out.nle; have := H5.out.Lle; have := Aw.out.preds; omega) Aa.out (fun g hg => ⟨Nat.lt_of_lt_of_le H5.out.lt hg, fun e => by obtain ⟨xs, hx, _⟩ := AG.out.kinds; have := (hx.1.lt g e.symm).2; omega⟩) (fun g hg => hg.1) H5.out _ rfl)
      have d0 := H5.out.d8
      clear AO
      go_wp2_with fail
      refine CA.out.mono ?_
      intro e Ad he
      rcases he.split with ⟨a, t, v, ho, rfl, hv, hR, hF⟩ | ⟨c, m, ho, rfl, hF⟩
      rotate_left 1
      · exact eg rfl (.of_bad (el HO.out ho) (F5.out.trans (hF.fi H5.out.lt)))
      have d1 := hR.d8
      have d2 := hR.frz 8
      have Ab := ec (ej HO.out ho)
      have HP := ec (SRep.put_preds AG.out H5.out hF hv)
      have HT := ec (hR.s8 v)
      have Ac := ec ((F5.out.trans (hF.fi H5.out.lt fun g hg => by obtain ⟨xs, hx, _⟩ := Aa.out; exact (hx.2 g hg).1)).set 8 v)
      have HLe : Hid (s5.n < t.n) := ec (fX (fun s a u => oT FN _ s a u) ho)
      have HLn : Hid (Lens { S with preds := S.preds ++ [a] } t.n) := ec { (Aw.out.up (Nat.le_of_lt HLe.out)) with preds := by have := Aw.out.preds; have := HLe.out; simp; omega }
      obtain ⟨va, vn, vc, rfl⟩ : ∃ a n c, v = .slice a n c := by obtain ⟨a, c, e⟩ := ed hv; exact ⟨a, _, c, e⟩
      clear he ho hv hR hF CA HO d0
      go_wp2_with fail
      go_end0
      exact .of_ok Ab.out HT.out HP.out HLn.out Ac.out
     | false =>
      have An := ec (fc AO.out rfl)
      clear AO
      have C6 := ec (gh R L N s5 st _ [99, 108, 97, 115, 115] H5.out _ rfl)
      go_wp2_with fail
      refine C6.out.mono ?_
      intro e w6 he
      rcases he.split with ⟨b6, s6, v6, ho, rfl, hv, hR, hF⟩ | ⟨c, m, ho, rfl, hF⟩
      rotate_left 1
      · exact eg rfl (.of_bad (el An.out ho) (F5.out.trans (hF.fi H5.out.lt)))
      cases hv
      have AS := ec (ej An.out ho)
      have At := ec (AG.out.keep (Kp.of_fq hF H5.out (by decide)))
      have AD := ec (Aw.out.up ((eR _).le _ _ _ _ ho))
      have H6 := ec hR
      have F6 := ec (F5.out.trans (hF.fi H5.out.lt))
      clear he ho hR hF C6 H5 AG Aw F5 An
      cases b6 with
      | true =>
       have HO := ec (fs AS.out rfl)
       have Aa := ec At.out.classes
       have CA := ec (oU R L N s6 st _ (kS (kt L)) (fun s w h => wD R L N s st w h _ rfl) (fV R st.kinds) S.classes st.classes 64 (by have := H6.out.nle; have := H6.out.Lle; have := AD.out.classes; omega) Aa.out (fun g hg => ⟨Nat.lt_of_lt_of_le H6.out.lt hg, fun e => by obtain ⟨xs, hx, _⟩ := At.out.kinds; have := (hx.1.lt g e.symm).2; omega⟩) (fun g hg => hg.1) H6.out _ rfl)
       have d0 := H6.out.d9
       clear AS
       go_wp2_with fail
       refine CA.out.mono ?_
       intro e Ad he
       rcases he.split with ⟨a, t, v, ho, rfl, hv, hR, hF⟩ | ⟨c, m, ho, rfl, hF⟩
       rotate_left 1
       · exact eg rfl (.of_bad (el HO.out ho) (F6.out.trans (hF.fi H6.out.lt)))
       have d1 := hR.d9
       have d2 := hR.frz 9
       have Ab := ec (ej HO.out ho)
       have HP := ec (SRep.put_classes At.out H6.out hF hv)
       have HT := ec (hR.s9 v)
       have Ac := ec ((F6.out.trans (hF.fi H6.out.lt fun g hg => by obtain ⟨xs, hx, _⟩ := Aa.out; exact (hx.2 g hg).1)).set 9 v)
       have HLe : Hid (s6.n < t.n) := ec (fX (fun s a u => vf _ s a u) ho)
       have HLn : Hid (Lens { S with classes := S.classes ++ [a] } t.n) := ec { (AD.out.up (Nat.le_of_lt HLe.out)) with classes := by have := AD.out.classes; have := HLe.out; simp; omega }
       obtain ⟨va, vn, vc, rfl⟩ : ∃ a n c, v = .slice a n c := by obtain ⟨a, c, e⟩ := ed hv; exact ⟨a, _, c, e⟩
       clear he ho hv hR hF CA HO d0
       go_wp2_with fail
       go_end0
       exact .of_ok Ab.out HT.out HP.out HLn.out Ac.out
      | false =>
       have Am := ec (fc AS.out rfl)
       clear AS
       have C7 := ec (gh R L N s6 st _ [115, 111, 117, 114, 99, 101] H6.out _ rfl)
       go_wp2_with fail
       refine C7.out.mono ?_
       intro e w7 he
       rcases he.split with ⟨b7, s7, v7, ho, rfl, hv, hR, hF⟩ | ⟨c, m, ho, rfl, hF⟩
       rotate_left 1
       · exact eg rfl (.of_bad (el Am.out ho) (F6.out.trans (hF.fi H6.out.lt)))
       cases hv
       have AQ := ec (ej Am.out ho)
       have AC := ec (At.out.keep (Kp.of_fq hF H6.out (by decide)))
       have Av := ec (AD.out.up ((eR _).le _ _ _ _ ho))
       have H7 := ec hR
       have F7 := ec (F6.out.trans (hF.fi H6.out.lt))
       clear he ho hR hF C7 H6 At AD F6 Am
       cases b7 with
       | true =>
        have HO := ec (fs AQ.out rfl)
        have Aa := ec AC.out.sources
        have CA := ec (nV R L N s7 st _ (ky FN (kt L)) (fun s w h => vO R L N s st w h _ rfl) (fV R st.kinds) S.sources st.sources 64 (by have := H7.out.nle; have := H7.out.Lle; have := Av.out.sources; omega) Aa.out (fun g hg => ⟨Nat.lt_of_lt_of_le H7.out.lt hg, fun e => by obtain ⟨xs, hx, _⟩ := AC.out.kinds; have := (hx.1.lt g e.symm).2; omega⟩) (fun g hg => hg.1) H7.out _ rfl)
        have d0 := H7.out.d10
        clear AQ
        go_wp2_with fail
        refine CA.out.mono ?_
        intro e Ad he
        rcases he.split with ⟨a, t, v, ho, rfl, hv, hR, hF⟩ | ⟨c, m, ho, rfl, hF⟩
        rotate_left 1
        · exact eg rfl (.of_bad (el HO.out ho) (F7.out.trans (hF.fi H7.out.lt)))
        have d1 := hR.d10
        have d2 := hR.frz 10
        have Ab := ec (ej HO.out ho)
        have HP := ec (SRep.put_sources AC.out H7.out hF hv)
        have HT := ec (hR.s10 v)
        have Ac := ec ((F7.out.trans (hF.fi H7.out.lt fun g hg => by obtain ⟨xs, hx, _⟩ := Aa.out; exact (hx.2 g hg).1)).set 10 v)
        have HLe : Hid (s7.n < t.n) := ec (fX (fun s a u => uj FN _ s a u) ho)
        have HLn : Hid (Lens { S with sources := S.sources ++ [a] } t.n) := ec { (Av.out.up (Nat.le_of_lt HLe.out)) with sources := by have := Av.out.sources; have := HLe.out; simp; omega }
        obtain ⟨va, vn, vc, rfl⟩ : ∃ a n c, v = .slice a n c := by obtain ⟨a, c, e⟩ := ed hv; exact ⟨a, _, c, e⟩
        clear he ho hv hR hF CA HO d0
        go_wp2_with fail
        go_end0
        exact .of_ok Ab.out HT.out HP.out HLn.out Ac.out
       | false =>
        have Ao := ec (fc AQ.out rfl)
        clear AQ
        have C8 := ec (gh R L N s7 st _ [114, 117, 108, 101] H7.out _ rfl)
        go_wp2_with fail
        refine C8.out.mono ?_
        intro e w8 he
        rcases he.split with ⟨b8, s8, v8, ho, rfl, hv, hR, hF⟩ | ⟨c, m, ho, rfl, hF⟩
        rotate_left 1
        · exact eg rfl (.of_bad (el Ao.out ho) (F7.out.trans (hF.fi H7.out.lt)))
        cases hv
        have AR := ec (ej Ao.out ho)
        have AH := ec (AC.out.keep (Kp.of_fq hF H7.out (by decide)))
        have Ay := ec (Av.out.up ((eR _).le _ _ _ _ ho))
        have H8 := ec hR
        have F8 := ec (F7.out.trans (hF.fi H7.out.lt))
        clear he ho hR hF C8 H7 AC Av F7 Ao
        cases b8 with
        | true =>
         have HO := ec (fs AR.out rfl)
         have Aa := ec AH.out.rules
         have CA := ec (sq R L N s8 st _ (lX FN (kt L)) (fun s w h => yn R L N s st w h _ rfl) (fV R st.kinds) S.rules st.rules 512 (by have := H8.out.nle; have := H8.out.Lle; have := Ay.out.rules; omega) Aa.out (fun g hg => ⟨Nat.lt_of_lt_of_le H8.out.lt hg, fun e => by obtain ⟨xs, hx, _⟩ := AH.out.kinds; have := (hx.1.lt g e.symm).2; omega⟩) (fun g hg => hg.1) H8.out _ rfl)
         have d0 := H8.out.d11
         clear AR
         go_wp2_with fail
         refine CA.out.mono ?_
         intro e Ad he
         rcases he.split with ⟨a, t, v, ho, rfl, hv, hR, hF⟩ | ⟨c, m, ho, rfl, hF⟩
         rotate_left 1
         · exact eg rfl (.of_bad (el HO.out ho) (F8.out.trans (hF.fi H8.out.lt)))
         have d1 := hR.d11
         have d2 := hR.frz 11
         have Ab := ec (ej HO.out ho)
         have HP := ec (SRep.put_rules AH.out H8.out hF hv)
         have HT := ec (hR.s11 v)
         have Ac := ec ((F8.out.trans (hF.fi H8.out.lt fun g hg => by obtain ⟨xs, hx, _⟩ := Aa.out; exact (hx.2 g hg).1)).set 11 v)
         have HLe : Hid (s8.n < t.n) := ec (fX (fun s a u => xw FN _ s a u) ho)
         have HLn : Hid (Lens { S with rules := S.rules ++ [a] } t.n) := ec { (Ay.out.up (Nat.le_of_lt HLe.out)) with rules := by have := Ay.out.rules; have := HLe.out; simp; omega }
         obtain ⟨va, vn, vc, rfl⟩ : ∃ a n c, v = .slice a n c := by obtain ⟨a, c, e⟩ := ed hv; exact ⟨a, _, c, e⟩
         clear he ho hv hR hF CA HO d0
         go_wp2_with fail
         go_end0
         exact .of_ok Ab.out HT.out HP.out HLn.out Ac.out
        | false =>
         have Aj := ec (fc AR.out rfl)
         clear AR
         have C9 := ec (gh R L N s8 st _ [101, 120, 99, 101, 112, 116, 105, 111, 110] H8.out _ rfl)
         go_wp2_with fail
         refine C9.out.mono ?_
         intro e w9 he
         rcases he.split with ⟨b9, s9, v9, ho, rfl, hv, hR, hF⟩ | ⟨c, m, ho, rfl, hF⟩
         rotate_left 1
         · exact eg rfl (.of_bad (el Aj.out ho) (F8.out.trans (hF.fi H8.out.lt)))
         cases hv
         have AL := ec (ej Aj.out ho)
         have AB := ec (AH.out.keep (Kp.of_fq hF H8.out (by decide)))
         have Au := ec (Ay.out.up ((eR _).le _ _ _ _ ho))
         have H9 := ec hR
         have F9 := ec (F8.out.trans (hF.fi H8.out.lt))
         clear he ho hR hF C9 H8 AH Ay F8 Aj
         cases b9 with
         | true =>
          have HO := ec (fs AL.out rfl)
          have Aa := ec AB.out.excepts
          have CA := ec (mO R L N s9 st _ (jm (kt L)) (fun s w h => si R L N s st w h _ rfl) (fV R st.kinds) S.excepts st.excepts 512 (by have := H9.out.nle; have := H9.out.Lle; have := Au.out.excepts; omega) Aa.out (fun g hg => ⟨Nat.lt_of_lt_of_le H9.out.lt hg, fun e => by obtain ⟨xs, hx, _⟩ := AB.out.kinds; have := (hx.1.lt g e.symm).2; omega⟩) (fun g hg => hg.1) H9.out _ rfl)
          have d0 := H9.out.d12
          clear AL
          go_wp2_with fail
          refine CA.out.mono ?_
          intro e Ad he
          rcases he.split with ⟨a, t, v, ho, rfl, hv, hR, hF⟩ | ⟨c, m, ho, rfl, hF⟩
          rotate_left 1
          · exact eg rfl (.of_bad (el HO.out ho) (F9.out.trans (hF.fi H9.out.lt)))
          have d1 := hR.d12
          have d2 := hR.frz 12
          have Ab := ec (ej HO.out ho)
          have HP := ec (SRep.put_excepts AB.out H9.out hF hv)
          have HT := ec (hR.s12 v)
          have Ac := ec ((F9.out.trans (hF.fi H9.out.lt fun g hg => by obtain ⟨xs, hx, _⟩ := Aa.out; exact (hx.2 g hg).1)).set 12 v)
          have HLe : Hid (s9.n < t.n) := ec (fX (fun s a u => rh _ s a u) ho)
          have HLn : Hid (Lens { S with excepts := S.excepts ++ [a] } t.n) := ec { (Au.out.up (Nat.le_of_lt HLe.out)) with excepts := by have := Au.out.excepts; have := HLe.out; simp; omega }
          obtain ⟨va, vn, vc, rfl⟩ : ∃ a n c, v = .slice a n c := by obtain ⟨a, c, e⟩ := ed hv; exact ⟨a, _, c, e⟩
          clear he ho hv hR hF CA HO d0
          go_wp2_with fail
          go_end0
          exact .of_ok Ab.out HT.out HP.out HLn.out Ac.out
         | false =>
          have Ar := ec (fc AL.out rfl)
          clear AL
          have Bc := ec (gh R L N s9 st _ [116, 111, 116, 97, 108] H9.out _ rfl)
          go_wp2_with fail
          refine Bc.out.mono ?_
          intro e BA he
          rcases he.split with ⟨Bt, s10, By, ho, rfl, hv, hR, hF⟩ | ⟨c, m, ho, rfl, hF⟩
          rotate_left 1
          · exact eg rfl (.of_bad (el Ar.out ho) (F9.out.trans (hF.fi H9.out.lt)))
          cases hv
          have Aq := ec (ej Ar.out ho)
          have AI := ec (AB.out.keep (Kp.of_fq hF H9.out (by decide)))
          have AK := ec (Au.out.up ((eR _).le _ _ _ _ ho))
          have Ae := ec hR
          have AZ := ec (F9.out.trans (hF.fi H9.out.lt))
          clear he ho hR hF Bc H9 AB Au F9 Ar
          cases Bt with
          | true =>
           have HO := ec (fs Aq.out rfl)
           have Aa := ec AI.out.totals
           have CA := ec (po R L N s10 st _ (kW FN (kt L)) (fun s w h => xz R L N s st w h _ rfl) (fV R st.kinds) S.totals st.totals 64 (by have := Ae.out.nle; have := Ae.out.Lle; have := AK.out.totals; omega) Aa.out (fun g hg => ⟨Nat.lt_of_lt_of_le Ae.out.lt hg, fun e => by obtain ⟨xs, hx, _⟩ := AI.out.kinds; have := (hx.1.lt g e.symm).2; omega⟩) (fun g hg => hg.1) Ae.out _ rfl)
           have d0 := Ae.out.d13
           clear Aq
           go_wp2_with fail
           refine CA.out.mono ?_
           intro e Ad he
           rcases he.split with ⟨a, t, v, ho, rfl, hv, hR, hF⟩ | ⟨c, m, ho, rfl, hF⟩
           rotate_left 1
           · exact eg rfl (.of_bad (el HO.out ho) (AZ.out.trans (hF.fi Ae.out.lt)))
           have d1 := hR.d13
           have d2 := hR.frz 13
           have Ab := ec (ej HO.out ho)
           have HP := ec (SRep.put_totals AI.out Ae.out hF hv)
           have HT := ec (hR.s13 v)
           have Ac := ec ((AZ.out.trans (hF.fi Ae.out.lt fun g hg => by obtain ⟨xs, hx, _⟩ := Aa.out; exact (hx.2 g hg).1)).set 13 v)
           have HLe : Hid (s10.n < t.n) := ec (fX (fun s a u => uN FN _ s a u) ho)
           have HLn : Hid (Lens { S with totals := S.totals ++ [a] } t.n) := ec { (AK.out.up (Nat.le_of_lt HLe.out)) with totals := by have := AK.out.totals; have := HLe.out; simp; omega }
           obtain ⟨va, vn, vc, rfl⟩ : ∃ a n c, v = .slice a n c := by obtain ⟨a, c, e⟩ := ed hv; exact ⟨a, _, c, e⟩
           clear he ho hv hR hF CA HO d0
           go_wp2_with fail
           go_end0
           exact .of_ok Ab.out HT.out HP.out HLn.out Ac.out
          | false =>
           have Bb := ec (fc Aq.out rfl)
           clear Aq
           have CF := ec (fS R L N s10 st _ Ae.out 51)
           go_wp2_with fail
           refine CF.out.mono ?_
           rintro _ w9 ⟨rfl, hF⟩
           exact eg rfl (.of_bad Bb.out (AZ.out.trans (hF.fi Ae.out.lt)))
end
end Go.Proofs.YtbpphlmakmeoaaaGreatDoor.Sy
