/- A heap in memory: down, Push, Pop. -/
import Derived.Test.YtbdlgglbcaoakaaGreatPrHps
namespace Go.Proofs.YtbdlgglbcaoakaaGreat.Pr
open Go.RowKit

set_option maxRecDepth 100000 in
set_option maxHeartbeats 12800000 in
theorem down_any {B hb : Nat} {hv : Value} {l : List Int} {w : World} {m : Nat} (h : Hq B hb hv l w) (hu : DnI l 0 m) (hl : l.length ≤ 1048577) (hm : m < l.length) :
    Calls Tryz.prog 90 #[rdy hb, .int .i64 0, .int .i64 m] w fun e w' => (∃ b, e = .returned (.bool b)) ∧ ∃ l', l'.Perm l ∧ l'.getD m 0 = l.getD m 0 ∧ Hpl l' m ∧ Hq B hb hv l' w' ∧ Hf hb hv hv w w' := by
  have H0 := hide h
  have HU := hide hu
  clear h hu
  go_enter Tryz.func90, Tryz.ntmps90
  go_wp2_with fail
  go_loopw [7] (fun x wr => ∃ (l' : List Int) (i : Nat), i < m + 1 ∧ x = .int .i64 i ∧ Hid (l'.length = l.length) ∧ Hid (l'.Perm l) ∧ Hid (l'.getD m 0 = l.getD m 0) ∧ Hid (DnI l' i m) ∧ Hid (Hq B hb hv l' wr) ∧ Hid (Hf hb hv hv w wr)) (fun x _ => m - (intOf x).toNat)
  case atStart => exact ⟨l, 0, by omega, rfl, hide rfl, hide (List.Perm.refl _), hide rfl, HU, H0, hide (Hf.refl _ _ _)⟩
  case round =>
    clear H0 HU
    obtain ⟨l', i, hi, rfl, HL, HP, HM, HU, HQ, HF⟩ := hrel
    obtain ⟨c1, hc1⟩ : ∃ c1, 2 * i + 1 = c1 := ⟨_, rfl⟩
    have e1 : 2 * (i : Int) + 1 = (c1 : Int) := by omega
    go_upto_region 3 with fail
    try rw [e1]
    have hc1a : c1 ≤ 2 * i + 1 ∧ 2 * i + 1 ≤ c1 := by omega
    clear e1 hc1
    by_cases hcm : m ≤ c1
    · have HD := hide (dn_none HU.out (by omega))
      go_wp2_with fail
      go_ret
      exact ⟨⟨_, rfl⟩, l', HP.out, HM.out, HD.out, HQ.out, HF.out⟩
    · have hml : m < l'.length := by rw [HL.out]; exact hm
      have him : i < l'.length := by omega
      have hcl : c1 < l'.length := by omega
      obtain ⟨g, c, hhv, hcell, hfz⟩ := HQ.out.at him
      have c0 := HQ.out.bx.get (i := 0) rfl
      rw [hhv] at c0
      have hx := hcell i him
      have h1 := hcell c1 hcl
      obtain ⟨n, hn⟩ : ∃ n, l'.length = n := ⟨_, rfl⟩
      rw [hn] at c0 hhv
      have hin : i < n := by omega
      have h1n : c1 < n := by omega
      have HV := hide hhv
      obtain ⟨x, ex⟩ : ∃ x, l'.getD i 0 = x := ⟨_, rfl⟩
      obtain ⟨x1, ex1⟩ : ∃ x, l'.getD c1 0 = x := ⟨_, rfl⟩
      rw [ex] at hx
      rw [ex1] at h1
      have HX := hide ex
      have HX1 := hide ex1
      obtain ⟨c2, hc2⟩ : ∃ c2, c1 + 1 = c2 := ⟨_, rfl⟩
      have e2 : (c1 : Int) + 1 = (c2 : Int) := by omega
      go_upto_region 6 with fail
      try rw [e2]
      have hc2a : c2 ≤ c1 + 1 ∧ c1 + 1 ≤ c2 := by omega
      clear e2 ex ex1 hhv hc2
      by_cases h2m : c2 < m
      · have h2n : c2 < n := by omega
        have h2 := hcell c2 (by omega)
        obtain ⟨x2, ex2⟩ : ∃ x, l'.getD c2 0 = x := ⟨_, rfl⟩
        rw [ex2] at h2
        have HX2 := hide ex2
        have hm1 := m_less c0
        clear hcell ex2 hn
        by_cases h21 : x2 < x1
        · have hdl : decide (x2 < x1) = true := decide_eq_true h21
          go_upto_region 8 with (go_at_call 153; refine (less_any h2n h1n h2 h1).mono ?_; rintro e w1 ⟨rfl, q, hw1⟩; have HW1 := hide hw1; clear hw1)
          clear hm1 hdl
          have HQ' : Hid (Hq B hb hv l' w1) := hide (by rw [HW1.out]; exact HQ.out.drew q)
          have HF' : Hid (Hf hb hv hv w w1) := hide (HF.out.trans ⟨by rw [HW1.out]; exact Fr.of_below (below_drewN wr q), .inl rfl⟩)
          replace c0 : w1.cell? ⟨hb, 0, none⟩ = some (.slice (some ⟨g, 0, none⟩) n c) := by rw [HW1.out]; exact c0
          replace hx : w1.cell? ⟨g, i, none⟩ = some (.int .i64 x) := by rw [HW1.out]; exact hx
          replace h1 : w1.cell? ⟨g, c1, none⟩ = some (.int .i64 x1) := by rw [HW1.out]; exact h1
          replace h2 : w1.cell? ⟨g, c2, none⟩ = some (.int .i64 x2) := by rw [HW1.out]; exact h2
          replace hfz : ∀ k, w1.frozen? ⟨g, k, none⟩ = false := by rw [HW1.out]; exact hfz
          clear HQ HF HW1
          rename Hid (Hq B hb hv l' w1) => HQ
          rename Hid (Hf hb hv hv w w1) => HF
          -- the child c2
          have hm2 := m_less (w := w1) c0
          have hmS := fun q2 => m_swap (w := w1.drewN q2) c0
          by_cases hd : x2 < x
          · have HDS := hide (dn_step (j := c2) HU.out h2m (.inr (by omega)) (fun k hk hor => by rcases hor with e | e; (have : k = c1 := by omega); subst this; rw [HX1.out, HX2.out]; omega; (have : k = c2 := by omega); subst this; exact Int.le_refl _) (by rw [HX.out, HX2.out]; exact hd))
            have HM2 : Hid ((swp l' i c2).getD m 0 = l.getD m 0) := hide (by rw [swp_at (by omega) (by omega), if_neg (by omega), if_neg (by omega)]; exact HM.out)
            have HPS := hide ((swp_perm (l := l') (i := i) (j := c2) (by omega) (by omega)).trans HP.out)
            have HSW := hide ((HV.out ▸ HQ.out : Hq B hb (.slice (some ⟨g, 0, none⟩) n c) l' w1).swap (i := i) (j := c2))
            rw [HX.out, HX2.out] at HSW
            have hdl2 : decide (x2 < x) = true := decide_eq_true hd
            go_upto_region 9 with (go_at_call 153; refine (less_any (w := w1) h2n hin h2 hx).mono ?_; rintro e w2 ⟨rfl, q2, hw2⟩; subst w2)
            go_upto_region 10 with (go_at_call 157; refine (swap_any (w := w1.drewN q2) hin h2n hx h2 hfz).mono ?_; rintro e w3 ⟨rfl, hw3⟩; have HW3 := hide hw3; clear hw3)
            have HQ2 : Hid (Hq B hb hv (swp l' i c2) w3) := hide (by rw [HW3.out, HV.out]; exact HSW.out.1.keep fun _ _ => rfl)
            have HF2 : Hid (Hf hb hv hv w w3) := hide (HF.out.trans ⟨by
              have := HSW.out.2
              rw [HW3.out]
              exact ⟨this.os, this.tape, this.output, this.size, fun k hk hz => this.block k hk fun e => hz (.inr (by rw [HV.out, e]; rfl))⟩, .inl rfl⟩)
            have HL2 : Hid ((swp l' i c2).length = l.length) := hide (swp_len.trans HL.out)
            clear HW3 HQ HF HSW hm2 hmS hx h1 h2 c0 hfz
            go_wp2_with fail
            go_roundw
            case rel => exact ⟨_, c2, by omega, rfl, HL2, HPS, HM2, HDS, HQ2, HF2⟩
            case measure => simp [intOf]; omega
          · have hdl2 : decide (x2 < x) = false := decide_eq_false hd
            have HD := hide (dn_done (j := c2) HU.out (fun k hk hor => by rcases hor with e | e; (have : k = c1 := by omega); subst this; rw [HX1.out, HX2.out]; omega; (have : k = c2 := by omega); subst this; exact Int.le_refl _) (by rw [HX.out, HX2.out]; omega))
            go_wp2_with (go_at_call 153; refine (less_any (w := w1) h2n hin h2 hx).mono ?_; rintro e w2 ⟨rfl, q2, hw2⟩; subst w2)
            go_ret
            exact ⟨⟨_, rfl⟩, l', HP.out, HM.out, HD.out, HQ.out.keep fun _ _ => rfl, HF.out.trans ⟨Fr.of_below (below_drewN w1 q2), .inl rfl⟩⟩
        · have hdl : decide (x2 < x1) = false := decide_eq_false h21
          go_upto_region 8 with (go_at_call 153; refine (less_any h2n h1n h2 h1).mono ?_; rintro e w1 ⟨rfl, q, hw1⟩; have HW1 := hide hw1; clear hw1)
          clear hm1 hdl
          have HQ' : Hid (Hq B hb hv l' w1) := hide (by rw [HW1.out]; exact HQ.out.drew q)
          have HF' : Hid (Hf hb hv hv w w1) := hide (HF.out.trans ⟨by rw [HW1.out]; exact Fr.of_below (below_drewN wr q), .inl rfl⟩)
          replace c0 : w1.cell? ⟨hb, 0, none⟩ = some (.slice (some ⟨g, 0, none⟩) n c) := by rw [HW1.out]; exact c0
          replace hx : w1.cell? ⟨g, i, none⟩ = some (.int .i64 x) := by rw [HW1.out]; exact hx
          replace h1 : w1.cell? ⟨g, c1, none⟩ = some (.int .i64 x1) := by rw [HW1.out]; exact h1
          replace h2 : w1.cell? ⟨g, c2, none⟩ = some (.int .i64 x2) := by rw [HW1.out]; exact h2
          replace hfz : ∀ k, w1.frozen? ⟨g, k, none⟩ = false := by rw [HW1.out]; exact hfz
          clear HQ HF HW1
          rename Hid (Hq B hb hv l' w1) => HQ
          rename Hid (Hf hb hv hv w w1) => HF
          -- the child c1
          have hm2 := m_less (w := w1) c0
          have hmS := fun q2 => m_swap (w := w1.drewN q2) c0
          by_cases hd : x1 < x
          · have HDS := hide (dn_step (j := c1) HU.out (by omega) (.inl (by omega)) (fun k hk hor => by rcases hor with e | e; (have : k = c1 := by omega); subst this; exact Int.le_refl _; (have : k = c2 := by omega); subst this; rw [HX1.out, HX2.out]; omega) (by rw [HX.out, HX1.out]; exact hd))
            have HM2 : Hid ((swp l' i c1).getD m 0 = l.getD m 0) := hide (by rw [swp_at (by omega) (by omega), if_neg (by omega), if_neg (by omega)]; exact HM.out)
            have HPS := hide ((swp_perm (l := l') (i := i) (j := c1) (by omega) (by omega)).trans HP.out)
            have HSW := hide ((HV.out ▸ HQ.out : Hq B hb (.slice (some ⟨g, 0, none⟩) n c) l' w1).swap (i := i) (j := c1))
            rw [HX.out, HX1.out] at HSW
            have hdl2 : decide (x1 < x) = true := decide_eq_true hd
            go_upto_region 9 with (go_at_call 153; refine (less_any (w := w1) h1n hin h1 hx).mono ?_; rintro e w2 ⟨rfl, q2, hw2⟩; subst w2)
            go_upto_region 10 with (go_at_call 157; refine (swap_any (w := w1.drewN q2) hin h1n hx h1 hfz).mono ?_; rintro e w3 ⟨rfl, hw3⟩; have HW3 := hide hw3; clear hw3)
            have HQ2 : Hid (Hq B hb hv (swp l' i c1) w3) := hide (by rw [HW3.out, HV.out]; exact HSW.out.1.keep fun _ _ => rfl)
            have HF2 : Hid (Hf hb hv hv w w3) := hide (HF.out.trans ⟨by
              have := HSW.out.2
              rw [HW3.out]
              exact ⟨this.os, this.tape, this.output, this.size, fun k hk hz => this.block k hk fun e => hz (.inr (by rw [HV.out, e]; rfl))⟩, .inl rfl⟩)
            have HL2 : Hid ((swp l' i c1).length = l.length) := hide (swp_len.trans HL.out)
            clear HW3 HQ HF HSW hm2 hmS hx h1 h2 c0 hfz
            go_wp2_with fail
            go_roundw
            case rel => exact ⟨_, c1, by omega, rfl, HL2, HPS, HM2, HDS, HQ2, HF2⟩
            case measure => simp [intOf]; omega
          · have hdl2 : decide (x1 < x) = false := decide_eq_false hd
            have HD := hide (dn_done (j := c1) HU.out (fun k hk hor => by rcases hor with e | e; (have : k = c1 := by omega); subst this; exact Int.le_refl _; (have : k = c2 := by omega); subst this; rw [HX1.out, HX2.out]; omega) (by rw [HX.out, HX1.out]; omega))
            go_wp2_with (go_at_call 153; refine (less_any (w := w1) h1n hin h1 hx).mono ?_; rintro e w2 ⟨rfl, q2, hw2⟩; subst w2)
            go_ret
            exact ⟨⟨_, rfl⟩, l', HP.out, HM.out, HD.out, HQ.out.keep fun _ _ => rfl, HF.out.trans ⟨Fr.of_below (below_drewN w1 q2), .inl rfl⟩⟩
      · clear hcell hn
        go_upto_region 8 with fail
        -- the child c1
        have hm2 := m_less (w := wr) c0
        have hmS := fun q2 => m_swap (w := wr.drewN q2) c0
        by_cases hd : x1 < x
        · have HDS := hide (dn_step (j := c1) HU.out (by omega) (.inl (by omega)) (fun k hk hor => by rcases hor with e | e; (have : k = c1 := by omega); subst this; exact Int.le_refl _; omega) (by rw [HX.out, HX1.out]; exact hd))
          have HM2 : Hid ((swp l' i c1).getD m 0 = l.getD m 0) := hide (by rw [swp_at (by omega) (by omega), if_neg (by omega), if_neg (by omega)]; exact HM.out)
          have HPS := hide ((swp_perm (l := l') (i := i) (j := c1) (by omega) (by omega)).trans HP.out)
          have HSW := hide ((HV.out ▸ HQ.out : Hq B hb (.slice (some ⟨g, 0, none⟩) n c) l' wr).swap (i := i) (j := c1))
          rw [HX.out, HX1.out] at HSW
          have hdl2 : decide (x1 < x) = true := decide_eq_true hd
          go_upto_region 9 with (go_at_call 153; refine (less_any (w := wr) h1n hin h1 hx).mono ?_; rintro e w2 ⟨rfl, q2, hw2⟩; subst w2)
          go_upto_region 10 with (go_at_call 157; refine (swap_any (w := wr.drewN q2) hin h1n hx h1 hfz).mono ?_; rintro e w3 ⟨rfl, hw3⟩; have HW3 := hide hw3; clear hw3)
          have HQ2 : Hid (Hq B hb hv (swp l' i c1) w3) := hide (by rw [HW3.out, HV.out]; exact HSW.out.1.keep fun _ _ => rfl)
          have HF2 : Hid (Hf hb hv hv w w3) := hide (HF.out.trans ⟨by
            have := HSW.out.2
            rw [HW3.out]
            exact ⟨this.os, this.tape, this.output, this.size, fun k hk hz => this.block k hk fun e => hz (.inr (by rw [HV.out, e]; rfl))⟩, .inl rfl⟩)
          have HL2 : Hid ((swp l' i c1).length = l.length) := hide (swp_len.trans HL.out)
          clear HW3 HQ HF HSW hm2 hmS hx h1 c0 hfz
          go_wp2_with fail
          go_roundw
          case rel => exact ⟨_, c1, by omega, rfl, HL2, HPS, HM2, HDS, HQ2, HF2⟩
          case measure => simp [intOf]; omega
        · have hdl2 : decide (x1 < x) = false := decide_eq_false hd
          have HD := hide (dn_done (j := c1) HU.out (fun k hk hor => by rcases hor with e | e; (have : k = c1 := by omega); subst this; exact Int.le_refl _; omega) (by rw [HX.out, HX1.out]; omega))
          go_wp2_with (go_at_call 153; refine (less_any (w := wr) h1n hin h1 hx).mono ?_; rintro e w2 ⟨rfl, q2, hw2⟩; subst w2)
          go_ret
          exact ⟨⟨_, rfl⟩, l', HP.out, HM.out, HD.out, HQ.out.keep fun _ _ => rfl, HF.out.trans ⟨Fr.of_below (below_drewN wr q2), .inl rfl⟩⟩
end Go.Proofs.YtbdlgglbcaoakaaGreat.Pr
