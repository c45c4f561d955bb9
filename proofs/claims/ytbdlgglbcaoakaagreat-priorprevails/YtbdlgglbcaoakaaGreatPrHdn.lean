/- A heap in memory: down, Push, Pop. -/
import Derived.Test.YtbdlgglbcaoakaaGreatPrHps
import Derived.Test.YtbdlgglbcaoakaaGreatJdW
import Derived.Test.YtbdlgglbcaoakaaGreatJdM
import Derived.Test.YtbdlgglbcaoakaaGreatCheck8
namespace Go.Proofs.YtbdlgglbcaoakaaGreat.Pr
open Go.RowKit

set_option maxRecDepth 100000 in
set_option maxHeartbeats 12800000 in
theorem down_any {B hb : Nat} {hv : Value} {l : List Int} {w : World} {m : Nat} (h : Hq B hb hv l w) (hu : DnI l 0 m) (hl : l.length ≤ 1048577) (hm : m < l.length) :
    Calls Tryz.prog 90 #[rdy hb, .int .i64 0, .int .i64 m] w fun e w' => (∃ b, e = .returned (.bool b)) ∧ ∃ l', l'.Perm l ∧ l'.getD m 0 = l.getD m 0 ∧ Hpl l' m ∧ Hq B hb hv l' w' ∧ Hf hb hv hv w w' := by
  have H0 := hide h
  have HU := hide hu
  clear h hu
  go_enter Tryz.func90, Tryz.ntmps90
  go_wp2_with fail
  go_loopw [7] (fun x wr => ∃ (l' : List Int) (i : Nat), i < m + 1 ∧ x = .int .i64 i ∧ Hid (l'.length = l.length) ∧ Hid (l'.Perm l) ∧ Hid (l'.getD m 0 = l.getD m 0) ∧ Hid (DnI l' i m) ∧ Hid (Hq B hb hv l' wr) ∧ Hid (Hf hb hv hv w wr)) (fun x _ => m - (intOf x).toNat)
  case atStart => exact ⟨l, 0, by omega, rfl, hide rfl, hide (List.Perm.refl _), hide rfl, HU, H0, hide (Hf.refl _ _ _)⟩
  case round =>
    clear H0 HU
    obtain ⟨l', i, hi, rfl, HL, HP, HM, HU, HQ, HF⟩ := hrel
    obtain ⟨c1, hc1⟩ : ∃ c1, 2 * i + 1 = c1 := ⟨_, rfl⟩
    have e1 : 2 * (i : Int) + 1 = (c1 : Int) := by omega
    go_upto_region 3 with fail
    try rw [e1]
    have hc1a : c1 ≤ 2 * i + 1 ∧ 2 * i + 1 ≤ c1 := by omega
    clear e1 hc1
    by_cases hcm : m ≤ c1
    · have HD := hide (dn_none HU.out (by omega))
      go_wp2_with fail
      go_ret
      exact ⟨⟨_, rfl⟩, l', HP.out, HM.out, HD.out, HQ.out, HF.out⟩
    · have hml : m < l'.length := by rw [HL.out]; exact hm
      have him : i < l'.length := by omega
      have hcl : c1 < l'.length := by omega
      obtain ⟨g, c, hhv, hcell, hfz⟩ := HQ.out.at him
      have c0 := HQ.out.bx.get (i := 0) rfl
      rw [hhv] at c0
      have hx := hcell i him
      have h1 := hcell c1 hcl
      obtain ⟨n, hn⟩ : ∃ n, l'.length = n := ⟨_, rfl⟩
      rw [hn] at c0 hhv
      have hin : i < n := by omega
      have h1n : c1 < n := by omega
      have HV := hide hhv
      obtain ⟨x, ex⟩ : ∃ x, l'.getD i 0 = x := ⟨_, rfl⟩
      obtain ⟨x1, ex1⟩ : ∃ x, l'.getD c1 0 = x := ⟨_, rfl⟩
      rw [ex] at hx
      rw [ex1] at h1
      have HX := hide ex
      have HX1 := hide ex1
      obtain ⟨c2, hc2⟩ : ∃ c2, c1 + 1 = c2 := ⟨_, rfl⟩
      have e2 : (c1 : Int) + 1 = (c2 : Int) := by omega
      go_upto_region 6 with fail
      try rw [e2]
      have hc2a : c2 ≤ c1 + 1 ∧ c1 + 1 ≤ c2 := by omega
      clear e2 ex ex1 hhv hc2
      by_cases h2m : c2 < m
      · have h2n : c2 < n := by omega
        have h2 := hcell c2 (by omega)
        obtain ⟨x2, ex2⟩ : ∃ x, l'.getD c2 0 = x := ⟨_, rfl⟩
        rw [ex2] at h2
        have HX2 := hide ex2
        have hm1 := m_less c0
        clear hcell ex2 hn
        by_cases h21 : x2 < x1
        · have hdl : decide (x2 < x1) = true := decide_eq_true h21
          go_upto_region 8 with (go_at_call 153; refine (less_any h2n h1n h2 h1).mono ?_; rintro e w1 ⟨rfl, q, hw1⟩; have HW1 := hide hw1; clear hw1)
          clear hm1 hdl
          have HQ' : Hid (Hq B hb hv l' w1) := hide (by rw [HW1.out]; exact HQ.out.drew q)
          have HF' : Hid (Hf hb hv hv w w1) := hide (HF.out.trans ⟨by rw [HW1.out]; exact Fr.of_below (below_drewN wr q), .inl rfl⟩)
          replace c0 : w1.cell? ⟨hb, 0, none⟩ = some (.slice (some ⟨g, 0, none⟩) n c) := by rw [HW1.out]; exact c0
          replace hx : w1.cell? ⟨g, i, none⟩ = some (.int .i64 x) := by rw [HW1.out]; exact hx
          replace h1 : w1.cell? ⟨g, c1, none⟩ = some (.int .i64 x1) := by rw [HW1.out]; exact h1
          replace h2 : w1.cell? ⟨g, c2, none⟩ = some (.int .i64 x2) := by rw [HW1.out]; exact h2
          replace hfz : ∀ k, w1.frozen? ⟨g, k, none⟩ = false := by rw [HW1.out]; exact hfz
          clear HQ HF HW1
          rename Hid (Hq B hb hv l' w1) => HQ
          rename Hid (Hf hb hv hv w w1) => HF
          -- the child c2
          have hm2 := m_less (w := w1) c0
          have hmS := fun q2 => m_swap (w := w1.drewN q2) c0
          by_cases hd : x2 < x
          · have HDS := hide (dn_step (j := c2) HU.out h2m (.inr (by omega)) (fun k hk hor => by rcases hor with e | e; (have : k = c1 := by omega); subst this; rw [HX1.out, HX2.out]; omega; (have : k = c2 := by omega); subst this; exact Int.le_refl _) (by rw [HX.out, HX2.out]; exact hd))
            have HM2 : Hid ((swp l' i c2).getD m 0 = l.getD m 0) := hide (by rw [swp_at (by omega) (by omega), if_neg (by omega), if_neg (by omega)]; exact HM.out)
            have HPS := hide ((swp_perm (l := l') (i := i) (j := c2) (by omega) (by omega)).trans HP.out)
            have HSW := hide ((HV.out ▸ HQ.out : Hq B hb (.slice (some ⟨g, 0, none⟩) n c) l' w1).swap (i := i) (j := c2))
            rw [HX.out, HX2.out] at HSW
            have hdl2 : decide (x2 < x) = true := decide_eq_true hd
            go_upto_region 9 with (go_at_call 153; refine (less_any (w := w1) h2n hin h2 hx).mono ?_; rintro e w2 ⟨rfl, q2, hw2⟩; subst w2)
            go_upto_region 10 with (go_at_call 157; refine (swap_any (w := w1.drewN q2) hin h2n hx h2 hfz).mono ?_; rintro e w3 ⟨rfl, hw3⟩; have HW3 := hide hw3; clear hw3)
            have HQ2 : Hid (Hq B hb hv (swp l' i c2) w3) := hide (by rw [HW3.out, HV.out]; exact HSW.out.1.keep fun _ _ => rfl)
            have HF2 : Hid (Hf hb hv hv w w3) := hide (HF.out.trans ⟨by
              have := HSW.out.2
              rw [HW3.out]
              exact ⟨this.os, this.tape, this.output, this.size, fun k hk hz => this.block k hk fun e => hz (.inr (by rw [HV.out, e]; rfl))⟩, .inl rfl⟩)
            have HL2 : Hid ((swp l' i c2).length = l.length) := hide (swp_len.trans HL.out)
            clear HW3 HQ HF HSW hm2 hmS hx h1 h2 c0 hfz
            go_wp2_with fail
            go_roundw
            case rel => exact ⟨_, c2, by omega, rfl, HL2, HPS, HM2, HDS, HQ2, HF2⟩
            case measure => simp [intOf]; omega
          · have hdl2 : decide (x2 < x) = false := decide_eq_false hd
            have HD := hide (dn_done (j := c2) HU.out (fun k hk hor => by rcases hor with e | e; (have : k = c1 := by omega); subst this; rw [HX1.out, HX2.out]; omega; (have : k = c2 := by omega); subst this; exact Int.le_refl _) (by rw [HX.out, HX2.out]; omega))
            go_wp2_with (go_at_call 153; refine (less_any (w := w1) h2n hin h2 hx).mono ?_; rintro e w2 ⟨rfl, q2, hw2⟩; subst w2)
            go_ret
            exact ⟨⟨_, rfl⟩, l', HP.out, HM.out, HD.out, HQ.out.keep fun _ _ => rfl, HF.out.trans ⟨Fr.of_below (below_drewN w1 q2), .inl rfl⟩⟩
        · have hdl : decide (x2 < x1) = false := decide_eq_false h21
          go_upto_region 8 with (go_at_call 153; refine (less_any h2n h1n h2 h1).mono ?_; rintro e w1 ⟨rfl, q, hw1⟩; have HW1 := hide hw1; clear hw1)
          clear hm1 hdl
          have HQ' : Hid (Hq B hb hv l' w1) := hide (by rw [HW1.out]; exact HQ.out.drew q)
          have HF' : Hid (Hf hb hv hv w w1) := hide (HF.out.trans ⟨by rw [HW1.out]; exact Fr.of_below (below_drewN wr q), .inl rfl⟩)
          replace c0 : w1.cell? ⟨hb, 0, none⟩ = some (.slice (some ⟨g, 0, none⟩) n c) := by rw [HW1.out]; exact c0
          replace hx : w1.cell? ⟨g, i, none⟩ = some (.int .i64 x) := by rw [HW1.out]; exact hx
          replace h1 : w1.cell? ⟨g, c1, none⟩ = some (.int .i64 x1) := by rw [HW1.out]; exact h1
          replace h2 : w1.cell? ⟨g, c2, none⟩ = some (.int .i64 x2) := by rw [HW1.out]; exact h2
          replace hfz : ∀ k, w1.frozen? ⟨g, k, none⟩ = false := by rw [HW1.out]; exact hfz
          clear HQ HF HW1
          rename Hid (Hq B hb hv l' w1) => HQ
          rename Hid (Hf hb hv hv w w1) => HF
          -- the child c1
          have hm2 := m_less (w := w1) c0
          have hmS := fun q2 => m_swap (w := w1.drewN q2) c0
          by_cases hd : x1 < x
          · have HDS := hide (dn_step (j := c1) HU.out (by omega) (.inl (by omega)) (fun k hk hor => by rcases hor with e | e; (have : k = c1 := by omega); subst this; exact Int.le_refl _; (have : k = c2 := by omega); subst this; rw [HX1.out, HX2.out]; omega) (by rw [HX.out, HX1.out]; exact hd))
            have HM2 : Hid ((swp l' i c1).getD m 0 = l.getD m 0) := hide (by rw [swp_at (by omega) (by omega), if_neg (by omega), if_neg (by omega)]; exact HM.out)
            have HPS := hide ((swp_perm (l := l') (i := i) (j := c1) (by omega) (by omega)).trans HP.out)
            have HSW := hide ((HV.out ▸ HQ.out : Hq B hb (.slice (some ⟨g, 0, none⟩) n c) l' w1).swap (i := i) (j := c1))
            rw [HX.out, HX1.out] at HSW
            have hdl2 : decide (x1 < x) = true := decide_eq_true hd
            go_upto_region 9 with (go_at_call 153; refine (less_any (w := w1) h1n hin h1 hx).mono ?_; rintro e w2 ⟨rfl, q2, hw2⟩; subst w2)
            go_upto_region 10 with (go_at_call 157; refine (swap_any (w := w1.drewN q2) hin h1n hx h1 hfz).mono ?_; rintro e w3 ⟨rfl, hw3⟩; have HW3 := hide hw3; clear hw3)
            have HQ2 : Hid (Hq B hb hv (swp l' i c1) w3) := hide (by rw [HW3.out, HV.out]; exact HSW.out.1.keep fun _ _ => rfl)
            have HF2 : Hid (Hf hb hv hv w w3) := hide (HF.out.trans ⟨by
              have := HSW.out.2
              rw [HW3.out]
              exact ⟨this.os, this.tape, this.output, this.size, fun k hk hz => this.block k hk fun e => hz (.inr (by rw [HV.out, e]; rfl))⟩, .inl rfl⟩)
            have HL2 : Hid ((swp l' i c1).length = l.length) := hide (swp_len.trans HL.out)
            clear HW3 HQ HF HSW hm2 hmS hx h1 h2 c0 hfz
            go_wp2_with fail
            go_roundw
            case rel => exact ⟨_, c1, by omega, rfl, HL2, HPS, HM2, HDS, HQ2, HF2⟩
            case measure => simp [intOf]; omega
          · have hdl2 : decide (x1 < x) = false := decide_eq_false hd
            have HD := hide (dn_done (j := c1) HU.out (fun k hk hor => by rcases hor with e | e; (have : k = c1 := by omega); subst this; exact Int.le_refl _; (have : k = c2 := by omega); subst this; rw [HX1.out, HX2.out]; omega) (by rw [HX.out, HX1.out]; omega))
            go_wp2_with (go_at_call 153; refine (less_any (w := w1) h1n hin h1 hx).mono ?_; rintro e w2 ⟨rfl, q2, hw2⟩; subst w2)
            go_ret
            exact ⟨⟨_, rfl⟩, l', HP.out, HM.out, HD.out, HQ.out.keep fun _ _ => rfl, HF.out.trans ⟨Fr.of_below (below_drewN w1 q2), .inl rfl⟩⟩
      · clear hcell hn
        go_upto_region 8 with fail
        -- the child c1
        have hm2 := m_less (w := wr) c0
        have hmS := fun q2 => m_swap (w := wr.drewN q2) c0
        by_cases hd : x1 < x
        · have HDS := hide (dn_step (j := c1) HU.out (by omega) (.inl (by omega)) (fun k hk hor => by rcases hor with e | e; (have : k = c1 := by omega); subst this; exact Int.le_refl _; omega) (by rw [HX.out, HX1.out]; exact hd))
          have HM2 : Hid ((swp l' i c1).getD m 0 = l.getD m 0) := hide (by rw [swp_at (by omega) (by omega), if_neg (by omega), if_neg (by omega)]; exact HM.out)
          have HPS := hide ((swp_perm (l := l') (i := i) (j := c1) (by omega) (by omega)).trans HP.out)
          have HSW := hide ((HV.out ▸ HQ.out : Hq B hb (.slice (some ⟨g, 0, none⟩) n c) l' wr).swap (i := i) (j := c1))
          rw [HX.out, HX1.out] at HSW
          have hdl2 : decide (x1 < x) = true := decide_eq_true hd
          go_upto_region 9 with (go_at_call 153; refine (less_any (w := wr) h1n hin h1 hx).mono ?_; rintro e w2 ⟨rfl, q2, hw2⟩; subst w2)
          go_upto_region 10 with (go_at_call 157; refine (swap_any (w := wr.drewN q2) hin h1n hx h1 hfz).mono ?_; rintro e w3 ⟨rfl, hw3⟩; have HW3 := hide hw3; clear hw3)
          have HQ2 : Hid (Hq B hb hv (swp l' i c1) w3) := hide (by rw [HW3.out, HV.out]; exact HSW.out.1.keep fun _ _ => rfl)
          have HF2 : Hid (Hf hb hv hv w w3) := hide (HF.out.trans ⟨by
            have := HSW.out.2
            rw [HW3.out]
            exact ⟨this.os, this.tape, this.output, this.size, fun k hk hz => this.block k hk fun e => hz (.inr (by rw [HV.out, e]; rfl))⟩, .inl rfl⟩)
          have HL2 : Hid ((swp l' i c1).length = l.length) := hide (swp_len.trans HL.out)
          clear HW3 HQ HF HSW hm2 hmS hx h1 c0 hfz
          go_wp2_with fail
          go_roundw
          case rel => exact ⟨_, c1, by omega, rfl, HL2, HPS, HM2, HDS, HQ2, HF2⟩
          case measure => simp [intOf]; omega
        · have hdl2 : decide (x1 < x) = false := decide_eq_false hd
          have HD := hide (dn_done (j := c1) HU.out (fun k hk hor => by rcases hor with e | e; (have : k = c1 := by omega); subst this; exact Int.le_refl _; omega) (by rw [HX.out, HX1.out]; omega))
          go_wp2_with (go_at_call 153; refine (less_any (w := wr) h1n hin h1 hx).mono ?_; rintro e w2 ⟨rfl, q2, hw2⟩; subst w2)
          go_ret
          exact ⟨⟨_, rfl⟩, l', HP.out, HM.out, HD.out, HQ.out.keep fun _ _ => rfl, HF.out.trans ⟨Fr.of_below (below_drewN wr q2), .inl rfl⟩⟩
end Go.Proofs.YtbdlgglbcaoakaaGreat.Pr
/- A heap in memory: Push, Pop. -/
namespace Go.Proofs.YtbdlgglbcaoakaaGreat.Pr
open Go.RowKit

theorem Hq.len {B hb : Nat} {hv : Value} {l : List Int} {w : World} (h : Hq B hb hv l w) : ∃ a c, hv = .slice a l.length c := owns_slice h.ro
set_option maxRecDepth 100000 in
set_option maxHeartbeats 6400000 in
theorem heapPush_any {B hb : Nat} {hv : Value} {l : List Int} {w : World} {x : Int} (h : Hq B hb hv l w) (hp : Hpl l l.length) (hB : B ≤ w.heap.size) (hl : l.length ≤ 1048576) :
    Calls Tryz.prog 43 #[rdy hb, .iface 3 (.int .i64 x)] w fun e w' => e = .returned (.tuple #[]) ∧ ∃ hv' l', l'.Perm (l ++ [x]) ∧ Hpl l' l'.length ∧ Hq B hb hv' l' w' ∧ Hf hb hv hv' w w' := by
  have C1 := hide (push_any (x := x) h hB hl)
  have HUP := hide (up_start (x := x) hp)
  have hm1 := m_push w hb
  clear h hp
  go_enter Tryz.func43, Tryz.ntmps43
  go_upto_region 1 with (go_at_call 155; refine C1.out.mono ?_; rintro e w1 ⟨rfl, hv1, hq1, hf1⟩; have HQ := hide hq1; have HF := hide hf1; clear hq1 hf1)
  obtain ⟨a, c, hhv⟩ := HQ.out.len
  have c0 := HQ.out.bx.get (i := 0) rfl
  rw [hhv] at c0
  have hln : (l ++ [x]).length = l.length + 1 := by simp
  rw [hln] at c0
  have hm2 := m_len c0
  have C2 := hide (up_any HQ.out HUP.out (by omega))
  obtain ⟨n, hn⟩ : ∃ n, l.length = n := ⟨_, rfl⟩
  rw [hn] at c0 hm2 C2 hl
  clear C1 hm1 hhv hln hn
  have e1 : ((n + 1 : Nat) : Int) - 1 = (n : Int) := by omega
  have e2 : ((n : Int) + 1) - 1 = (n : Int) := by omega
  go_wp2_with (first | (go_at_call 44; refine (len_any _ _ _ _).mono ?_; rintro e w2 ⟨rfl, hw2⟩; subst w2) | (go_at_call 89; refine C2.out.mono ?_; rintro e w3 ⟨rfl, l', p1, p2, p3, p4⟩; have P1 := hide p1; have P2 := hide p2; have P3 := hide p3; have P4 := hide p4; clear p1 p2 p3 p4))
  go_end0
  exact ⟨rfl, _, _, P1.out, P2.out, P3.out, HF.out.trans P4.out⟩
theorem take_last {l : List Int} {m : Nat} (h : l.length = m + 1) : l = l.take m ++ [l.getD m 0] := by
  have hm : m < l.length := by omega
  have e : l.getD m 0 = l[m] := by simp [List.getD, hm]
  rw [e, ← List.take_succ_eq_append_getElem hm, List.take_of_length_le (by omega)]
set_option maxRecDepth 100000 in
set_option maxHeartbeats 6400000 in
theorem heapPop_any {B hb : Nat} {hv : Value} {l : List Int} {w : World} (h : Hq B hb hv l w) (hp : Hpl l l.length) (hn : l ≠ []) (hl : l.length ≤ 1048576) :
    Calls Tryz.prog 45 #[rdy hb] w fun e w' => e = .returned (.iface 3 (.int .i64 (l.getD 0 0))) ∧ ∃ hv' l', (l' ++ [l.getD 0 0]).Perm l ∧ Hpl l' l'.length ∧ Hq B hb hv' l' w' ∧ Hf hb hv hv' w w' := by
  obtain ⟨m, hm⟩ : ∃ m, l.length = m + 1 := ⟨l.length - 1, by cases l with | nil => exact absurd rfl hn | cons _ _ => simp⟩
  obtain ⟨g, c, hhv, hcell, hfz⟩ := h.at (i := 0) (by omega)
  have c0 := h.bx.get (i := 0) rfl
  rw [hhv] at c0
  have hx := hcell 0 (by omega)
  have hy := hcell m (by omega)
  rw [hm] at c0 hhv
  have hm1 := m_len c0
  have hm2 := m_swap c0
  have HSW := hide ((hhv ▸ h : Hq B hb (.slice (some ⟨g, 0, none⟩) (m + 1) c) l w).swap (i := 0) (j := m))
  have HV := hide hhv
  have HDN := hide (dn_start hp hm)
  have HM := hide hm
  have HLM : Hid ((swp l 0 m).getD m 0 = l.getD 0 0) := hide (by rw [swp_at (by omega) (by omega), if_pos rfl])
  have HPM := hide (swp_perm (l := l) (i := 0) (j := m) (by omega) (by omega))
  have hl2 : m ≤ 1048576 := by omega
  clear h hp hcell hhv hl hn hm
  generalize l.getD 0 0 = x at *
  generalize l.getD m 0 = y at *
  have e1 : ((m + 1 : Nat) : Int) - 1 = (m : Int) := by omega
  have e2 : ((m : Int) + 1) - 1 = (m : Int) := by omega
  go_enter Tryz.func45, Tryz.ntmps45
  go_upto_region 2 with (go_at_call 44; refine (len_any _ _ _ _).mono ?_; rintro e w2 ⟨rfl, hw2⟩; subst w2)
  try rw [e2]
  try rw [e1]
  clear e1 e2
  go_upto_region 3 with (go_at_call 157; refine (swap_any (i := 0) (j := m) (by omega) (by omega) hx hy hfz).mono ?_; rintro e w3 ⟨rfl, hw3⟩; have HW3 := hide hw3; clear hw3)
  have HQ : Hid (Hq B hb hv (swp l 0 m) w3) := hide (by rw [HW3.out, HV.out]; exact HSW.out.1)
  have HF : Hid (Hf hb hv hv w w3) := hide ⟨by
    have := HSW.out.2
    rw [HW3.out]
    exact ⟨this.os, this.tape, this.output, this.size, fun k hk hz => this.block k hk fun e => hz (.inr (by rw [HV.out, e]; rfl))⟩, .inl rfl⟩
  have C3 := hide (down_any HQ.out HDN.out (by rw [swp_len, HM.out]; omega) (by rw [swp_len, HM.out]; omega))
  clear HW3 HSW HQ hm1 hm2 hx hy c0 hfz
  go_upto_region 4 with (go_at_call 90; refine C3.out.mono ?_; rintro e w4 ⟨⟨b, rfl⟩, l2, p1, p2, p3, p4, p5⟩; have P1 := hide p1; have P2 := hide p2; have P3 := hide p3; have P4 := hide p4; have P5 := hide p5; clear p1 p2 p3 p4 p5)
  clear C3
  have hl2l : l2.length = m + 1 := by rw [P1.out.length_eq, swp_len]; exact HM.out
  have hsp := take_last hl2l
  rw [P2.out, HLM.out] at hsp
  have C4 := hide (pop_any (q := l2.take m) (x := x) (hsp ▸ P4.out) (by rw [List.length_take]; omega))
  have HPP : Hid ((l2.take m ++ [x]).Perm l) := hide (by rw [← hsp]; exact P1.out.trans HPM.out)
  have HHP := hide (hpl_take P3.out (by omega))
  have hm3 := m_pop w4 hb
  clear hsp hl2l
  go_wp2_with (go_at_call 154; refine C4.out.mono ?_; rintro e w5 ⟨rfl, hv5, q1, q2⟩; have Q1 := hide q1; have Q2 := hide q2; clear q1 q2)
  go_ret
  exact ⟨rfl, _, _, HPP.out, HHP.out, Q1.out, (HF.out.trans P5.out).trans Q2.out⟩
def inN (z b : Int) : Bool := decide (0 ≤ z) && decide (z < b)
theorem inN_iff {z b : Int} : inN z b = true ↔ 0 ≤ z ∧ z < b := by unfold inN; simp
set_option maxHeartbeats 1600000 in
theorem within_any (z b : Int) (w : World) : Calls Tryz.prog 10 #[.int .i64 z, .int .i64 b] w fun e w' => e = .returned (.bool (inN z b)) ∧ w' = w := by
  by_cases h : 0 ≤ z
  · have HR : Hid (decide (z < b) = inN z b) := hide (by unfold inN; simp [h])
    go_enter Tryz.func10, Tryz.ntmps10
    go_wp2_with fail
    go_ret
    exact ⟨ret_bool HR.out, rfl⟩
  · have HR : Hid (false = inN z b) := hide (by unfold inN; simp [h])
    go_enter Tryz.func10, Tryz.ntmps10
    go_wp2_with fail
    go_ret
    exact ⟨ret_bool HR.out, rfl⟩
end Go.Proofs.YtbdlgglbcaoakaaGreat.Pr
/- prior.Prevails: its answer. -/
namespace Go.Proofs.YtbdlgglbcaoakaaGreat
open Go.RowKit Go.Shelf Go.Maps Go.WideMaps

def prevM (S : StatM) (a b : Int) : Bool × Int :=
  if (checkM S).1 = 0 then (if Pr.inN a S.rules.length then (if Pr.inN b S.rules.length then (S.weighM a.toNat b.toNat != 0, 0) else (false, 1)) else (false, 1)) else (false, (checkM S).1)
theorem SR.up {S : StatM} {st : St9} {w W : World} (h : SR w.heap.size w S st) (hb : Below w.heap.size w W) : SR W.heap.size W S st := SR.mono hb.size (h.keep fun g hg => hb.block g hg)
/-- What a statute that holds keeps. -/
theorem ok_src {S : StatM} (h : (checkM S).1 = 0) : S.sources.length ≤ 4096 ∧ S.excepts.length ≤ 4096 ∧ S.rules.length ≤ 512 ∧ ∀ p ∈ S.sources, 0 ≤ p.2 ∧ p.2 ≤ 1000 := by
  obtain ⟨h1, h2⟩ := check_ok.1 h
  unfold StatM.fitsB at h1
  simp only [Bool.and_eq_true, decide_eq_true_eq] at h1
  refine ⟨by omega, by omega, by omega, ?_⟩
  intro p hp
  obtain ⟨n, hn⟩ := List.mem_iff_getElem?.1 hp
  have hm : sourceM S.srcs n p ∈ S.items := by
    unfold StatM.items
    have : sourceM S.srcs n p ∈ S.sources.mapIdx (sourceM S.srcs) := List.mem_iff_getElem?.2 ⟨n, by simp [hn]⟩
    simp only [List.mem_append]
    exact .inl (.inl (.inl (.inr this)))
  have := h2 _ hm
  unfold sourceM at this
  cases hc : calledM S.srcs p.1 n with
  | error c => rw [hc] at this; cases this
  | ok u =>
    rw [hc] at this
    have t : wantM (decide (0 ≤ p.2) && decide (p.2 ≤ 1000)) 4 = .ok () := this
    unfold wantM at t
    split at t
    · rename_i hh; simpa using hh
    · cases t
set_option maxRecDepth 100000 in
set_option maxHeartbeats 12800000 in
theorem prevails_fn {S : StatM} {st : St9} {w : World} (h : SR w.heap.size w S st) (za zb : Int) :
    Calls Tryz.prog 5 #[st.agg, .int .i64 za, .int .i64 zb] w fun e w' => e = .returned (.tuple #[.bool (prevM S za zb).1, .int .i64 (prevM S za zb).2]) ∧ Below w.heap.size w w' := by
  obtain ⟨tt, ht⟩ := h.title
  obtain ⟨a1, b1, f1, _, l1⟩ := h.kinds.form
  obtain ⟨a2, b2, f2, _, l2⟩ := h.members.form
  obtain ⟨a3, b3, f3, _, l3⟩ := h.preds.form
  obtain ⟨a4, b4, f4, _, l4⟩ := h.classes.form
  obtain ⟨a5, b5, f5, _, l5⟩ := h.sources.form
  obtain ⟨a6, b6, f6, _, l6⟩ := h.rules.form
  obtain ⟨a7, b7, f7, _, l7⟩ := h.excepts.form
  obtain ⟨a8, b8, f8, _, l8⟩ := h.totals.form
  obtain ⟨s0, s1, s2, s3, s4, s5, s6, s7, s8⟩ := st
  simp only at ht f1 f2 f3 f4 f5 f6 f7 f8
  subst ht f1 f2 f3 f4 f5 f6 f7 f8
  have hA : Below w.heap.size w (w.alloc (.cells #[.string tt, .slice a1 S.kinds.length b1, .slice a2 S.members.length b2, .slice a3 S.preds.length b3, .slice a4 S.classes.length b4, .slice a5 S.sources.length b5, .slice a6 S.rules.length b6, .slice a7 S.excepts.length b7, .slice a8 S.totals.length b8] 31)) := (Below.refl _ w).alloc (Nat.le_refl _) _
  have hbx := heap_alloc_new w (.cells #[.string tt, .slice a1 S.kinds.length b1, .slice a2 S.members.length b2, .slice a3 S.preds.length b3, .slice a4 S.classes.length b4, .slice a5 S.sources.length b5, .slice a6 S.rules.length b6, .slice a7 S.excepts.length b7, .slice a8 S.totals.length b8] 31)
  have CK := hide (check_any (h.up hA))
  have HS := hide fun (X : World) (hb : Below w.heap.size w X) => h.up hb
  unfold St9.agg at *
  simp only at *
  have HA := hide hA
  have HBX := hide hbx
  clear h hA hbx
  go_enter Tryz.func5, Tryz.ntmps5
  go_upto_region 2 with (go_at_call 9; refine CK.out.mono ?_; rintro e w1 ⟨rfl, hb1⟩; have HB1 := hide (HA.out.trans (hb1.mono HA.out.size)); have HX1 := hide ((hb1.block w.heap.size (loc_lt HBX.out)).trans HBX.out); clear hb1)
  clear CK HA HBX
  have c6 : w1.cell? ⟨w.heap.size, 6, none⟩ = some (.slice a6 S.rules.length b6) := cell_of_row w1 w.heap.size 6 _ _ _ HX1.out
  have k0 := cell_of_row w1 w.heap.size 0 _ _ _ HX1.out
  have k1 := cell_of_row w1 w.heap.size 1 _ _ _ HX1.out
  have k2 := cell_of_row w1 w.heap.size 2 _ _ _ HX1.out
  have k3 := cell_of_row w1 w.heap.size 3 _ _ _ HX1.out
  have k4 := cell_of_row w1 w.heap.size 4 _ _ _ HX1.out
  have k5 := cell_of_row w1 w.heap.size 5 _ _ _ HX1.out
  have k7 := cell_of_row w1 w.heap.size 7 _ _ _ HX1.out
  have k8 := cell_of_row w1 w.heap.size 8 _ _ _ HX1.out
  simp at k0 k1 k2 k3 k4 k5 k7 k8
  obtain ⟨c0, hc0⟩ : ∃ c, (checkM S).1 = c := ⟨_, rfl⟩
  have HC := hide hc0
  rw [hc0]
  generalize ((checkM S).2 : Int) = n0
  clear hc0
  by_cases hc : c0 = 0
  · subst hc
    have HP : Hid (prevM S za zb = if Pr.inN za S.rules.length then (if Pr.inN zb S.rules.length then (S.weighM za.toNat zb.toNat != 0, 0) else (false, 1)) else (false, 1)) := hide (by unfold prevM; rw [if_pos HC.out])
    go_upto_region 4 with fail
    by_cases hia : Pr.inN za S.rules.length = true
    · have CA := hide fun X : World => (Pr.within_any za S.rules.length X).mono (R' := fun e w' => e = .returned (.bool true) ∧ X = w') (fun e w' h => by rw [hia] at h; exact ⟨h.1, h.2.symm⟩)
      by_cases hib : Pr.inN zb S.rules.length = true
      · have CB := hide fun X : World => (Pr.within_any zb S.rules.length X).mono (R' := fun e w' => e = .returned (.bool true) ∧ X = w') (fun e w' h => by rw [hib] at h; exact ⟨h.1, h.2.symm⟩)
        go_wp2_with fail
        refine (CA.out _).mono ?_
        rintro _ _ ⟨rfl, rfl⟩
        clear CA
        go_wp2_with fail
        refine (CB.out _).mono ?_
        rintro _ _ ⟨rfl, rfl⟩
        clear CB
        go_wp2_with fail
        obtain ⟨o1, o2, o3, o4⟩ := ok_src HC.out
        have CJ := newJudge_any (HS.out w1 HB1.out) o1 o2 o4
        unfold St9.agg at CJ
        simp only at CJ
        refine CJ.mono ?_
        rintro _ w2 ⟨J, bR, bE, bA, nR, nE, rfl, hj, hbA, hb2⟩
        obtain ⟨ia0, ia1⟩ := Pr.inN_iff.1 hia
        obtain ⟨ib0, ib1⟩ := Pr.inN_iff.1 hib
        obtain ⟨a, rfl⟩ := Int.eq_ofNat_of_zero_le ia0
        obtain ⟨b, rfl⟩ := Int.eq_ofNat_of_zero_le ib0
        have HSz : Hid (w.heap.size ≤ w1.heap.size) := hide HB1.out.size
        have CP := hide (prevails_any hj (HS.out w1 HB1.out).rules hb2 (a := a) (b := b) (by omega) (by omega) l6)
        have HPP : Hid (prevM S a b = (S.weighM a b != 0, 0)) := hide (by rw [HP.out, if_pos hia, if_pos hib]; rfl)
        have HB2 := hide (HB1.out.trans (hb2.mono HB1.out.size))
        have HBA := hide hbA
        have HJL := hide hj.low
        clear CJ hj hb2 hbA HP k0 k1 k2 k3 k4 k5 c6 k7 k8 HX1 o1 o2 o3 o4
        go_wp2_with fail
        refine CP.out.mono ?_
        rintro _ w3 ⟨rfl, hf⟩
        have HB3 : Hid (Below w.heap.size w w3) := hide (HB2.out.trans (hf.below fun k hk => ⟨by have := HB2.out.size; omega, by have := HBA.out; have := HSz.out; omega⟩))
        clear hf CP
        go_wp2_with fail
        go_ret2
        exact ⟨by rw [HPP.out]; rfl, HB3.out⟩
      · have hib' : Pr.inN zb S.rules.length = false := by simpa using hib
        have CB := hide fun X : World => (Pr.within_any zb S.rules.length X).mono (R' := fun e w' => e = .returned (.bool false) ∧ X = w') (fun e w' h => by rw [hib'] at h; exact ⟨h.1, h.2.symm⟩)
        go_wp2_with fail
        refine (CA.out _).mono ?_
        rintro _ _ ⟨rfl, rfl⟩
        clear CA
        go_wp2_with fail
        refine (CB.out _).mono ?_
        rintro _ _ ⟨rfl, rfl⟩
        clear CB
        go_wp2_with fail
        go_ret2
        exact ⟨by rw [HP.out, if_pos hia, if_neg hib]; rfl, HB1.out⟩
    · have hia' : Pr.inN za S.rules.length = false := by simpa using hia
      have CA := hide fun X : World => (Pr.within_any za S.rules.length X).mono (R' := fun e w' => e = .returned (.bool false) ∧ X = w') (fun e w' h => by rw [hia'] at h; exact ⟨h.1, h.2.symm⟩)
      go_wp2_with fail
      refine (CA.out _).mono ?_
      rintro _ _ ⟨rfl, rfl⟩
      clear CA
      go_wp2_with fail
      go_ret2
      exact ⟨by rw [HP.out, if_neg hia]; rfl, HB1.out⟩
  · have HP : Hid (prevM S za zb = (false, c0)) := hide (by unfold prevM; rw [if_neg (by rw [HC.out]; exact hc), HC.out])
    have hcb : (c0 == 0) = false := by simpa using hc
    clear k0 k1 k2 k3 k4 k5 c6 k7 k8
    go_wp2_with fail
    go_ret2
    exact ⟨by rw [HP.out]; rfl, HB1.out⟩
end Go.Proofs.YtbdlgglbcaoakaaGreat
