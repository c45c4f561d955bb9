/- A heap in memory: up, down, Push, Pop. -/
import Derived.Test.YtjaffhajehcnpaaHps
namespace Go.Proofs.Ytjaffhajehcnpaa
open Go.RowKit

set_option maxRecDepth 100000 in
set_option maxHeartbeats 6400000 in
theorem up_any {B hb : Nat} {hv : Value} {l : List Int} {w : World} {j : Nat} (h : Hq B hb hv l w) (hu : UpI l j) (hl : l.length ≤ 1048577) :
    Calls Try.prog 29 #[rdy hb, .int .i64 j] w fun e w' => e = .returned (.tuple #[]) ∧ ∃ l', l'.Perm l ∧ Hpl l' l'.length ∧ Hq B hb hv l' w' ∧ Hf hb hv hv w w' := by
  have H0 := hide h
  have HU := hide hu
  have hj0 : j < 1048577 := Nat.lt_of_lt_of_le hu.1 hl
  clear h hu
  go_enter Try.func29, Try.ntmps29
  go_wp2_with fail
  go_loopw [1] (fun x wr => ∃ (l' : List Int) (j : Nat), j < 1048577 ∧ x = .int .i64 j ∧ Hid (l'.Perm l) ∧ Hid (UpI l' j) ∧ Hid (Hq B hb hv l' wr) ∧ Hid (Hf hb hv hv w wr)) (fun x _ => (intOf x).toNat)
  case atStart => exact ⟨l, j, hj0, rfl, hide (List.Perm.refl _), HU, H0, hide (Hf.refl _ _ _)⟩
  case round =>
    clear H0 HU hj0
    obtain ⟨l', j, hj, rfl, HP, HU, HQ, HF⟩ := hrel
    by_cases hz : j = 0
    · subst hz
      have HD := hide (up_done HU.out (.inl rfl))
      clear HU
      go_wp2_with fail
      go_end0
      exact ⟨rfl, l', HP.out, HD.out, HQ.out, HF.out⟩
    · obtain ⟨p, hp⟩ : ∃ p, (j - 1) / 2 = p := ⟨_, rfl⟩
      have hjl : j < l'.length := HU.out.1
      have hpl : p < l'.length := by omega
      have hpj : p < j := by omega
      have e1 : ((j : Int) - 1) / 2 = (p : Int) := by omega
      have hbb : ((p : Int) == (j : Int)) = false := beq_eq_false_iff_ne.2 (by omega)
      obtain ⟨g, c, hhv, hcell, hfz⟩ := HQ.out.at hjl
      have c0 := HQ.out.bx.get (i := 0) rfl
      rw [hhv] at c0
      have hx := hcell j hjl
      have hy := hcell p hpl
      have hm1 := m_less c0
      have HSW := hide ((hhv ▸ HQ.out : Hq B hb (.slice (some ⟨g, 0, none⟩) l'.length c) l' wr).swap (i := p) (j := j))
      have HUS : Hid (l'.getD j 0 < l'.getD p 0 → UpI (swp l' p j) p) := hide (by rw [← hp]; exact up_step HU.out (by omega))
      have HUD : Hid (¬ l'.getD j 0 < l'.getD p 0 → Hpl l' l'.length) := hide (fun hn => up_done HU.out (.inr (by rw [hp]; omega)))
      have HPS := hide ((swp_perm hpl hjl).trans HP.out)
      obtain ⟨n, hn⟩ : ∃ n, l'.length = n := ⟨_, rfl⟩
      rw [hn] at hjl hpl c0 hm1 HSW hhv
      have HV := hide hhv
      have HN := hide hn
      clear hcell HU hp hn hhv
      generalize l'.getD j 0 = x at *
      generalize l'.getD p 0 = y at *
      have hmS := fun q => m_swap (w := wr.drewN q) c0
      go_upto_region 1 with fail
      rw [e1]
      clear e1
      by_cases hlt : x < y
      · have HU2 := hide (HUS.out hlt)
        clear HUS HUD
        have hdl : decide (x < y) = true := decide_eq_true hlt
        go_upto_region 2 with (go_at_call 47; refine (less_any hjl hpl hx hy).mono ?_; rintro e w1 ⟨rfl, q, hw1⟩; subst w1)
        go_upto_region 3 with (go_at_call 51; refine (swap_any (w := wr.drewN q) hpl hjl hy hx hfz).mono ?_; rintro e w2 ⟨rfl, hw2⟩; have HW2 := hide hw2; clear hw2)
        have HQ2 : Hid (Hq B hb hv (swp l' p j) w2) := hide (by rw [HW2.out, HV.out]; exact HSW.out.1.keep fun _ _ => rfl)
        have HF2 : Hid (Hf hb hv hv w w2) := hide (HF.out.trans ⟨by
          have := HSW.out.2
          rw [HW2.out]
          exact ⟨this.os, this.tape, this.output, this.size, fun k hk hz => this.block k hk fun e => hz (.inr (by rw [HV.out, e]; rfl))⟩, .inl rfl⟩)
        clear HW2 HQ HF HSW hm1 hmS hx hy c0 hfz
        go_wp2_with fail
        go_roundw
        case rel => exact ⟨_, p, by omega, rfl, HPS, HU2, HQ2, HF2⟩
        case measure => simp [intOf]; omega
      · have HD := hide (HUD.out hlt)
        clear HUS HUD
        have hdl : decide (x < y) = false := decide_eq_false hlt
        go_wp2_with (go_at_call 47; refine (less_any hjl hpl hx hy).mono ?_; rintro e w1 ⟨rfl, q, hw1⟩; subst w1)
        go_end0
        exact ⟨rfl, l', HP.out, HD.out, HQ.out.drew q, HF.out.trans ⟨Fr.of_below (below_drewN wr q), .inl rfl⟩⟩
end Go.Proofs.Ytjaffhajehcnpaa
