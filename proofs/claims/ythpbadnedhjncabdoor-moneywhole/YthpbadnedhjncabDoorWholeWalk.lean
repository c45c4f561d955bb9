/- MoneyWhole, walked: whatever amount and weights, it returns true. -/
import Derived.Test.YthpbadnedhjncabDoorShareAny
import Derived.Test.YthpbadnedhjncabDoorSumsWalk
import Derived.Test.YthpbadnedhjncabDoorNotLost
import Derived.BigQuiet
import Derived.Deep.QuietTactic
namespace Go.Proofs.YthpbadnedhjncabDoor
open Go.RowKit

theorem drewN_below (w : World) (m B : Nat) : Below B w (w.drewN m) := ⟨rfl, rfl, rfl, Nat.le_refl _, fun _ _ => rfl⟩

theorem mem_getD {l : List Int} {z : Int} (h : z ∈ l) : ∃ i, i < l.length ∧ l.getD i 0 = z := by
  obtain ⟨i, hi, e⟩ := List.mem_iff_getElem.1 h
  exact ⟨i, hi, by simp [List.getD, hi, e]⟩

theorem shareErr_ok {t : Int} {zs : List Int} (he : shareErr t zs = 0) : 0 ≤ t ∧ t ≤ 1000000000000000 ∧ zs.length ≤ 4096 ∧ 1 ≤ zs.sum ∧ (∀ z ∈ zs, fitW z) := by
  unfold shareErr at he
  split at he
  · cases he
  · split at he
    · cases he
    · split at he
      · cases he
      · split at he
        · cases he
        · rename_i h1 h2 h3 h4
          have h3' : ∀ z ∈ zs, fitW z := Classical.not_not.1 h3
          have := sum_nonneg zs h3'
          have hm : may t = true := by
            cases h : may t with
            | true => rfl
            | false => exact absurd (.inr h) h1
          have := may_yes hm
          exact ⟨by omega, by omega, by omega, by omega, h3'⟩

theorem parts_sum {t : Int} {zs ps : List Int} (h : Whole t zs ps) (ht : t ≤ 1000000000000000) (ht0 : 0 ≤ t) : sumM ps = (t, 0) ∧ (∀ z ∈ ps, 0 ≤ z ∧ z ≤ t) := by
  have h0 : ∀ z ∈ ps, 0 ≤ z := fun z hz => by
    obtain ⟨i, hi, rfl⟩ := mem_getD hz
    exact h.low i (by rw [← h.len]; exact hi)
  have hle : ∀ l : List Int, (∀ z ∈ l, 0 ≤ z) → 0 ≤ l.sum ∧ ∀ z ∈ l, z ≤ l.sum := by
    intro l
    induction l with
    | nil => intro _; simp
    | cons a l ih =>
      intro hl
      have := ih (fun z hz => hl z (by simp [hz]))
      have h1 := hl a (by simp)
      rw [List.sum_cons]
      refine ⟨by omega, fun z hz => ?_⟩
      rcases List.mem_cons.1 hz with rfl | hz
      · omega
      · have := this.2 z hz; omega
  have hb := (hle ps h0).2
  rw [h.sum] at hb
  refine ⟨?_, fun z hz => ⟨h0 z hz, hb z hz⟩⟩
  rw [sumM_ok, h.sum]
  · intro z hz; have := h0 z hz; have := hb z hz; unfold may; simp; omega
  · rw [h.sum]; unfold may; simp; omega

set_option maxRecDepth 100000 in
set_option maxHeartbeats 4000000 in
theorem whole_walk (t : Int) (a : Option Addr) (len cap : Nat) (zs : List Int) (w : World) (hl : zs.length = len) (h : Nums .i64 w a zs) (ht : Tab w) :
    Calls Tryd.prog 4 #[.int .i64 t, .slice a len cap] w fun e w' => e = .returned (.bool true) ∧ Below w.heap.size w w' := by
  have CW := hide works_any
  have HT := hide ht
  have HR := hide h
  have HL := hide hl
  clear ht h hl
  by_cases hse : shareErr t zs = 0
  · obtain ⟨ht0, ht1, hlen, hs1, hfw⟩ := shareErr_ok hse
    rw [HL.out] at hlen
    have HM : Hid (shareM t zs = shareOut t zs) := by unfold Hid shareM; rw [if_pos hse]
    have HWh := hide (whole_of ht0 hs1 hfw)
    obtain ⟨ps, hps⟩ : ∃ ps, shareOut t zs = ps := ⟨_, rfl⟩
    rw [hps] at HM HWh
    have HSum := hide (parts_sum HWh.out ht1 ht0)
    have HPL : Hid (ps.length = len) := by unfold Hid; rw [HWh.out.len]; exact HL.out
    have HE := hide hse
    clear hps hs1 hfw hse
    go_enter Tryd.func4, Tryd.ntmps4
    go_wp2_with fail
    refine (CW.out _ HT.out).mono ?_
    rintro _ w1 ⟨rfl, hb1⟩
    have CS := hide (share_any t a len cap zs w1 HL.out (HR.out.below hb1 (Nat.le_refl _)))
    go_wp2_with fail
    refine CS.out.mono ?_
    rintro _ w2 ⟨x2, n2, cx2, rfl, hn2', _, ho2, hb2⟩
    have hn2 : n2 = len := by rw [hn2', HM.out]; exact HPL.out
    clear hn2'
    subst hn2
    rw [HM.out] at ho2
    rw [HE.out]
    have HB2 : Hid (Below w.heap.size w w2) := hb1.trans (hb2.mono hb1.size)
    have HR2 := hide (HR.out.below HB2.out (Nat.le_refl _))
    have HN2 := hide (nums_of_own ho2)
    have CSum := hide (sum_any x2 n2 cx2 ps w2 HPL.out (by omega) HN2.out)
    rw [HSum.out.1] at CSum
    clear CS ho2 hb1 hb2
    go_wp2_with fail
    refine CSum.out.mono ?_
    rintro _ w3 ⟨rfl, hww⟩
    subst w3
    unfold pairV
    clear CSum
    go_wp2_with fail
    go_loop [9] (fun i => ∃ k : Nat, k ≤ n2 ∧ i = .int .i64 k) (fun i => n2 - (intOf i).toNat)
    case atStart => exact ⟨0, Nat.zero_le _, rfl⟩
    case round =>
      obtain ⟨k, hk, rfl⟩ := hrel
      by_cases hlt : k < n2
      · obtain ⟨b1, o1, c1, ha1, hc1, _, HC1, HI1⟩ := Nums.get HN2.out HPL.out (Below.refl w2.heap.size w2) hlt
        obtain ⟨b2, o2, c2, ha2, hc2, _, HC2, _⟩ := Nums.get HR2.out HL.out (Below.refl w2.heap.size w2) hlt
        have h10 : 0 ≤ c1 := (HSum.out.2 c1 HI1.out).1
        subst ha1
        subst ha2
        by_cases hz : c2 = 0
        · have hc0 : c1 = 0 := by
            have h := HWh.out.zero k (by rw [HL.out]; exact hlt) (by rw [← HC2.out]; exact hz)
            rw [HC1.out]; exact h
          subst hz
          subst hc0
          go_wp2_with fail
          go_round
          case rel => exact ⟨k + 1, by omega, by go_num⟩
          case measure => simp [intOf]; omega
        · have hz' : (c2 == 0) = false := by simp [hz]
          go_wp2_with fail
          go_round
          case rel => exact ⟨k + 1, by omega, by go_num⟩
          case measure => simp [intOf]; omega
      · have hke : k = n2 := by omega
        subst hke
        clear hlt hk
        go_wp2_with fail
        go_loopw [10] (fun i wr => ∃ i0 : Nat, i0 ≤ k ∧ i = .int .i64 i0 ∧ Below w2.heap.size w2 wr) (fun i _ => k - (intOf i).toNat)
        case atStart => exact ⟨0, Nat.zero_le _, rfl, Below.refl _ _⟩
        case round =>
          obtain ⟨i0, hi0, rfl, hbel⟩ := hrel
          by_cases hlt : i0 < k
          · by_cases h64 : i0 < 64
            · go_wp2_with fail
              go_loopw [11] (fun j wx => ∃ k0 : Nat, k0 ≤ i0 ∧ j = .int .i64 k0 ∧ Below w2.heap.size w2 wx) (fun j _ => i0 - (intOf j).toNat)
              case atStart => exact ⟨0, Nat.zero_le _, rfl, hbel⟩
              case round =>
                obtain ⟨k0, hk0, rfl, hbel2⟩ := hrel
                by_cases hlt2 : k0 < i0
                · obtain ⟨b1, o1, li, ha1, hc1, _, HC1, HI1⟩ := Nums.get HN2.out HPL.out hbel2 (show i0 < k by omega)
                  obtain ⟨b2, o2, lk, ha2, hc2, _, HC2, HI2⟩ := Nums.get HN2.out HPL.out hbel2 (show k0 < k by omega)
                  obtain ⟨b3, o3, wi, ha3, hc3, _, HC3, _⟩ := Nums.get HR2.out HL.out hbel2 (show i0 < k by omega)
                  obtain ⟨b4, o4, wk, ha4, hc4, _, HC4, _⟩ := Nums.get HR2.out HL.out hbel2 (show k0 < k by omega)
                  have hli := HSum.out.2 li HI1.out
                  have hlk := HSum.out.2 lk HI2.out
                  subst ha1
                  simp only [Option.some.injEq, Addr.mk.injEq, and_true] at ha2
                  obtain ⟨rfl, rfl⟩ := ha2
                  subst ha3
                  simp only [Option.some.injEq, Addr.mk.injEq, and_true] at ha4
                  obtain ⟨rfl, rfl⟩ := ha4
                  rcases Int.lt_trichotomy wi wk with hw | hw | hw
                  · have hle : li ≤ lk := by
                      have h := HWh.out.more k0 i0 (by rw [HL.out]; omega) (by rw [HL.out]; omega) (by rw [← HC3.out, ← HC4.out]; exact hw)
                      rw [HC1.out, HC2.out]; exact h
                    have d1 : (wi == wk) = false := by simp; omega
                    have d2 : decide (wk < wi) = false := by simp; omega
                    have d3 : decide (wi < wk) = true := by simpa using hw
                    have d4 : decide (lk < li) = false := by simp; omega
                    clear hw
                    go_wp2_with fail
                    go_quiet (fail)
                    go_wp2_with fail
                    go_quiet (fail)
                    go_wp2_with fail
                    go_roundw
                    case rel => exact ⟨k0 + 1, by omega, by go_num, hbel2.trans (drewN_below _ _ _)⟩
                    case measure => simp [intOf]; omega
                  · have hsm := HWh.out.same i0 k0 (by rw [HL.out]; omega) hlt2 (by rw [← HC3.out, ← HC4.out]; exact hw)
                    rw [← HC1.out, ← HC2.out] at hsm
                    subst hw
                    obtain ⟨dd, hdd⟩ : ∃ dd, IntKind.i64.wrap (lk - li) = dd := ⟨_, rfl⟩
                    have d1 : decide (lk < li) = false := by simp; omega
                    have d2 : decide (1 < dd) = false := by rw [← hdd, IntKind.wrap_i64]; simp; omega
                    clear hsm
                    go_wp2_with fail
                    go_quiet (fail)
                    go_wp2_with fail
                    go_quiet (fail)
                    go_wp2_with fail
                    go_roundw
                    case rel => exact ⟨k0 + 1, by omega, by go_num, hbel2.trans (drewN_below _ _ _)⟩
                    case measure => simp [intOf]; omega
                  · have hle : lk ≤ li := by
                      have h := HWh.out.more i0 k0 (by rw [HL.out]; omega) (by rw [HL.out]; omega) (by rw [← HC3.out, ← HC4.out]; exact hw)
                      rw [HC1.out, HC2.out]; exact h
                    have d1 : (wi == wk) = false := by simp; omega
                    have d2 : decide (wk < wi) = true := by simpa using hw
                    have d3 : decide (wi < wk) = false := by simp; omega
                    have d4 : decide (li < lk) = false := by simp; omega
                    clear hw
                    go_wp2_with fail
                    go_quiet (fail)
                    go_wp2_with fail
                    go_quiet (fail)
                    go_wp2_with fail
                    go_roundw
                    case rel => exact ⟨k0 + 1, by omega, by go_num, hbel2.trans (drewN_below _ _ _)⟩
                    case measure => simp [intOf]; omega
                · go_wp2_with fail
                  go_roundw
                  case rel => exact ⟨i0 + 1, by omega, by go_num, hbel2⟩
                  case measure => simp [intOf]; omega
            · go_wp2_with fail
              go_ret
              exact ⟨rfl, HB2.out.trans (hbel.mono HB2.out.size)⟩
          · go_wp2_with fail
            go_ret
            exact ⟨rfl, HB2.out.trans (hbel.mono HB2.out.size)⟩
  · have HM : Hid (shareM t zs = []) := by unfold Hid shareM; rw [if_neg hse]
    have hsb : (shareErr t zs == 0) = false := by simp [hse]
    go_enter Tryd.func4, Tryd.ntmps4
    go_wp2_with fail
    refine (CW.out _ HT.out).mono ?_
    rintro _ w1 ⟨rfl, hb1⟩
    have CS := hide (share_any t a len cap zs w1 HL.out (HR.out.below hb1 (Nat.le_refl _)))
    go_wp2_with fail
    refine CS.out.mono ?_
    rintro _ w2 ⟨x2, n2, cx2, rfl, hn2', _, _, hb2⟩
    have hn2 : n2 = 0 := by rw [hn2', HM.out]; rfl
    clear hn2'
    subst hn2
    generalize shareErr t zs = se at *
    go_wp2_with fail
    go_ret
    exact ⟨rfl, hb1.trans (hb2.mono hb1.size)⟩

end Go.Proofs.YthpbadnedhjncabDoor
