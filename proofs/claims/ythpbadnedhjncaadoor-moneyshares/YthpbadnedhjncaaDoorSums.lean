/- The document's May, Check, Compare, Clamp and Sum: what they answer. -/
import Derived.Test.YthpbadnedhjncaaDoorInts
namespace Go.Proofs.YthpbadnedhjncaaDoor
open Go.RowKit

/-- May an amount be? -/
def may (m : Int) : Bool := decide (-1000000000000000 ≤ m ∧ m ≤ 1000000000000000)

theorem may_yes {m : Int} (h : may m = true) : -1000000000000000 ≤ m ∧ m ≤ 1000000000000000 := of_decide_eq_true h
theorem may_no {m : Int} (h : may m = false) : m < -1000000000000000 ∨ 1000000000000000 < m := by have := of_decide_eq_false h; omega
theorem may_mk {m : Int} (h : -1000000000000000 ≤ m ∧ m ≤ 1000000000000000) : may m = true := decide_eq_true h
theorem may_not {m : Int} (h : m < -1000000000000000 ∨ 1000000000000000 < m) : may m = false := decide_eq_false (by omega)

theorem may_any (m : Int) (w : World) : Calls Tryd.prog 36 #[.int .i64 m] w fun e w' => e = .returned (.bool (may m)) ∧ w' = w := by
  by_cases h1 : -1000000000000000 ≤ m
  · by_cases h2 : m ≤ 1000000000000000
    · have HM := hide (may_mk ⟨h1, h2⟩)
      go_enter Tryd.func36, Tryd.ntmps36
      go_wp2
      go_ret
      exact ⟨ret_bool (by rw [HM.out]), rfl⟩
    · have HM := hide (may_not (m := m) (by omega))
      have h3 : decide (m ≤ 1000000000000000) = false := decide_eq_false h2
      go_enter Tryd.func36, Tryd.ntmps36
      go_wp2
      go_ret
      exact ⟨ret_bool (by rw [HM.out]), rfl⟩
  · have HM := hide (may_not (m := m) (by omega))
    have h3 : decide (-1000000000000000 ≤ m) = false := decide_eq_false h1
    go_enter Tryd.func36, Tryd.ntmps36
    go_wp2
    go_ret
    exact ⟨ret_bool (by rw [HM.out]), rfl⟩

/-- An amount and an error. -/
def pairV (r : Int × Int) : Value := .tuple #[.int .i64 r.1, .int .i64 r.2]

theorem ret_pair {x e : Int} {r : Int × Int} (h : r = (x, e)) : Ending.returned (.tuple #[.int .i64 x, .int .i64 e]) = .returned (pairV r) := by rw [h]; rfl

/-- P2.2: the exact sum. -/
def sumM (l : List Int) : Int × Int := if (∀ z ∈ l, may z = true) ∧ may l.sum = true then (l.sum, 0) else (0, 22)

theorem sumM_bad {l : List Int} {c : Int} (hc : c ∈ l) (h : may c = false) : sumM l = (0, 22) := by
  unfold sumM; rw [if_neg (fun hh => by rw [hh.1 c hc] at h; cases h)]

theorem sumM_over {l : List Int} (h : may l.sum = false) : sumM l = (0, 22) := by
  unfold sumM; rw [if_neg (fun hh => by rw [hh.2] at h; cases h)]

theorem sumM_ok {l : List Int} (h0 : ∀ z ∈ l, may z = true) (h : may l.sum = true) : sumM l = (l.sum, 0) := by
  unfold sumM; rw [if_pos ⟨h0, h⟩]

theorem tdiv_parts (c B : Int) (h : -B ≤ c ∧ c ≤ B) : ∃ p q : Int, c.tdiv 1000000000 = p ∧ c.tmod 1000000000 = q ∧ p * 1000000000 + q = c ∧ -(B / 1000000000) ≤ p ∧ p ≤ B / 1000000000 ∧ -999999999 ≤ q ∧ q ≤ 999999999 := by
  rcases Int.le_total 0 c with hc | hc
  · have e1 : c.tdiv 1000000000 = c / 1000000000 := Int.tdiv_eq_ediv_of_nonneg hc
    have e2 : c.tmod 1000000000 = c % 1000000000 := Int.tmod_eq_emod_of_nonneg hc
    exact ⟨_, _, e1, e2, by omega, by omega, by omega, by omega, by omega⟩
  · have e1 : c.tdiv 1000000000 = -((-c) / 1000000000) := by
      have h1 : (-(-c)).tdiv 1000000000 = -((-c).tdiv 1000000000) := Int.neg_tdiv _ _
      rwa [Int.neg_neg, Int.tdiv_eq_ediv_of_nonneg (a := -c) (by omega)] at h1
    have e2 : c.tmod 1000000000 = -((-c) % 1000000000) := by
      have h1 : (-(-c)).tmod 1000000000 = -((-c).tmod 1000000000) := Int.neg_tmod _ _
      rwa [Int.neg_neg, Int.tmod_eq_emod_of_nonneg (a := -c) (by omega)] at h1
    exact ⟨_, _, e1, e2, by omega, by omega, by omega, by omega, by omega⟩

theorem sum_take_snoc {zs : List Int} {k : Nat} {c : Int} (h : zs.take (k + 1) = zs.take k ++ [c]) : (zs.take (k + 1)).sum = (zs.take k).sum + c := by
  rw [h, List.sum_append]; simp

set_option maxHeartbeats 1000000 in
theorem refSumM_any (a : Option Addr) (len cap : Nat) (zs : List Int) (w : World) (hl : zs.length = len) (hlen : len ≤ 1048576) (h : Nums .i64 w a zs) :
    Calls Tryd.prog 23 #[.slice a len cap] w fun e w' => e = .returned (pairV (sumM zs)) ∧ w' = w := by
  have HL := hide hl
  have HR := hide h
  clear hl h
  go_enter Tryd.func23, Tryd.ntmps23
  go_wp2
  go_loop [4, 5, 6] (fun x y i => ∃ (k : Nat) (hi lo : Int), k ≤ len ∧ i = .int .i64 k ∧ x = .int .i64 hi ∧ y = .int .i64 lo ∧ -(1000000 * (k : Int)) ≤ hi ∧ hi ≤ 1000000 * (k : Int) ∧ -(1000000000 * (k : Int)) ≤ lo ∧ lo ≤ 1000000000 * (k : Int) ∧ Hid (hi * 1000000000 + lo = (zs.take k).sum) ∧ Hid (∀ z ∈ zs.take k, may z = true)) (fun _ _ i => len - (intOf i).toNat)
  case atStart => exact ⟨0, 0, 0, by omega, rfl, rfl, rfl, by omega, by omega, by omega, by omega, by simp [Hid], by simp [Hid]⟩
  case round =>
    obtain ⟨k, hi, lo, hk, rfl, rfl, rfl, hh1, hh2, hl1, hl2, HS, HM⟩ := hrel
    by_cases hlt : k < len
    · obtain ⟨b, off, c, ha, hcx, HT, HC, HI⟩ := Nums.get HR.out HL.out (Below.refl w.heap.size w) hlt
      subst ha
      cases hm : may c with
      | false =>
        have HB := hide (sumM_bad HI.out hm)
        have CM := hide (fun w => may_any c w)
        rw [hm] at CM
        clear hm
        go_wp2_with (go_at_call 36; refine (CM.out _).mono ?_; rintro e w' ⟨rfl, rfl⟩)
        go_ret2
        exact ⟨ret_pair HB.out, rfl⟩
      | true =>
        have CM := hide (fun w => may_any c w)
        rw [hm] at CM
        have hb := may_yes hm
        obtain ⟨p, q, hp, hq, hpq, hp1, hp2, hq1, hq2⟩ := tdiv_parts c 1000000000000000 hb
        have HPQ := hide hpq
        have HN := hide (sum_take_snoc HT.out)
        have HA : Hid (∀ z ∈ zs.take (k + 1), may z = true) := by
          intro z hz
          rw [HT.out] at hz
          rcases List.mem_append.1 hz with h | h
          · exact HM.out z h
          · simp at h; rw [h]; exact hm
        clear hpq hm
        go_wp2_with (go_at_call 36; refine (CM.out _).mono ?_; rintro e w' ⟨rfl, rfl⟩)
        go_round
        case rel => exact ⟨k + 1, hi + p, lo + q, by omega, by go_num, rfl, rfl, by omega, by omega, by omega, by omega, by have h1 := HS.out; have h2 := HPQ.out; unfold Hid; rw [HN.out]; omega, HA⟩
        case measure => simp [intOf]; omega
    · have hke : k = len := by omega
      have HE : Hid (hi * 1000000000 + lo = zs.sum) := by have := HS.out; rwa [List.take_of_length_le (by rw [HL.out]; omega)] at this
      have HMa : Hid (∀ z ∈ zs, may z = true) := by have := HM.out; rwa [List.take_of_length_le (by rw [HL.out]; omega)] at this
      obtain ⟨p, q, hp, hq, hpq, hp1, hp2, hq1, hq2⟩ := tdiv_parts lo 1048576000000000 (by omega)
      have HPQ := hide hpq
      clear hpq hke
      by_cases ho1 : 2000000 < hi + p
      · have HB := hide (sumM_over (l := zs) (may_not (by have h1 := HE.out; have h2 := HPQ.out; omega)))
        go_wp2_with fail
        go_ret2
        exact ⟨ret_pair HB.out, rfl⟩
      · by_cases ho2 : hi + p < -2000000
        · have HB := hide (sumM_over (l := zs) (may_not (by have h1 := HE.out; have h2 := HPQ.out; omega)))
          go_wp2_with fail
          go_ret2
          exact ⟨ret_pair HB.out, rfl⟩
        · have HV : Hid ((hi + p) * 1000000000 + q = zs.sum) := by have h1 := HE.out; have h2 := HPQ.out; unfold Hid; omega
          have ho2b : decide (hi + p < -2000000) = false := decide_eq_false ho2
          have ho1b : decide (2000000 < hi + p) = false := decide_eq_false ho1
          have CM := hide (fun w => may_any ((hi + p) * 1000000000 + q) w)
          cases hm : may ((hi + p) * 1000000000 + q) with
          | false =>
            have HB := hide (sumM_over (l := zs) (by rw [← HV.out]; exact hm))
            rw [hm] at CM
            clear hm
            go_wp2_with (go_at_call 36; refine (CM.out _).mono ?_; rintro e w' ⟨rfl, rfl⟩)
            go_ret2
            exact ⟨ret_pair HB.out, rfl⟩
          | true =>
            have HB := hide (sumM_ok HMa.out (by rw [← HV.out]; exact hm))
            rw [hm] at CM
            clear hm
            go_wp2_with (go_at_call 36; refine (CM.out _).mono ?_; rintro e w' ⟨rfl, rfl⟩)
            go_ret2
            exact ⟨ret_pair (by rw [HB.out, HV.out]), rfl⟩

end Go.Proofs.YthpbadnedhjncaaDoor
