/- The plain mathematics of a division of two words by one (schoolbook, by halves of words). No Go in sight. -/
import Derived.RowKit
namespace Go.Proofs.YthpbadnedhjncaaDoor

/-- A guess q of the digit, with its rest r: not too small. -/
def Knu (y1 y0 u u1 q r : Nat) : Prop := q * y1 + r = u ∧ (u * 4294967296 + u1) / (y1 * 4294967296 + y0) ≤ q

theorem knu_first (y1 y0 u u1 : Nat) (h1 : 0 < y1) (hu1 : u1 < 4294967296) : Knu y1 y0 u u1 (u / y1) (u % y1) := by
  refine ⟨by rw [Nat.mul_comm]; exact Nat.div_add_mod u y1, ?_⟩
  have hq : (u * 4294967296 + u1) / (y1 * 4294967296 + y0) * (y1 * 4294967296 + y0) ≤ u * 4294967296 + u1 := Nat.div_mul_le_self _ _
  generalize (u * 4294967296 + u1) / (y1 * 4294967296 + y0) = q at *
  have e : q * (y1 * 4294967296 + y0) = (q * y1) * 4294967296 + q * y0 := by rw [Nat.mul_add, Nat.mul_assoc]
  rw [e] at hq
  rw [Nat.le_div_iff_mul_le h1]
  omega

theorem knu_bound (y1 y0 u : Nat) (h1 : 2147483648 ≤ y1) (h0 : y0 < 4294967296) (hu : u < y1 * 4294967296 + y0) : u / y1 ≤ 4294967297 := by
  have : u / y1 < 4294967298 := by
    rw [Nat.div_lt_iff_lt_mul (by omega)]
    omega
  omega

theorem knu_digit (y1 y0 u u1 : Nat) (hu1 : u1 < 4294967296) (hu : u < y1 * 4294967296 + y0) : (u * 4294967296 + u1) / (y1 * 4294967296 + y0) < 4294967296 := by
  rw [Nat.div_lt_iff_lt_mul (by omega)]
  omega

theorem knu_step {y1 y0 u u1 q r : Nat} (hu1 : u1 < 4294967296) (hu : u < y1 * 4294967296 + y0) (h : Knu y1 y0 u u1 q r) (hc : 4294967296 ≤ q ∨ 4294967296 * r + u1 < q * y0) :
    1 ≤ q ∧ Knu y1 y0 u u1 (q - 1) (r + y1) := by
  have hd := knu_digit y1 y0 u u1 hu1 hu
  obtain ⟨e, hq⟩ := h
  have hlt : (u * 4294967296 + u1) / (y1 * 4294967296 + y0) < q := by
    rcases hc with hc | hc
    · omega
    · rw [Nat.div_lt_iff_lt_mul (by omega)]
      have e2 : q * (y1 * 4294967296 + y0) = (q * y1) * 4294967296 + q * y0 := by rw [Nat.mul_add, Nat.mul_assoc]
      rw [e2]; omega
  have h1 : 1 ≤ q := Nat.lt_of_le_of_lt (Nat.zero_le _) hlt
  refine ⟨h1, ?_, Nat.le_sub_one_of_lt hlt⟩
  obtain ⟨k, rfl⟩ : ∃ k, q = k + 1 := ⟨q - 1, by omega⟩
  rw [Nat.add_sub_cancel]
  rw [Nat.succ_mul] at e
  omega

theorem knu_end {y1 y0 u u1 q r : Nat} (hu : u < y1 * 4294967296 + y0) (h : Knu y1 y0 u u1 q r) (hc : q * y0 ≤ 4294967296 * r + u1) :
    q = (u * 4294967296 + u1) / (y1 * 4294967296 + y0) := by
  obtain ⟨e, hq⟩ := h
  refine Nat.le_antisymm ?_ hq
  rw [Nat.le_div_iff_mul_le (by omega)]
  have e2 : q * (y1 * 4294967296 + y0) = (q * y1) * 4294967296 + q * y0 := by rw [Nat.mul_add, Nat.mul_assoc]
  rw [e2]; omega

theorem knu_break {y1 y0 u u1 q r : Nat} (h0 : y0 < 4294967296) (hu : u < y1 * 4294967296 + y0) (h : Knu y1 y0 u u1 q r) (hq : q ≤ 4294967296) (hr : 4294967296 ≤ r) :
    q = (u * 4294967296 + u1) / (y1 * 4294967296 + y0) := by
  refine knu_end hu h ?_
  have : q * y0 ≤ 4294967296 * y0 := Nat.mul_le_mul_right _ hq
  omega

/-- Two digits, one behind the other, are the whole quotient. -/
theorem two_digits (u u1 u0 y : Nat) (hy : 0 < y) :
    (u * 4294967296 + u1) / y * 4294967296 + ((u * 4294967296 + u1) % y * 4294967296 + u0) / y = (u * 18446744073709551616 + (u1 * 4294967296 + u0)) / y ∧
      ((u * 4294967296 + u1) % y * 4294967296 + u0) % y = (u * 18446744073709551616 + (u1 * 4294967296 + u0)) % y := by
  have main : ∀ q r : Nat, y * q + r = u * 4294967296 + u1 → q * 4294967296 + (r * 4294967296 + u0) / y = (u * 18446744073709551616 + (u1 * 4294967296 + u0)) / y ∧
      (r * 4294967296 + u0) % y = (u * 18446744073709551616 + (u1 * 4294967296 + u0)) % y := by
    intro q r e
    have t : y * (q * 4294967296) = (y * q) * 4294967296 := (Nat.mul_assoc _ _ _).symm
    have k : u * 18446744073709551616 + (u1 * 4294967296 + u0) = (r * 4294967296 + u0) + y * (q * 4294967296) := by
      rw [t]; omega
    rw [k]
    refine ⟨?_, ?_⟩
    · rw [Nat.add_mul_div_left _ _ hy, Nat.add_comm]
    · rw [Nat.add_mul_mod_self_left]
  exact main _ _ (Nat.div_add_mod _ y)

/-- Moved up by some bits: the same quotient, the rest moved. -/
theorem moved_div (n y k : Nat) (hk : 0 < k) : (n * k) / (y * k) = n / y ∧ (n * k) % (y * k) / k = n % y := by
  refine ⟨Nat.mul_div_mul_right _ _ hk, ?_⟩
  rw [Nat.mul_mod_mul_right]
  exact Nat.mul_div_cancel _ hk

#print axioms two_digits
end Go.Proofs.YthpbadnedhjncaaDoor
