/- The plain mathematics of numbers as bytes: seven bits a byte, how such bytes are read, how they are laid. No Go in sight. -/
import Derived.Laws.BitsAllLaws
import Derived.RowKit
namespace Go.Proofs.Ytagpdceaononkaa
open Go.RowKit

theorem and127 (c : Int) (h0 : 0 ≤ c) (h1 : c ≤ 255) : bits .and .u8 c 127 = c % 128 := by
  rw [u8_and c 127 h0 (by omega) (by omega) (by omega)]
  have : (127 : Int).toNat = 127 := rfl
  rw [this, nat_mask7]
  omega

theorem or128 (c : Int) (h0 : 0 ≤ c) (h1 : c ≤ 255) : bits .or .u8 c 128 = c % 128 + 128 := by
  obtain ⟨n, rfl⟩ := Int.eq_ofNat_of_zero_le h0
  have h : ∀ m, m < 256 → m ||| 128 = m % 128 + 128 := by decide +kernel
  rw [u8_or _ 128 h0 (by omega) (by omega) (by omega)]
  have : (128 : Int).toNat = 128 := rfl
  rw [this, Int.toNat_natCast, h n (by omega)]
  omega

theorem acc_step (acc d : Int) (k : Nat) (h0 : 0 ≤ acc) (h1 : acc < 2 ^ (7 * k)) (hd0 : 0 ≤ d) (hd1 : d ≤ 127) (hk : k < 9 ∨ (k = 9 ∧ d ≤ 1)) :
    bits .or .u64 acc (IntKind.u64.wrap (IntKind.u64.wrap d * 2 ^ (7 * k))) = acc + d * 2 ^ (7 * k) := by
  obtain ⟨a, rfl⟩ := Int.eq_ofNat_of_zero_le h0
  obtain ⟨x, rfl⟩ := Int.eq_ofNat_of_zero_le hd0
  have hx : x ≤ 127 := by omega
  have e1 : IntKind.u64.wrap (x : Int) = x := by rw [IntKind.wrap_u64]; omega
  have hlt : x * 2 ^ (7 * k) < 18446744073709551616 := by
    rcases hk with h | ⟨rfl, h⟩
    · have : 2 ^ (7 * k) ≤ 2 ^ 56 := Nat.pow_le_pow_right (by decide) (by omega)
      have : x * 2 ^ (7 * k) ≤ 127 * 2 ^ 56 := Nat.mul_le_mul hx this
      omega
    · have : x ≤ 1 := by omega
      have : x * 2 ^ (7 * 9) ≤ 1 * 2 ^ 63 := Nat.mul_le_mul this (by decide)
      omega
  have e2 : ((x : Int) * 2 ^ (7 * k)) = ((x * 2 ^ (7 * k) : Nat) : Int) := by simp
  have e3 : IntKind.u64.wrap ((x * 2 ^ (7 * k) : Nat) : Int) = ((x * 2 ^ (7 * k) : Nat) : Int) := by rw [IntKind.wrap_u64]; omega
  have ha : a < 2 ^ (7 * k) := by
    have : ((a : Nat) : Int) < ((2 ^ (7 * k) : Nat) : Int) := by simpa using h1
    omega
  have ha2 : a < 18446744073709551616 := by
    have : 2 ^ (7 * k) ≤ 2 ^ 63 := Nat.pow_le_pow_right (by decide) (by omega)
    omega
  rw [e1, e2, e3, u64_or_nat a _ ha2 hlt, Nat.or_comm, nat_join (7 * k) _ a (by simp) ha]
  omega

/-- Reading from a place on: k bytes are read, they make acc. -/
def rd (len p : Int) : Nat → Int → List Int → Int × Int × Int
  | _, _, [] => (0, len, 8)
  | k, acc, c :: r =>
    if k = 9 ∧ 1 < c then (0, p, 11)
    else if 128 ≤ c then rd len p (k + 1) (acc + c % 128 * 2 ^ (7 * k)) r
    else if c = 0 ∧ 0 < k then (0, p, 11)
    else (acc + c % 128 * 2 ^ (7 * k), p + k + 1, 0)

def readU (zs : List Int) (p : Int) : Int × Int × Int :=
  if p < 0 ∨ (zs.length : Int) < p then (0, p, 1) else rd zs.length p 0 0 (zs.drop p.toNat)

theorem acc_next (acc d : Int) (k : Nat) (h1 : acc < 2 ^ (7 * k)) (hd1 : d ≤ 127) : acc + d * 2 ^ (7 * k) < 2 ^ (7 * (k + 1)) := by
  have e : (2 : Int) ^ (7 * (k + 1)) = 128 * 2 ^ (7 * k) := by rw [Nat.mul_add, Int.pow_add]; omega
  have hp : (0 : Int) < 2 ^ (7 * k) := Int.pow_pos (by decide)
  have : d * 2 ^ (7 * k) ≤ 127 * 2 ^ (7 * k) := Int.mul_le_mul_of_nonneg_right hd1 (by omega)
  omega

theorem acc_pos (acc d : Int) (k : Nat) (h0 : 0 ≤ acc) (hd0 : 0 ≤ d) : 0 ≤ acc + d * 2 ^ (7 * k) := by
  have hp : (0 : Int) < 2 ^ (7 * k) := Int.pow_pos (by decide)
  have : 0 ≤ d * 2 ^ (7 * k) := Int.mul_nonneg hd0 (by omega)
  omega

theorem drop_cons (zs : List Int) (i : Nat) (h : i < zs.length) : zs.drop i = zs.getD i 0 :: zs.drop (i + 1) := by
  rw [List.drop_eq_getElem_cons h]; simp [List.getD, h]

end Go.Proofs.Ytagpdceaononkaa
