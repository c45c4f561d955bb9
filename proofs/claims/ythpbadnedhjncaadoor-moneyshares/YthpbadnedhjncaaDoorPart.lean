/- The document's part: a product divided, bit by bit: it answers the quotient and the rest. -/
import Derived.Test.YthpbadnedhjncaaDoorSums
import Derived.Laws.BitsAllLaws
namespace Go.Proofs.YthpbadnedhjncaaDoor
open Go.RowKit

theorem i64_and_nat (a b : Nat) (ha : a < 9223372036854775808) (hb : b < 9223372036854775808) : bits .and .i64 (a : Int) (b : Int) = ((a &&& b : Nat) : Int) := by
  have hx : a &&& b < 2 ^ 63 := Nat.and_lt_two_pow _ (by omega)
  show IntKind.i64.wrap ((BitVec.ofInt 64 (a : Int) &&& BitVec.ofInt 64 (b : Int)).toNat : Int) = _
  rw [BitVec.toNat_and, ofInt_u64 a (by omega), ofInt_u64 b (by omega)]
  generalize a &&& b = x at hx
  simp only [IntKind.wrap, IntKind.bits, IntKind.signed]
  simp
  omega

/-- k bits are still to come. -/
structure PartInv (t w s : Nat) (k : Nat) (q r : Int) : Prop where
  eq : q * s + r = ((t / 2 ^ k : Nat) : Int) * w
  r0 : 0 ≤ r
  r1 : r < s
  q0 : 0 ≤ q

theorem PartInv.qle {t w s k : Nat} {q r : Int} (h : PartInv t w s k q r) (hw : w ≤ s) (hs : 1 ≤ s) : q ≤ t := by
  have h1 : ((t / 2 ^ k : Nat) : Int) * w ≤ ((t / 2 ^ k : Nat) : Int) * s := Int.mul_le_mul_of_nonneg_left (by omega) (Int.natCast_nonneg _)
  have h2 : t / 2 ^ k ≤ t := Nat.div_le_self _ _
  have h3 : q * s ≤ ((t / 2 ^ k : Nat) : Int) * s := by have := h.eq; have := h.r0; omega
  have h4 : q ≤ ((t / 2 ^ k : Nat) : Int) := Int.le_of_mul_le_mul_right h3 (by omega)
  omega

theorem half_bits (t k : Nat) : t / 2 ^ k = 2 * (t / 2 ^ (k + 1)) + t / 2 ^ k % 2 := by
  rw [Nat.pow_succ, ← Nat.div_div_eq_div_mul]; omega

/-- One bit more, which is 0. -/
theorem PartInv.zero {t w s k : Nat} {q r q' r' : Int} (h : PartInv t w s (k + 1) q r) (hb : t / 2 ^ k % 2 = 0) (hc : (2 * r < s ∧ q' = 2 * q ∧ r' = 2 * r) ∨ (s ≤ 2 * r ∧ q' = 2 * q + 1 ∧ r' = 2 * r - s)) : PartInv t w s k q' r' := by
  have e := half_bits t k
  have h1 := h.eq
  have h2 := h.r0
  have h3 := h.r1
  have h4 := h.q0
  rw [hb] at e
  have e2 : ((t / 2 ^ k : Nat) : Int) = 2 * ((t / 2 ^ (k + 1) : Nat) : Int) := by omega
  generalize ((t / 2 ^ (k + 1) : Nat) : Int) = T at *
  have e3 : 2 * T * w = 2 * (T * w) := Int.mul_assoc 2 T w
  rcases hc with ⟨g, rfl, rfl⟩ | ⟨g, rfl, rfl⟩
  · refine ⟨?_, by omega, by omega, by omega⟩
    rw [e2, e3, Int.mul_assoc]; omega
  · refine ⟨?_, by omega, by omega, by omega⟩
    rw [e2, e3, Int.add_mul, Int.mul_assoc]; omega

/-- One bit more, which is 1. -/
theorem PartInv.one {t w s k : Nat} {q r q1 r1 q' r' : Int} (h : PartInv t w s (k + 1) q r) (hw : w ≤ s) (hb : t / 2 ^ k % 2 = 1) (hc : (2 * r < s ∧ q1 = 2 * q ∧ r1 = 2 * r) ∨ (s ≤ 2 * r ∧ q1 = 2 * q + 1 ∧ r1 = 2 * r - s))
    (hd : (r1 + w < s ∧ q' = q1 ∧ r' = r1 + w) ∨ (s ≤ r1 + w ∧ q' = q1 + 1 ∧ r' = r1 + w - s)) : PartInv t w s k q' r' := by
  have e := half_bits t k
  have h1 := h.eq
  have h2 := h.r0
  have h3 := h.r1
  have h4 := h.q0
  rw [hb] at e
  have e2 : ((t / 2 ^ k : Nat) : Int) = 2 * ((t / 2 ^ (k + 1) : Nat) : Int) + 1 := by omega
  generalize ((t / 2 ^ (k + 1) : Nat) : Int) = T at *
  have e3 : (2 * T + 1) * w = 2 * (T * w) + w := by rw [Int.add_mul, Int.mul_assoc]; omega
  have e4 : (2 * q) * s = 2 * (q * s) := Int.mul_assoc _ _ _
  rcases hc with ⟨g, rfl, rfl⟩ | ⟨g, rfl, rfl⟩ <;> rcases hd with ⟨g2, rfl, rfl⟩ | ⟨g2, rfl, rfl⟩
  · refine ⟨?_, by omega, by omega, by omega⟩
    rw [e2, e3, e4]; omega
  · refine ⟨?_, by omega, by omega, by omega⟩
    rw [e2, e3, Int.add_mul, e4]; omega
  · refine ⟨?_, by omega, by omega, by omega⟩
    rw [e2, e3, Int.add_mul, e4]; omega
  · refine ⟨?_, by omega, by omega, by omega⟩
    rw [e2, e3, Int.add_mul, Int.add_mul, e4]; omega

theorem PartInv.fin {t w s : Nat} {q r : Int} (h : PartInv t w s 0 q r) (hs : 1 ≤ s) : q = (t : Int) * w / s ∧ r = (t : Int) * w % s := by
  have h1 := h.eq
  rw [Nat.pow_zero, Nat.div_one] at h1
  have h2 := h.r0
  have h3 := h.r1
  have hne : (s : Int) ≠ 0 := by omega
  constructor
  · rw [← h1, Int.add_comm, Int.add_mul_ediv_right _ _ hne, Int.ediv_eq_zero_of_lt h2 h3]; omega
  · rw [← h1, Int.add_comm, Int.add_mul_emod_self_right, Int.emod_eq_of_lt h2 h3]

theorem pow_le_50 {k : Nat} (h : k ≤ 50) : 2 ^ k ≤ 1125899906842624 := Nat.le_trans (Nat.pow_le_pow_right (n := 2) (by decide) h) (by decide)

theorem bit_test (t k : Nat) (ht : t ≤ 1000000000000000) (hk : k ≤ 50) (B : Nat) (hB : B = 2 ^ k) : bits .and .i64 (t : Int) (B : Int) = ((t / 2 ^ k % 2 * 2 ^ k : Nat) : Int) := by
  have := pow_le_50 hk
  rw [i64_and_nat t B (by omega) (by omega), hB, nat_bit]

theorem ret_two {a b c d : Int} (h : a = c) (h' : b = d) : Ending.returned (.tuple #[.int .i64 a, .int .i64 b]) = .returned (.tuple #[.int .i64 c, .int .i64 d]) := by rw [h, h']

set_option maxHeartbeats 1000000 in
theorem part_any (t x s : Nat) (w : World) (ht : t ≤ 1000000000000000) (hx : x ≤ s) (hs1 : 1 ≤ s) (hs : s ≤ 4096000000000000000) :
    Calls Tryd.prog 45 #[.int .i64 t, .int .i64 x, .int .i64 s] w fun e w' => e = .returned (.tuple #[.int .i64 ((t : Int) * x / s), .int .i64 ((t : Int) * x % s)]) ∧ w' = w := by
  go_enter Tryd.func45, Tryd.ntmps45
  go_wp2
  go_loop [8, 9, 10] (fun q r b => ∃ (k B : Nat) (qv rv : Int), k ≤ 51 ∧ B ≤ 1125899906842624 ∧ Hid (B = 2 ^ k / 2) ∧ b = .int .i64 B ∧ q = .int .i64 qv ∧ r = .int .i64 rv ∧ 0 ≤ qv ∧ qv ≤ 1000000000000000 ∧ 0 ≤ rv ∧ rv < s ∧ Hid (PartInv t x s k qv rv)) (fun _ _ b => (intOf b).toNat)
  case atStart =>
    refine ⟨51, 1125899906842624, 0, 0, by omega, by omega, by unfold Hid; decide, rfl, rfl, rfl, by omega, by omega, by omega, by omega, ?_⟩
    have h0 : t / 2 ^ 51 = 0 := Nat.div_eq_of_lt (by omega)
    exact ⟨by rw [h0]; simp, by omega, by omega, by omega⟩
  case round =>
    obtain ⟨k, B, q, r, hk, hB50, HB, rfl, rfl, rfl, hq0, hq1, hr0, hr1, HI⟩ := hrel
    cases k with
    | zero =>
      have hB0 : B ≤ 0 := by have := HB.out; simp at this; omega
      have HF := hide (HI.out.fin hs1)
      go_wp2
      go_ret2
      exact ⟨ret_two HF.out.1 HF.out.2, rfl⟩
    | succ k =>
      have hBk : B = 2 ^ k := by have := HB.out; rw [Nat.pow_succ] at this; omega
      have hBp : 1 ≤ B := by rw [hBk]; exact Nat.one_le_two_pow
      have HB2 : Hid (B / 2 = 2 ^ k / 2) := by unfold Hid; rw [hBk]
      have HBt := hide (bit_test t k ht (by omega) B hBk)
      have hpk : 1 ≤ 2 ^ k := Nat.one_le_two_pow
      by_cases hb : t / 2 ^ k % 2 = 1
      · have htest : (bits .and .i64 (t : Int) (B : Int) != 0) = true := by rw [HBt.out, hb, Nat.one_mul, ← hBk]; simp; omega
        clear HBt hBk
        rcases (show 2 * r < s ∨ (s : Int) ≤ 2 * r by omega) with g | g
        · rcases (show 2 * r + x < s ∨ (s : Int) ≤ 2 * r + x by omega) with g2 | g2
          · have HN := hide (HI.out.one hx hb (.inl ⟨g, rfl, rfl⟩) (.inl ⟨g2, rfl, rfl⟩))
            have hql := HN.out.qle hx hs1
            clear HI hb
            go_wp2
            go_round
            case rel => exact ⟨k, B / 2, _, _, by omega, by omega, HB2, by go_num, rfl, rfl, by omega, by omega, by omega, by omega, HN⟩
            case measure => simp [intOf]; omega
          · have HN := hide (HI.out.one hx hb (.inl ⟨g, rfl, rfl⟩) (.inr ⟨g2, rfl, rfl⟩))
            have hql := HN.out.qle hx hs1
            clear HI hb
            go_wp2
            go_round
            case rel => exact ⟨k, B / 2, _, _, by omega, by omega, HB2, by go_num, rfl, rfl, by omega, by omega, by omega, by omega, HN⟩
            case measure => simp [intOf]; omega
        · rcases (show 2 * r - s + x < s ∨ (s : Int) ≤ 2 * r - s + x by omega) with g2 | g2
          · have HN := hide (HI.out.one hx hb (.inr ⟨g, rfl, rfl⟩) (.inl ⟨g2, rfl, rfl⟩))
            have hql := HN.out.qle hx hs1
            clear HI hb
            go_wp2
            go_round
            case rel => exact ⟨k, B / 2, _, _, by omega, by omega, HB2, by go_num, rfl, rfl, by omega, by omega, by omega, by omega, HN⟩
            case measure => simp [intOf]; omega
          · have HN := hide (HI.out.one hx hb (.inr ⟨g, rfl, rfl⟩) (.inr ⟨g2, rfl, rfl⟩))
            have hql := HN.out.qle hx hs1
            clear HI hb
            go_wp2
            go_round
            case rel => exact ⟨k, B / 2, _, _, by omega, by omega, HB2, by go_num, rfl, rfl, by omega, by omega, by omega, by omega, HN⟩
            case measure => simp [intOf]; omega
      · have htest : (bits .and .i64 (t : Int) (B : Int) != 0) = false := by rw [HBt.out, show t / 2 ^ k % 2 = 0 by omega]; simp
        clear HBt hBk
        rcases (show 2 * r < s ∨ (s : Int) ≤ 2 * r by omega) with g | g
        · have HN := hide (HI.out.zero (by omega) (.inl ⟨g, rfl, rfl⟩))
          have hql := HN.out.qle hx hs1
          clear HI hb
          go_wp2
          go_round
          case rel => exact ⟨k, B / 2, _, _, by omega, by omega, HB2, by go_num, rfl, rfl, by omega, by omega, by omega, by omega, HN⟩
          case measure => simp [intOf]; omega
        · have HN := hide (HI.out.zero (by omega) (.inr ⟨g, rfl, rfl⟩))
          have hql := HN.out.qle hx hs1
          clear HI hb
          go_wp2
          go_round
          case rel => exact ⟨k, B / 2, _, _, by omega, by omega, HB2, by go_num, rfl, rfl, by omega, by omega, by omega, by omega, HN⟩
          case measure => simp [intOf]; omega

end Go.Proofs.YthpbadnedhjncaaDoor
