/- math/bits.Div64: the quotient and the rest of two words by one. -/
import Derived.Test.YthpbadnedhjncaaDoorDivPlain
import Derived.Test.YthpbadnedhjncaaDoorShelf
import Derived.Test.YthpbadnedhjncaaDoorInts
import Derived.Laws.BitsAllLaws
import Derived.Deep.CutBlock
import Derived.Deep.DeepCutAuto
namespace Go.Proofs.YthpbadnedhjncaaDoor
open Go.RowKit

theorem bitLen_bounds (y : Nat) (h0 : 1 ≤ y) (h : y < 18446744073709551616) : 1 ≤ Lib.bitLen y ∧ Lib.bitLen y ≤ 64 ∧ 2 ^ (Lib.bitLen y - 1) ≤ y ∧ y < 2 ^ Lib.bitLen y := by
  have h1 := Lib.bitLenAux_bounds 64 y (by rw [show (2 : Nat) ^ 64 = 18446744073709551616 by decide]; exact h) (by omega)
  have h2 := Lib.bitLen_le y 64 (by omega) (by rw [show (2 : Nat) ^ 64 = 18446744073709551616 by decide]; exact h)
  exact ⟨h1.1, h2, h1.2⟩

/-- All is moved up till the highest bit of y is its word's. -/
theorem div_setup (hi lo y : Int) (h1 : 1 ≤ hi) (h2 : hi < y) (h3 : y ≤ 18446744073709551615) (h4 : 0 ≤ lo) (h5 : lo ≤ 18446744073709551615) :
    ∃ s Y H L U T K : Int, s = 64 - (Lib.bitLen y.toNat : Int) ∧ 0 ≤ s ∧ s ≤ 63 ∧ K = 2 ^ s.toNat ∧ 1 ≤ K ∧ K ≤ 9223372036854775808 ∧ IntKind.u64.wrap (y * K) = Y ∧ IntKind.u64.wrap (hi * K) = H ∧ lo / 2 ^ (64 - s).toNat = L ∧ bits .or .u64 H L = U ∧
      IntKind.u64.wrap (lo * K) = T ∧ 9223372036854775808 ≤ Y ∧ Y ≤ 18446744073709551615 ∧ 0 ≤ H ∧ H ≤ 18446744073709551615 ∧ 0 ≤ L ∧ L ≤ 18446744073709551615 ∧ 0 ≤ U ∧ U < Y ∧ 0 ≤ T ∧ T ≤ 18446744073709551615 ∧ U * 18446744073709551616 + T = (hi * 18446744073709551616 + lo) * K ∧ Y = y * K := by
  obtain ⟨hi, rfl⟩ := Int.eq_ofNat_of_zero_le (show 0 ≤ hi by omega)
  obtain ⟨lo, rfl⟩ := Int.eq_ofNat_of_zero_le h4
  obtain ⟨y, rfl⟩ := Int.eq_ofNat_of_zero_le (show 0 ≤ y by omega)
  obtain ⟨b1, b2, b3, b4⟩ := bitLen_bounds y (by omega) (by omega)
  generalize hL : Lib.bitLen y = L at *
  have eL : Lib.bitLen (Int.toNat (y : Int)) = L := hL
  rw [eL]
  obtain ⟨S, hS⟩ : ∃ S : Nat, S + L = 64 := ⟨64 - L, by omega⟩
  have es : (64 : Int) - (L : Int) = (S : Int) := by omega
  have p64 : 2 ^ S * 2 ^ L = 18446744073709551616 := by rw [← Nat.pow_add, hS]
  have p63 : 2 ^ (L - 1) * 2 ^ S = 9223372036854775808 := by
    rw [← Nat.pow_add, show L - 1 + S = 63 by omega]
  obtain ⟨K, hK⟩ : ∃ K, K = 2 ^ S := ⟨_, rfl⟩
  obtain ⟨M, hM⟩ : ∃ M, M = 2 ^ L := ⟨_, rfl⟩
  have hK1 : 1 ≤ K := by rw [hK]; exact Nat.one_le_two_pow
  have hM1 : 1 ≤ M := by rw [hM]; exact Nat.one_le_two_pow
  have hKs : K ≤ 9223372036854775808 := by
    rw [hK, ← show (2 : Nat) ^ 63 = 9223372036854775808 by decide]; exact Nat.pow_le_pow_right (by decide) (by omega)
  have y1 : 9223372036854775808 ≤ y * K := by rw [← p63, hK]; exact Nat.mul_le_mul_right _ b3
  have y2 : y * K < 18446744073709551616 := by rw [← p64, hK, Nat.mul_comm]; exact Nat.mul_lt_mul_of_pos_left b4 (Nat.two_pow_pos S)
  have h1K : hi * K + K ≤ y * K := by
    have : (hi + 1) * K ≤ y * K := Nat.mul_le_mul_right _ (by omega)
    rwa [Nat.succ_mul] at this
  have hlt : lo / M < K := by
    rw [Nat.div_lt_iff_lt_mul (by omega), hK, hM, p64]; omega
  have hor : hi * K ||| lo / M = hi * K + lo / M := by
    rw [hK, Nat.mul_comm, ← Nat.two_pow_add_eq_or_of_lt (by rw [← hK]; exact hlt)]
  have hT : lo * K = lo / M * 18446744073709551616 + lo * K % 18446744073709551616 := by
    have e1 : lo * K / 18446744073709551616 = lo / M := by
      rw [← p64, ← hK, ← hM, Nat.mul_comm lo K]
      exact Nat.mul_div_mul_left _ _ (by omega)
    have := Nat.div_add_mod (lo * K) 18446744073709551616
    rw [e1] at this
    omega
  refine ⟨S, (y * K : Nat), (hi * K : Nat), (lo / M : Nat), (hi * K + lo / M : Nat), (lo * K % 18446744073709551616 : Nat), K, es.symm, by omega, by omega, ?_, by omega, by omega, ?_, ?_, ?_, ?_, ?_, by omega, by omega, by omega, by omega, by omega, ?_, by omega, by omega, by omega, by omega, ?_, by push_cast; rfl⟩
  · rw [hK]; simp
  · rw [IntKind.wrap_u64, ← Int.natCast_mul]; omega
  · rw [IntKind.wrap_u64, ← Int.natCast_mul]; omega
  · rw [show ((64 : Int) - (S : Int)).toNat = L by omega, hM]; simp
  · rw [u64_or_nat _ _ (by omega) (by omega), hor]
  · rw [IntKind.wrap_u64, ← Int.natCast_mul]; omega
  · omega
  · have e : (hi * 18446744073709551616 + lo) * K = hi * K * 18446744073709551616 + lo * K := by
      rw [Nat.add_mul, Nat.mul_right_comm]
    have e2 : ((hi : Int) * 18446744073709551616 + lo) * K = ((hi * K * 18446744073709551616 + lo * K : Nat) : Int) := by
      rw [← e, Int.natCast_mul, Int.natCast_add, Int.natCast_mul]; rfl
    rw [e2]
    omega

/-- The guess, over Int. -/
def KI (y1 y0 u u1 q r : Int) : Prop := ∃ a b c d e f : Nat, y1 = a ∧ y0 = b ∧ u = c ∧ u1 = d ∧ q = e ∧ r = f ∧ Knu a b c d e f

theorem ki_first {y1 y0 u u1 : Int} (h1 : 1 ≤ y1) (h0 : 0 ≤ y0) (hu : 0 ≤ u) (hu0 : 0 ≤ u1) (hu1 : u1 < 4294967296) : KI y1 y0 u u1 (u / y1) (u - u / y1 * y1) := by
  obtain ⟨a, rfl⟩ := Int.eq_ofNat_of_zero_le (show 0 ≤ y1 by omega)
  obtain ⟨b, rfl⟩ := Int.eq_ofNat_of_zero_le h0
  obtain ⟨c, rfl⟩ := Int.eq_ofNat_of_zero_le hu
  obtain ⟨d, rfl⟩ := Int.eq_ofNat_of_zero_le hu0
  refine ⟨a, b, c, d, c / a, c % a, rfl, rfl, rfl, rfl, by simp, ?_, knu_first a b c d (by omega) (by omega)⟩
  have := Int.mul_ediv_add_emod (c : Int) a
  rw [Int.natCast_emod, Int.mul_comm (c / a : Int)]
  omega

theorem ki_step {y1 y0 u u1 q r : Int} (hu1 : u1 < 4294967296) (hu : u < y1 * 4294967296 + y0) (h : KI y1 y0 u u1 q r) (hc : 4294967296 ≤ q ∨ 4294967296 * r + u1 < q * y0) :
    1 ≤ q ∧ KI y1 y0 u u1 (q - 1) (r + y1) := by
  obtain ⟨a, b, c, d, e, f, rfl, rfl, rfl, rfl, rfl, rfl, hk⟩ := h
  have hc' : 4294967296 ≤ e ∨ 4294967296 * f + d < e * b := by
    rcases hc with hc | hc
    · left; omega
    · right; rw [← Int.natCast_mul] at hc; omega
  obtain ⟨g1, g2⟩ := knu_step (by omega) (by omega) hk hc'
  exact ⟨by omega, a, b, c, d, e - 1, f + a, rfl, rfl, rfl, rfl, by omega, by omega, g2⟩

theorem ki_end {y1 y0 u u1 q r : Int} (hu : u < y1 * 4294967296 + y0) (h : KI y1 y0 u u1 q r) (hc : q * y0 ≤ 4294967296 * r + u1) :
    q = (u * 4294967296 + u1) / (y1 * 4294967296 + y0) := by
  obtain ⟨a, b, c, d, e, f, rfl, rfl, rfl, rfl, rfl, rfl, hk⟩ := h
  have := knu_end (by omega) hk (by rw [← Int.natCast_mul] at hc; omega)
  rw [this, Int.natCast_ediv, Int.natCast_add, Int.natCast_add, Int.natCast_mul, Int.natCast_mul]; rfl

theorem ki_break {y1 y0 u u1 q r : Int} (h0 : y0 < 4294967296) (hu : u < y1 * 4294967296 + y0) (h : KI y1 y0 u u1 q r) (hq : q ≤ 4294967296) (hr : 4294967296 ≤ r) :
    q = (u * 4294967296 + u1) / (y1 * 4294967296 + y0) := by
  obtain ⟨a, b, c, d, e, f, rfl, rfl, rfl, rfl, rfl, rfl, hk⟩ := h
  have := knu_break (by omega) (by omega) hk (by omega) (by omega)
  rw [this, Int.natCast_ediv, Int.natCast_add, Int.natCast_add, Int.natCast_mul, Int.natCast_mul]; rfl

theorem ki_bounds {y1 y0 u : Int} (h1 : 2147483648 ≤ y1) (h0 : y0 < 4294967296) (hu0 : 0 ≤ u) (hu : u < y1 * 4294967296 + y0) : 0 ≤ u / y1 ∧ u / y1 ≤ 4294967297 ∧ 0 ≤ u - u / y1 * y1 ∧ u - u / y1 * y1 < y1 := by
  have e := Int.mul_ediv_add_emod u y1
  have e1 := Int.emod_nonneg u (show y1 ≠ 0 by omega)
  have e2 := Int.emod_lt_of_pos u (show 0 < y1 by omega)
  have e3 : 0 ≤ u / y1 := Int.ediv_nonneg hu0 (by omega)
  have e4 : u / y1 < 4294967298 := Int.ediv_lt_of_lt_mul (by omega) (by omega)
  rw [Int.mul_comm] at e
  exact ⟨e3, by omega, by omega, by omega⟩

theorem digit_bounds {u u1 y : Int} (hu0 : 0 ≤ u) (h0 : 0 ≤ u1) (h1 : u1 < 4294967296) (hy : 1 ≤ y) (hu : u < y) :
    0 ≤ (u * 4294967296 + u1) / y ∧ (u * 4294967296 + u1) / y < 4294967296 ∧ (u * 4294967296 + u1) - (u * 4294967296 + u1) / y * y = (u * 4294967296 + u1) % y ∧ 0 ≤ (u * 4294967296 + u1) % y ∧ (u * 4294967296 + u1) % y < y := by
  have e := Int.mul_ediv_add_emod (u * 4294967296 + u1) y
  rw [Int.mul_comm] at e
  refine ⟨Int.ediv_nonneg (by omega) (by omega), Int.ediv_lt_of_lt_mul (by omega) (by omega), by omega, Int.emod_nonneg _ (by omega), Int.emod_lt_of_pos _ (by omega)⟩

theorem prod_lt {q y0 : Int} (hq : 0 ≤ q) (hq1 : q < 4294967296) (h0 : 0 ≤ y0) (h1 : y0 < 4294967296) : 0 ≤ q * y0 ∧ q * y0 ≤ 18446744065119617025 := by
  refine ⟨Int.mul_nonneg hq h0, ?_⟩
  have a1 : q * y0 ≤ 4294967295 * y0 := Int.mul_le_mul_of_nonneg_right (by omega) h0
  omega

theorem and_mask (Y : Int) (h0 : 0 ≤ Y) (h1 : Y ≤ 18446744073709551615) : bits .and .u64 Y 4294967295 = Y % 4294967296 := by
  obtain ⟨a, rfl⟩ := Int.eq_ofNat_of_zero_le h0
  have := u64_and_nat a 4294967295 (by omega) (by omega)
  rw [show (4294967295 : Nat) = 2 ^ 32 - 1 by decide, Nat.and_two_pow_sub_one_eq_mod] at this
  exact this

theorem div_end {U T N y Y K u1 u0 Q1 V Q0 R : Int} (hK : 1 ≤ K) (hy : 1 ≤ y) (h1 : U * 18446744073709551616 + T = N * K) (h2 : Y = y * K) (h3 : T = u1 * 4294967296 + u0)
    (h4 : U * 4294967296 + u1 - Q1 * Y = V) (h5 : V * 4294967296 + u0 - Q0 * Y = R) (hR : 0 ≤ R) (hR1 : R < Y) : Q1 * 4294967296 + Q0 = N / y ∧ R / K = N % y := by
  have e1 : N * K = (Q1 * 4294967296 + Q0) * Y + R := by
    have x : (Q1 * 4294967296 + Q0) * Y = Q1 * Y * 4294967296 + Q0 * Y := by rw [Int.add_mul, Int.mul_right_comm]
    rw [x]; omega
  generalize Q1 * 4294967296 + Q0 = Q at *
  have e2 : R = (N - Q * y) * K := by
    have : Q * Y = Q * y * K := by rw [h2, Int.mul_assoc]
    rw [Int.sub_mul]; omega
  have e3 : R / K = N - Q * y := by rw [e2]; exact Int.mul_ediv_cancel _ (by omega)
  have e4 : 0 ≤ N - Q * y := by rw [← e3]; exact Int.ediv_nonneg hR (by omega)
  have e5 : N - Q * y < y := by
    rw [e2, h2] at hR1
    exact Int.lt_of_mul_lt_mul_right hR1 (by omega)
  have e6 : N = (N - Q * y) + Q * y := by omega
  refine ⟨?_, ?_⟩
  · conv => rhs; rw [e6]
    rw [Int.add_mul_ediv_right _ _ (by omega), Int.ediv_eq_zero_of_lt e4 e5]; omega
  · rw [e3]
    conv => rhs; rw [e6]
    rw [Int.add_mul_emod_self_right, Int.emod_eq_of_lt e4 e5]

theorem ret_words {a b c d : Int} (h1 : a = c) (h2 : b = d) : Ending.returned (.tuple #[.int .u64 a, .int .u64 b]) = .returned (.tuple #[.int .u64 c, .int .u64 d]) := by rw [h1, h2]

set_option maxRecDepth 100000 in
set_option maxHeartbeats 4000000 in
theorem div64_great (hi lo y : Int) (w : World) (h1 : 1 ≤ hi) (h2 : hi < y) (h3 : y ≤ 18446744073709551615) (h4 : 0 ≤ lo) (h5 : lo ≤ 18446744073709551615) :
    Calls Tryd.prog 60 #[.int .u64 hi, .int .u64 lo, .int .u64 y] w fun e w' => e = .returned (.tuple #[.int .u64 ((hi * 18446744073709551616 + lo) / y), .int .u64 ((hi * 18446744073709551616 + lo) % y)]) ∧ w' = w := by
  have CL := hide (fun w => Tryd.bits_LeadingZeros64 y w (by omega) (by omega))
  obtain ⟨s, Y, H, L, U, T, K, hs, hs0, hs1, hK, hK0, hK1, eY, eH, eL, eU, eT, hY0, hY1, hH0, hH1, hL0, hL1, hU0, hU1, hT0, hT1, hUT, hYK⟩ := div_setup hi lo y h1 h2 h3 h4 h5
  rw [← hs] at CL
  have HK := hide hK
  have eK : (2 : Int) ^ s.toNat = K := hK.symm
  have HUT := hide hUT
  have HYK := hide hYK
  clear hs hK hUT hYK
  obtain ⟨y1, ey1⟩ : ∃ y1, Y / 4294967296 = y1 := ⟨_, rfl⟩
  obtain ⟨y0, ey0⟩ : ∃ y0, bits .and .u64 Y 4294967295 = y0 := ⟨_, rfl⟩
  obtain ⟨u1, eu1⟩ : ∃ u1, T / 4294967296 = u1 := ⟨_, rfl⟩
  obtain ⟨u0, eu0⟩ : ∃ u0, bits .and .u64 T 4294967295 = u0 := ⟨_, rfl⟩
  have ey0' := ey0; rw [and_mask Y (by omega) hY1] at ey0'
  have eu0' := eu0; rw [and_mask T hT0 hT1] at eu0'
  have by1 : 2147483648 ≤ y1 ∧ y1 ≤ 4294967295 := by omega
  have by0 : 0 ≤ y0 ∧ y0 ≤ 4294967295 := by omega
  have bu1 : 0 ≤ u1 ∧ u1 ≤ 4294967295 := by omega
  have bu0 : 0 ≤ u0 ∧ u0 ≤ 4294967295 := by omega
  have HYY : Hid (Y = y1 * 4294967296 + y0) := by unfold Hid; omega
  have HTT : Hid (T = u1 * 4294967296 + u0) := by unfold Hid; omega
  clear ey0' eu0'
  obtain ⟨q, eq⟩ : ∃ q, U / y1 = q := ⟨_, rfl⟩
  obtain ⟨qy, eqy⟩ : ∃ x, IntKind.u64.wrap (q * y1) = x := ⟨_, rfl⟩
  obtain ⟨r, er⟩ : ∃ x, IntKind.u64.wrap (U - qy) = x := ⟨_, rfl⟩
  have kb := ki_bounds (y1 := y1) (y0 := y0) (u := U) by1.1 (by omega) hU0 (by rw [← HYY.out]; exact hU1)
  have kf := ki_first (y1 := y1) (y0 := y0) (u := U) (u1 := u1) (by omega) by0.1 hU0 bu1.1 (by omega)
  rw [eq] at kb kf
  have hqp : 0 ≤ q * y1 := Int.mul_nonneg kb.1 (by omega)
  have hqy : qy = q * y1 := by rw [← eqy, IntKind.wrap_u64]; omega
  have hr : r = U - q * y1 := by rw [← er, IntKind.wrap_u64, hqy]; omega
  rw [← hr] at kb kf
  have bq : 0 ≤ q ∧ q ≤ 4294967297 := ⟨kb.1, kb.2.1⟩
  have br : 0 ≤ r ∧ r < y1 := ⟨kb.2.2.1, kb.2.2.2⟩
  have bqy : 0 ≤ qy ∧ qy ≤ U := by omega
  have HKF := hide kf
  clear kb kf hqy hr hqp
  go_enter Tryd.func60, Tryd.ntmps60
  go_upto_block 0 with (go_at_call 71; refine (CL.out _).mono ?_; rintro e w3 ⟨rfl, hww⟩; subst w3)
  simp only [eq]
  obtain ⟨Q1, hQ1⟩ : ∃ x, x = (U * 4294967296 + u1) / Y := ⟨_, rfl⟩
  have HQ1 := hide hQ1
  have d1 := digit_bounds (u := U) (u1 := u1) (y := Y) hU0 bu1.1 (by omega) (by omega) hU1
  rw [← hQ1] at d1
  have HD1 := hide d1.2.2.1
  have bQ1 : 0 ≤ Q1 ∧ Q1 ≤ 4294967295 := ⟨d1.1, by omega⟩
  obtain ⟨V, hV⟩ : ∃ x, x = (U * 4294967296 + u1) % Y := ⟨_, rfl⟩
  have HV1 := hide hV
  rw [← hV] at d1 HD1
  have bV : 0 ≤ V ∧ V < Y := ⟨d1.2.2.2.1, d1.2.2.2.2⟩
  clear hQ1 d1 hV
  go_cut [15, 16] (fun a b wx => ∃ r', a = .int .u64 Q1 ∧ b = .int .u64 r' ∧ w = wx)
  case first =>
    go_wp2_with fail
    go_loop [15, 16] (fun a b => ∃ q r : Int, a = .int .u64 q ∧ b = .int .u64 r ∧ 0 ≤ q ∧ q ≤ 4294967297 ∧ 0 ≤ r ∧ r < 4294967296 ∧ Hid (KI y1 y0 U u1 q r)) (fun _ b => (4294967296 - intOf b).toNat)
    case atStart => exact ⟨q, r, rfl, rfl, bq.1, bq.2, by omega, by omega, HKF⟩
    case round =>
      obtain ⟨q, r, rfl, rfl, q0, q1, r0, r1, HKI⟩ := hrel
      have hUY : U < y1 * 4294967296 + y0 := by rw [← HYY.out]; exact hU1
      by_cases hg : 4294967296 ≤ q
      · obtain ⟨g1, g2⟩ := ki_step (by omega) hUY HKI.out (.inl hg)
        by_cases hr : 4294967296 ≤ r + y1
        · have HE : Hid (q - 1 = Q1) := by unfold Hid; rw [HQ1.out, HYY.out]; exact ki_break (by omega) hUY g2 (by omega) hr
          clear g2 hUY
          go_wp2_with fail
          go_meet
          exact ⟨r + y1, by rw [HE.out], rfl, rfl⟩
        · have HG := hide g2
          clear g2 hUY
          go_wp2_with fail
          go_round
          case rel => exact ⟨q - 1, r + y1, rfl, rfl, by omega, by omega, by omega, by omega, HG⟩
          case measure => simp [intOf]; omega
      · obtain ⟨P, hP⟩ : ∃ P, P = q * y0 := ⟨_, rfl⟩
        have bP := prod_lt q0 (by omega) by0.1 (by omega)
        rw [← hP] at bP
        have eP : IntKind.u64.wrap (q * y0) = P := by rw [← hP, IntKind.wrap_u64]; omega
        have eP2 : q * y0 = P := hP.symm
        by_cases hc : 4294967296 * r + u1 < P
        · obtain ⟨g1, g2⟩ := ki_step (by omega) hUY HKI.out (.inr (by rw [← hP]; exact hc))
          by_cases hr : 4294967296 ≤ r + y1
          · have HE : Hid (q - 1 = Q1) := by unfold Hid; rw [HQ1.out, HYY.out]; exact ki_break (by omega) hUY g2 (by omega) hr
            clear g2 hUY hP
            go_wp2_with fail
            go_meet
            exact ⟨r + y1, by rw [HE.out], rfl, rfl⟩
          · have HG := hide g2
            clear g2 hUY hP
            go_wp2_with fail
            go_round
            case rel => exact ⟨q - 1, r + y1, rfl, rfl, by omega, by omega, by omega, by omega, HG⟩
            case measure => simp [intOf]; omega
        · have HE : Hid (q = Q1) := by unfold Hid; rw [HQ1.out, HYY.out]; exact ki_end hUY HKI.out (by rw [← hP]; omega)
          clear hUY hP
          go_wp2_with fail
          go_meet
          exact ⟨r, by rw [HE.out], rfl, rfl⟩
  case rest =>
  obtain ⟨r', rfl, rfl, rfl⟩ := hcut
  obtain ⟨a1, ea1⟩ : ∃ x, IntKind.u64.wrap (U * 4294967296) = x := ⟨_, rfl⟩
  obtain ⟨a2, ea2⟩ : ∃ x, IntKind.u64.wrap (a1 + u1) = x := ⟨_, rfl⟩
  obtain ⟨a3, ea3⟩ : ∃ x, IntKind.u64.wrap (Q1 * Y) = x := ⟨_, rfl⟩
  have eV : IntKind.u64.wrap (a2 - a3) = V := by
    have h := HD1.out
    rw [← ea2, ← ea3, ← ea1]
    simp only [IntKind.wrap_u64]
    omega
  have ba1 : 0 ≤ a1 ∧ a1 ≤ 18446744073709551615 := by rw [← ea1, IntKind.wrap_u64]; omega
  have ba2 : 0 ≤ a2 ∧ a2 ≤ 18446744073709551615 := by rw [← ea2, IntKind.wrap_u64]; omega
  have ba3 : 0 ≤ a3 ∧ a3 ≤ 18446744073709551615 := by rw [← ea3, IntKind.wrap_u64]; omega
  obtain ⟨q', eq'⟩ : ∃ q, V / y1 = q := ⟨_, rfl⟩
  obtain ⟨qy', eqy'⟩ : ∃ x, IntKind.u64.wrap (q' * y1) = x := ⟨_, rfl⟩
  obtain ⟨ρ, er'⟩ : ∃ x, IntKind.u64.wrap (V - qy') = x := ⟨_, rfl⟩
  have kb := ki_bounds (y1 := y1) (y0 := y0) (u := V) by1.1 (by omega) bV.1 (by rw [← HYY.out]; exact bV.2)
  have kf := ki_first (y1 := y1) (y0 := y0) (u := V) (u1 := u0) (by omega) by0.1 bV.1 bu0.1 (by omega)
  rw [eq'] at kb kf
  have hqp : 0 ≤ q' * y1 := Int.mul_nonneg kb.1 (by omega)
  have hqy : qy' = q' * y1 := by rw [← eqy', IntKind.wrap_u64]; omega
  have hr : ρ = V - q' * y1 := by rw [← er', IntKind.wrap_u64, hqy]; omega
  rw [← hr] at kb kf
  have bq' : 0 ≤ q' ∧ q' ≤ 4294967297 := ⟨kb.1, kb.2.1⟩
  have br' : 0 ≤ ρ ∧ ρ < y1 := ⟨kb.2.2.1, kb.2.2.2⟩
  have bqy' : 0 ≤ qy' ∧ qy' ≤ V := by omega
  have HKF' := hide kf
  clear kb kf hqy hr hqp
  go_upto_block 2 with fail
  simp only [eq']
  obtain ⟨Q0, hQ0⟩ : ∃ x, x = (V * 4294967296 + u0) / Y := ⟨_, rfl⟩
  have HQ0 := hide hQ0
  have d1 := digit_bounds (u := V) (u1 := u0) (y := Y) bV.1 bu0.1 (by omega) (by omega) bV.2
  rw [← hQ0] at d1
  have HD0 := hide d1.2.2.1
  have bQ0 : 0 ≤ Q0 ∧ Q0 ≤ 4294967295 := ⟨d1.1, by omega⟩
  obtain ⟨R, hR⟩ : ∃ x, x = (V * 4294967296 + u0) % Y := ⟨_, rfl⟩
  have HR0 := hide hR
  rw [← hR] at d1 HD0
  have bR : 0 ≤ R ∧ R < Y := ⟨d1.2.2.2.1, d1.2.2.2.2⟩
  clear hQ0 d1 hR
  go_cut [18, 16] (fun a b wx => ∃ r', a = .int .u64 Q0 ∧ b = .int .u64 r' ∧ w = wx)
  case first =>
    go_wp2_with fail
    go_loop [18, 16] (fun a b => ∃ q r : Int, a = .int .u64 q ∧ b = .int .u64 r ∧ 0 ≤ q ∧ q ≤ 4294967297 ∧ 0 ≤ r ∧ r < 4294967296 ∧ Hid (KI y1 y0 V u0 q r)) (fun _ b => (4294967296 - intOf b).toNat)
    case atStart => exact ⟨q', ρ, rfl, rfl, bq'.1, bq'.2, by omega, by omega, HKF'⟩
    case round =>
      obtain ⟨q, r, rfl, rfl, q0, q1, r0, r1, HKI⟩ := hrel
      have hUY : V < y1 * 4294967296 + y0 := by rw [← HYY.out]; exact bV.2
      by_cases hg : 4294967296 ≤ q
      · obtain ⟨g1, g2⟩ := ki_step (by omega) hUY HKI.out (.inl hg)
        by_cases hr : 4294967296 ≤ r + y1
        · have HE : Hid (q - 1 = Q0) := by unfold Hid; rw [HQ0.out, HYY.out]; exact ki_break (by omega) hUY g2 (by omega) hr
          clear g2 hUY
          go_wp2_with fail
          go_meet
          exact ⟨r + y1, by rw [HE.out], rfl, rfl⟩
        · have HG := hide g2
          clear g2 hUY
          go_wp2_with fail
          go_round
          case rel => exact ⟨q - 1, r + y1, rfl, rfl, by omega, by omega, by omega, by omega, HG⟩
          case measure => simp [intOf]; omega
      · obtain ⟨P, hP⟩ : ∃ P, P = q * y0 := ⟨_, rfl⟩
        have bP := prod_lt q0 (by omega) by0.1 (by omega)
        rw [← hP] at bP
        have eP : IntKind.u64.wrap (q * y0) = P := by rw [← hP, IntKind.wrap_u64]; omega
        have eP2 : q * y0 = P := hP.symm
        by_cases hc : 4294967296 * r + u0 < P
        · obtain ⟨g1, g2⟩ := ki_step (by omega) hUY HKI.out (.inr (by rw [← hP]; exact hc))
          by_cases hr : 4294967296 ≤ r + y1
          · have HE : Hid (q - 1 = Q0) := by unfold Hid; rw [HQ0.out, HYY.out]; exact ki_break (by omega) hUY g2 (by omega) hr
            clear g2 hUY hP
            go_wp2_with fail
            go_meet
            exact ⟨r + y1, by rw [HE.out], rfl, rfl⟩
          · have HG := hide g2
            clear g2 hUY hP
            go_wp2_with fail
            go_round
            case rel => exact ⟨q - 1, r + y1, rfl, rfl, by omega, by omega, by omega, by omega, HG⟩
            case measure => simp [intOf]; omega
        · have HE : Hid (q = Q0) := by unfold Hid; rw [HQ0.out, HYY.out]; exact ki_end hUY HKI.out (by rw [← hP]; omega)
          clear hUY hP
          go_wp2_with fail
          go_meet
          exact ⟨r, by rw [HE.out], rfl, rfl⟩
  case rest =>
  obtain ⟨r'', rfl, rfl, rfl⟩ := hcut
  obtain ⟨b1, eb1⟩ : ∃ x, IntKind.u64.wrap (V * 4294967296) = x := ⟨_, rfl⟩
  obtain ⟨b2, eb2⟩ : ∃ x, IntKind.u64.wrap (b1 + u0) = x := ⟨_, rfl⟩
  obtain ⟨b3, eb3⟩ : ∃ x, IntKind.u64.wrap (Q0 * Y) = x := ⟨_, rfl⟩
  have eR : IntKind.u64.wrap (b2 - b3) = R := by
    have h := HD0.out
    rw [← eb2, ← eb3, ← eb1]
    simp only [IntKind.wrap_u64]
    omega
  have bb1 : 0 ≤ b1 ∧ b1 ≤ 18446744073709551615 := by rw [← eb1, IntKind.wrap_u64]; omega
  have bb2 : 0 ≤ b2 ∧ b2 ≤ 18446744073709551615 := by rw [← eb2, IntKind.wrap_u64]; omega
  have bb3 : 0 ≤ b3 ∧ b3 ≤ 18446744073709551615 := by rw [← eb3, IntKind.wrap_u64]; omega
  have HF := hide (div_end hK0 (by omega) HUT.out HYK.out HTT.out HD1.out HD0.out bR.1 bR.2)
  go_wp2_with fail
  go_ret2
  exact ⟨ret_words HF.out.1 HF.out.2, rfl⟩

end Go.Proofs.YthpbadnedhjncaaDoor
