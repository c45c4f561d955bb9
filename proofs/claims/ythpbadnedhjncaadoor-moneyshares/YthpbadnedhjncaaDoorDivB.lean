/- math/bits.Div64 where the high word is 0, and in general. -/
import Derived.Test.YthpbadnedhjncaaDoorDiv
namespace Go.Proofs.YthpbadnedhjncaaDoor
open Go.RowKit

set_option maxRecDepth 100000 in
set_option maxHeartbeats 1000000 in
theorem div64_small (lo y : Int) (w : World) (h2 : 1 ≤ y) (h3 : y ≤ 18446744073709551615) (h4 : 0 ≤ lo) (h5 : lo ≤ 18446744073709551615) :
    Calls Tryd.prog 60 #[.int .u64 0, .int .u64 lo, .int .u64 y] w fun e w' => e = .returned (.tuple #[.int .u64 (lo / y), .int .u64 (lo % y)]) ∧ w' = w.drew := by
  obtain ⟨q, eq⟩ : ∃ x, x = lo / y := ⟨_, rfl⟩
  obtain ⟨r, er⟩ : ∃ x, x = lo % y := ⟨_, rfl⟩
  have bq : 0 ≤ q ∧ q ≤ lo := by rw [eq]; exact ⟨Int.ediv_nonneg h4 (by omega), Int.ediv_le_self _ h4⟩
  have br : 0 ≤ r ∧ r < y := by rw [er]; exact ⟨Int.emod_nonneg _ (by omega), Int.emod_lt_of_pos _ (by omega)⟩
  have e1 : lo.tdiv y = q := by rw [eq]; exact Int.tdiv_eq_ediv_of_nonneg h4
  have e2 : lo.tmod y = r := by rw [er]; exact Int.tmod_eq_emod_of_nonneg h4
  have e3 : IntKind.u64.wrap q = q := by rw [IntKind.wrap_u64]; omega
  have e4 : IntKind.u64.wrap r = r := by rw [IntKind.wrap_u64]; omega
  have e5 : (y == 0) = false := by simp; omega
  have e6 : ¬ y = 0 := by omega
  rw [← eq, ← er]
  clear eq er
  go_enter Tryd.func60, Tryd.ntmps60
  go_wp2_with fail
  go_region
  go_wp2_with fail
  go_ret2
  exact ⟨rfl, rfl⟩

theorem div64_any (hi lo y : Int) (w : World) (h1 : 0 ≤ hi) (h2 : hi < y) (h3 : y ≤ 18446744073709551615) (h4 : 0 ≤ lo) (h5 : lo ≤ 18446744073709551615) :
    Calls Tryd.prog 60 #[.int .u64 hi, .int .u64 lo, .int .u64 y] w fun e w' => e = .returned (.tuple #[.int .u64 ((hi * 18446744073709551616 + lo) / y), .int .u64 ((hi * 18446744073709551616 + lo) % y)]) ∧ (w' = w ∨ w' = w.drew) := by
  rcases (show hi = 0 ∨ 1 ≤ hi by omega) with rfl | h
  · rw [Int.zero_mul, Int.zero_add]
    refine (div64_small lo y w (by omega) h3 h4 h5).mono ?_
    rintro e w' ⟨rfl, rfl⟩
    exact ⟨rfl, .inr rfl⟩
  · refine (div64_great hi lo y w h h2 h3 h4 h5).mono ?_
    rintro e w' ⟨rfl, rfl⟩
    exact ⟨rfl, .inl rfl⟩

theorem mul64_any (x y : Int) (w : World) (hx : 0 ≤ x) (hy : 0 ≤ y) (hx1 : x ≤ 18446744073709551615) (hy1 : y ≤ 18446744073709551615) :
    Calls Tryd.prog 58 #[.int .u64 x, .int .u64 y] w fun e w' => e = .returned (.tuple #[.int .u64 (x * y / 18446744073709551616), .int .u64 (x * y % 18446744073709551616)]) ∧ w' = w := by
  obtain ⟨x, rfl⟩ := Int.eq_ofNat_of_zero_le hx
  obtain ⟨y, rfl⟩ := Int.eq_ofNat_of_zero_le hy
  have := Tryd.bits_Mul64 x y (by omega) (by omega) w
  rw [Int.natCast_ediv, Int.natCast_emod, Int.natCast_mul] at this
  exact this

end Go.Proofs.YthpbadnedhjncaaDoor
