/- The year of so many days: four spans, each taken as often as it goes. -/
import Derived.Test.YtnafhjmeofddoaaOf
namespace Go.Proofs.Ytnafhjmeofddoaa
open Go.RowKit

theorem year_parts (y : Int) (h1 : 1 ≤ y) (h2 : y ≤ 9999) : ∃ a b c e : Int, (0 ≤ a ∧ a ≤ 24) ∧ (0 ≤ b ∧ b ≤ 3) ∧ (0 ≤ c ∧ c ≤ 24) ∧ (0 ≤ e ∧ e ≤ 3) ∧ y = 1 + 400 * a + 100 * b + 4 * c + e ∧ aheadY y = 146097 * a + 36524 * b + 1461 * c + 365 * e ∧ ylen y ≤ 366 ∧ (¬ (e = 3 ∧ (c ≠ 24 ∨ b = 3)) → ylen y ≤ 365) := by
  refine ⟨(y - 1) / 400, (y - 1) % 400 / 100, (y - 1) % 100 / 4, (y - 1) % 4, by omega, by omega, by omega, by omega, by omega, by unfold aheadY; omega, (ylen_pos y).2, fun h => ?_⟩
  have hl : ¬ (leapB y = true) := fun hl => by
    have := (leapB_iff y).1 hl
    omega
  unfold ylen
  rw [if_neg hl]
  omega

abbrev spansV : Value := .agg #[.int .i64 400, .int .i64 146097, .int .i64 24, .int .i64 100, .int .i64 36524, .int .i64 3, .int .i64 4, .int .i64 1461, .int .i64 24, .int .i64 1, .int .i64 365, .int .i64 3]
theorem idx0 (w : World) : (Instr.index 72 spansV (.int .i64 0)).run Try.prog w = .ok (.agg #[.int .i64 400, .int .i64 146097, .int .i64 24]) w := by
  kernel_rfl
theorem idx1 (w : World) : (Instr.index 72 spansV (.int .i64 1)).run Try.prog w = .ok (.agg #[.int .i64 100, .int .i64 36524, .int .i64 3]) w := by
  kernel_rfl
theorem idx2 (w : World) : (Instr.index 72 spansV (.int .i64 2)).run Try.prog w = .ok (.agg #[.int .i64 4, .int .i64 1461, .int .i64 24]) w := by
  kernel_rfl
theorem idx3 (w : World) : (Instr.index 72 spansV (.int .i64 3)).run Try.prog w = .ok (.agg #[.int .i64 1, .int .i64 365, .int .i64 3]) w := by
  kernel_rfl

/-- What the rounds leave: so many rounds, the days that are left, the year so far. -/
def yearState (a b c e r : Int) : Nat → Int → Int → Prop
  | 0, D, z => D = 146097 * a + 36524 * b + 1461 * c + 365 * e + r ∧ z = 1
  | 1, D, z => D = 36524 * b + 1461 * c + 365 * e + r ∧ z = 1 + 400 * a
  | 2, D, z => D = 1461 * c + 365 * e + r ∧ z = 1 + 400 * a + 100 * b
  | 3, D, z => D = 365 * e + r ∧ z = 1 + 400 * a + 100 * b + 4 * c
  | _, D, z => D = r ∧ z = 1 + 400 * a + 100 * b + 4 * c + e

set_option maxHeartbeats 800000 in
theorem yearOf_any (y r : Int) (w : World) (h1 : 1 ≤ y) (h2 : y ≤ 9999) (hr0 : 0 ≤ r) (hr1 : r < ylen y) :
    Calls Try.prog 44 #[.int .i64 (aheadY y + r)] w fun e w' => e = .returned (duo (y, r)) ∧ Below w.heap.size w w' := by
  obtain ⟨a, b, c, e, ⟨ha0, ha1⟩, ⟨hb0, hb1⟩, ⟨hc0, hc1⟩, ⟨he0, he1⟩, hy, hah, hyl, hyl'⟩ := year_parts y h1 h2
  have hr366 : r < 366 := by omega
  have HR := hide (show ¬ (e = 3 ∧ (c ≠ 24 ∨ b = 3)) → r < 365 from fun h => by have := hyl' h; omega)
  have HY := hide hy
  rw [hah]
  clear hyl hyl' hah hr1 hy
  generalize hD : 146097 * a + 36524 * b + 1461 * c + 365 * e + r = D
  have HD := hide hD
  have hD0 : 0 ≤ D := by omega
  have hD1 : D ≤ 4000000 := by omega
  clear hD
  go_enter Try.func44, Try.ntmps44
  go_wp2_with fail
  go_loopw [0, 5, 15] (fun s t i wr => ∃ (k : Nat) (X z : Int), k ≤ 4 ∧ i = .int .i64 k ∧ s = .int .i64 X ∧ t = .int .i64 z ∧ 0 ≤ X ∧ X ≤ 4000000 ∧ 0 ≤ z ∧ z ≤ 10000 ∧ Hid (yearState a b c e r k X z) ∧ Below w.heap.size w wr) (fun _ _ i _ => (4 - intOf i).toNat)
  case atStart => exact ⟨0, D, 1, by omega, rfl, rfl, rfl, by omega, by omega, by omega, by omega, ⟨HD.out.symm, rfl⟩, (Below.refl _ _).alloc (Nat.le_refl _) _⟩
  case round =>
    clear hD0 hD1 HD
    obtain ⟨k, X, z, hk, rfl, rfl, rfl, hX0, hX1, hz0, hz1, HS, hbel⟩ := hrel
    have hc : k = 0 ∨ k = 1 ∨ k = 2 ∨ k = 3 ∨ k = 4 := by omega
    rcases hc with rfl | rfl | rfl | rfl | rfl
    · obtain ⟨e1, e2⟩ := HS.out
      have hq : X / 146097 = a ∨ (a = 24 ∧ 24 < X / 146097) := by have := HR.out; omega
      have HN : Hid (yearState a b c e r 1 (X - a * 146097) (z + a * 400)) := ⟨by omega, by omega⟩
      have hn0 : 0 ≤ X - a * 146097 := by omega
      have hz2 : z + a * 400 ≤ 10000 := by omega
      clear e1 e2
      have hidx := idx0
      rcases hq with hq | ⟨hq1, hq2⟩
      · go_wp2_with fail
        go_region
        go_wp2
        go_roundw
        case rel => exact ⟨1, _, _, by omega, rfl, rfl, rfl, hn0, by omega, by omega, by omega, HN, (hbel.alloc hbel.size _).drew⟩
        case measure => simp [intOf]
      · have HQ1 := hide hq1
        clear hq1
        go_wp2_with fail
        go_region
        go_wp2
        go_roundw
        case rel => exact ⟨1, X - a * 146097, z + a * 400, by omega, rfl, by rw [HQ1.out]; rfl, by rw [HQ1.out]; rfl, hn0, by omega, by omega, by omega, HN, (hbel.alloc hbel.size _).drew⟩
        case measure => simp [intOf]
    · obtain ⟨e1, e2⟩ := HS.out
      have hq : X / 36524 = b ∨ (b = 3 ∧ 3 < X / 36524) := by have := HR.out; omega
      have HN : Hid (yearState a b c e r 2 (X - b * 36524) (z + b * 100)) := ⟨by omega, by omega⟩
      have hn0 : 0 ≤ X - b * 36524 := by omega
      have hz2 : z + b * 100 ≤ 10000 := by omega
      clear e1 e2
      have hidx := idx1
      rcases hq with hq | ⟨hq1, hq2⟩
      · go_wp2_with fail
        go_region
        go_wp2
        go_roundw
        case rel => exact ⟨2, _, _, by omega, rfl, rfl, rfl, hn0, by omega, by omega, by omega, HN, (hbel.alloc hbel.size _).drew⟩
        case measure => simp [intOf]
      · have HQ1 := hide hq1
        clear hq1
        go_wp2_with fail
        go_region
        go_wp2
        go_roundw
        case rel => exact ⟨2, X - b * 36524, z + b * 100, by omega, rfl, by rw [HQ1.out]; rfl, by rw [HQ1.out]; rfl, hn0, by omega, by omega, by omega, HN, (hbel.alloc hbel.size _).drew⟩
        case measure => simp [intOf]
    · obtain ⟨e1, e2⟩ := HS.out
      have hq : X / 1461 = c ∨ (c = 24 ∧ 24 < X / 1461) := by have := HR.out; omega
      have HN : Hid (yearState a b c e r 3 (X - c * 1461) (z + c * 4)) := ⟨by omega, by omega⟩
      have hn0 : 0 ≤ X - c * 1461 := by omega
      have hz2 : z + c * 4 ≤ 10000 := by omega
      clear e1 e2
      have hidx := idx2
      rcases hq with hq | ⟨hq1, hq2⟩
      · go_wp2_with fail
        go_region
        go_wp2
        go_roundw
        case rel => exact ⟨3, _, _, by omega, rfl, rfl, rfl, hn0, by omega, by omega, by omega, HN, (hbel.alloc hbel.size _).drew⟩
        case measure => simp [intOf]
      · have HQ1 := hide hq1
        clear hq1
        go_wp2_with fail
        go_region
        go_wp2
        go_roundw
        case rel => exact ⟨3, X - c * 1461, z + c * 4, by omega, rfl, by rw [HQ1.out]; rfl, by rw [HQ1.out]; rfl, hn0, by omega, by omega, by omega, HN, (hbel.alloc hbel.size _).drew⟩
        case measure => simp [intOf]
    · obtain ⟨e1, e2⟩ := HS.out
      have hq : X / 365 = e ∨ (e = 3 ∧ 3 < X / 365) := by have := HR.out; omega
      have HN : Hid (yearState a b c e r 4 (X - e * 365) (z + e)) := ⟨by omega, by omega⟩
      have hn0 : 0 ≤ X - e * 365 := by omega
      have hz2 : z + e ≤ 10000 := by omega
      clear e1 e2
      have hidx := idx3
      rcases hq with hq | ⟨hq1, hq2⟩
      · go_wp2_with fail
        go_region
        go_wp2
        go_roundw
        case rel => exact ⟨4, _, _, by omega, rfl, rfl, rfl, hn0, by omega, by omega, by omega, HN, (hbel.alloc hbel.size _).drew⟩
        case measure => simp [intOf]
      · have HQ1 := hide hq1
        clear hq1
        go_wp2_with fail
        go_region
        go_wp2
        go_roundw
        case rel => exact ⟨4, X - e * 365, z + e, by omega, rfl, by rw [HQ1.out]; rfl, by rw [HQ1.out], hn0, by omega, by omega, by omega, HN, (hbel.alloc hbel.size _).drew⟩
        case measure => simp [intOf]
    · obtain ⟨e1, e2⟩ := HS.out
      have HX := hide e1
      have HZ := hide (e2.trans HY.out.symm)
      clear e1 e2
      go_wp2
      go_ret2
      exact ⟨by rw [HX.out, HZ.out]; rfl, hbel⟩

end Go.Proofs.Ytnafhjmeofddoaa
