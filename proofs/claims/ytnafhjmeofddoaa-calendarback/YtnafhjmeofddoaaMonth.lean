/- A month's days: the program's array, the document's switch. -/
import Derived.Test.YtnafhjmeofddoaaSmall
namespace Go.Proofs.Ytnafhjmeofddoaa
open Go.RowKit

set_option maxHeartbeats 800000 in
theorem monthLength_any (y m : Int) (w : World) (h1 : 0 ≤ y) (h2 : y ≤ 10000) (h3 : 1 ≤ m) (h4 : m ≤ 12) :
    Calls Try.prog 32 #[.int .i64 y, .int .i64 m] w fun e w' => e = .returned (.int .i64 (mlen y m)) ∧ Below w.heap.size w w' := by
  by_cases hm : m = 2
  · subst hm
    cases hl : leapB y with
    | true =>
      have HE := hide (show mlen y 2 = 29 by simp [mlen, hl])
      have HL := hide hl
      clear hl
      go_enter Try.func32, Try.ntmps32
      go_wp2_with (go_at_call 43; refine (isLeap_any _ _ (by omega) (by omega)).mono ?_; rintro e w' ⟨rfl, rfl⟩; rw [HL.out])
      go_ret
      exact ⟨ret_int (by rw [HE.out]), Below.refl _ _⟩
    | false =>
      have HE := hide (show mlen y 2 = 28 by simp [mlen, hl])
      have HL := hide hl
      clear hl
      go_enter Try.func32, Try.ntmps32
      go_wp2_with (go_at_call 43; refine (isLeap_any _ _ (by omega) (by omega)).mono ?_; rintro e w' ⟨rfl, rfl⟩; rw [HL.out])
      go_ret
      exact ⟨ret_int (by rw [HE.out]), (Below.refl _ _).alloc (Nat.le_refl _) _⟩
  · have hc : m = 1 ∨ m = 3 ∨ m = 4 ∨ m = 5 ∨ m = 6 ∨ m = 7 ∨ m = 8 ∨ m = 9 ∨ m = 10 ∨ m = 11 ∨ m = 12 := by omega
    clear hm h3 h4
    rcases hc with rfl | rfl | rfl | rfl | rfl | rfl | rfl | rfl | rfl | rfl | rfl
    all_goals
      go_enter Try.func32, Try.ntmps32
      go_wp2
      go_ret
      exact ⟨ret_int (by simp [mlen]), (Below.refl _ _).alloc (Nat.le_refl _) _⟩

set_option maxHeartbeats 400000 in
theorem days_any (y m : Int) (w : World) (h1 : 0 ≤ y) (h2 : y ≤ 10000) (h3 : 1 ≤ m) (h4 : m ≤ 12) :
    Calls Try.prog 30 #[.int .i64 y, .int .i64 m] w fun e w' => e = .returned (.int .i64 (mlen y m)) ∧ w' = w := by
  by_cases hm : m = 2
  · subst hm
    cases hl : leapB y with
    | true =>
      have HE := hide (show mlen y 2 = 29 by simp [mlen, hl])
      have HL := hide hl
      clear hl
      go_enter Try.func30, Try.ntmps30
      go_wp2_with (go_at_call 42; refine (leap_any _ _ (by omega) (by omega)).mono ?_; rintro e w' ⟨rfl, rfl⟩; rw [HL.out])
      go_ret
      exact ⟨ret_int (by rw [HE.out]), rfl⟩
    | false =>
      have HE := hide (show mlen y 2 = 28 by simp [mlen, hl])
      have HL := hide hl
      clear hl
      go_enter Try.func30, Try.ntmps30
      go_wp2_with (go_at_call 42; refine (leap_any _ _ (by omega) (by omega)).mono ?_; rintro e w' ⟨rfl, rfl⟩; rw [HL.out])
      go_ret
      exact ⟨ret_int (by rw [HE.out]), rfl⟩
  · have hc : m = 1 ∨ m = 3 ∨ m = 4 ∨ m = 5 ∨ m = 6 ∨ m = 7 ∨ m = 8 ∨ m = 9 ∨ m = 10 ∨ m = 11 ∨ m = 12 := by omega
    clear hm h3 h4
    rcases hc with rfl | rfl | rfl | rfl | rfl | rfl | rfl | rfl | rfl | rfl | rfl
    all_goals
      go_enter Try.func30, Try.ntmps30
      go_wp2
      go_ret
      exact ⟨ret_int (by simp [mlen]), rfl⟩

end Go.Proofs.Ytnafhjmeofddoaa
