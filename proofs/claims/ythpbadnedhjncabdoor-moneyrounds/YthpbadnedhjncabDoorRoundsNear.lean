/- MoneyRounds, walked. -/
import Derived.Test.YthpbadnedhjncabDoorWorks
import Derived.Test.YthpbadnedhjncabDoorRoundsPlain
namespace Go.Proofs.YthpbadnedhjncabDoor
open Go.RowKit

theorem nearer_any (a b : Int) (w : World) : Calls Tryd.prog 12 #[.int .i64 a, .int .i64 b] w fun e w' => e = .returned (.int .i64 (if 0 ≤ a then a else b)) ∧ w' = w := by
  by_cases h : 0 ≤ a
  · rw [if_pos h]
    go_enter Tryd.func12, Tryd.ntmps12
    go_wp2
    go_ret
    exact ⟨rfl, rfl⟩
  · rw [if_neg h]
    go_enter Tryd.func12, Tryd.ntmps12
    go_wp2
    go_ret
    exact ⟨rfl, rfl⟩

theorem small_mul {m n : Int} (h0 : -1073741824 ≤ m) (h1 : m ≤ 1073741824) (h2 : -1048576 ≤ n) (h3 : n ≤ 1048576) : -1125899906842624 ≤ m * n ∧ m * n ≤ 1125899906842624 := by
  have e : (m * n).natAbs = m.natAbs * n.natAbs := Int.natAbs_mul m n
  have : m.natAbs * n.natAbs ≤ 1073741824 * 1048576 := Nat.mul_le_mul (by omega) (by omega)
  omega

theorem near_any (x m n d : Int) (w : World) (hd : 1 ≤ d) (hd1 : d ≤ 1000000000) (h : -d ≤ 2 * (x * d - m * n) ∧ 2 * (x * d - m * n) ≤ d) :
    Calls Tryd.prog 13 #[.int .i64 x, .int .i64 m, .int .i64 n, .int .i64 d] w fun e w' => e = .returned (.bool true) ∧ w' = w := by
  by_cases c : 1073741824 < m ∨ m < -1073741824 ∨ 1048576 < n ∨ n < -1048576 ∨ 1048576 < d
  · clear h
    by_cases c1 : 1073741824 < m
    · clear c
      go_enter Tryd.func13, Tryd.ntmps13
      go_wp2
      go_ret
      exact ⟨rfl, rfl⟩
    by_cases c2 : m < -1073741824
    · clear c
      go_enter Tryd.func13, Tryd.ntmps13
      go_wp2
      go_ret
      exact ⟨rfl, rfl⟩
    by_cases c3 : 1048576 < n
    · clear c
      go_enter Tryd.func13, Tryd.ntmps13
      go_wp2
      go_ret
      exact ⟨rfl, rfl⟩
    by_cases c4 : n < -1048576
    · clear c
      go_enter Tryd.func13, Tryd.ntmps13
      go_wp2
      go_ret
      exact ⟨rfl, rfl⟩
    have c5 : 1048576 < d := by omega
    clear c
    go_enter Tryd.func13, Tryd.ntmps13
    go_wp2
    go_ret
    exact ⟨rfl, rfl⟩
  · have hs := small_mul (m := m) (n := n) (by omega) (by omega) (by omega) (by omega)
    obtain ⟨p, hp⟩ : ∃ p, p = x * d := ⟨_, rfl⟩
    obtain ⟨q, hq⟩ : ∃ q, q = m * n := ⟨_, rfl⟩
    have HV : Hid (decide (-d ≤ 2 * (x * d - m * n)) = true) := decide_eq_true h.1
    rw [← hp, ← hq] at h
    rw [← hq] at hs
    have c1 : ¬ 1073741824 < m := by omega
    have c2 : ¬ m < -1073741824 := by omega
    have c3 : ¬ 1048576 < n := by omega
    have c4 : ¬ n < -1048576 := by omega
    have c5 : ¬ 1048576 < d := by omega
    clear c
    go_enter Tryd.func13, Tryd.ntmps13
    go_wp2
    go_ret
    exact ⟨ret_bool HV.out, rfl⟩

end Go.Proofs.YthpbadnedhjncabDoor
