/- The document's small functions. -/
import Derived.Test.YtlllgndbcagkgaaTokens
namespace Go.Proofs.Ytlllgndbcagkgaa
open Go.RowKit

theorem cls_nums (n : Int) : (cls n = 1 ↔ n = 10) ∧ (cls n = 2 ↔ n = 9 ∨ n = 13 ∨ n = 32) ∧ (cls n = 3 ↔ 97 ≤ n ∧ n ≤ 122) ∧ (cls n = 4 ↔ 65 ≤ n ∧ n ≤ 90) ∧ (cls n = 5 ↔ 48 ≤ n ∧ n ≤ 57) ∧ (cls n = 6 ↔ n = 95) ∧ (cls n = 7 ↔ n = 34) ∧ (cls n = 8 ↔ n = 35) ∧ (cls n = 9 ↔ n = 46) := by
  have h : ∀ x, x = cls n → (x = 1 ↔ n = 10) ∧ (x = 2 ↔ n = 9 ∨ n = 13 ∨ n = 32) ∧ (x = 3 ↔ 97 ≤ n ∧ n ≤ 122) ∧ (x = 4 ↔ 65 ≤ n ∧ n ≤ 90) ∧ (x = 5 ↔ 48 ≤ n ∧ n ≤ 57) ∧ (x = 6 ↔ n = 95) ∧ (x = 7 ↔ n = 34) ∧ (x = 8 ↔ n = 35) ∧ (x = 9 ↔ n = 46) := by
    intro x hx
    unfold cls at hx
    repeat' split at hx
    all_goals omega
  exact h _ rfl

set_option maxHeartbeats 800000 in
theorem small_any (c : UInt8) (w : World) : Calls Try.prog 48 #[.int .u8 c.toNat] w fun e w' => e = .returned (.bool (decide (clsB c = 3))) ∧ w' = w := by
  have H := (cls_nums c.toNat).2.2.1
  have e : decide (clsB c = 3) = decide (97 ≤ (c.toNat : Int) ∧ (c.toNat : Int) ≤ 122) := by unfold clsB; simp only [H]
  rw [e]
  clear H e
  go_enter Try.func48, Try.ntmps48
  go_wp2
  all_goals go_ret
  all_goals refine ⟨ret_bool ?_, rfl⟩
  all_goals simp
  all_goals omega

set_option maxHeartbeats 800000 in
theorem capital_any (c : UInt8) (w : World) : Calls Try.prog 49 #[.int .u8 c.toNat] w fun e w' => e = .returned (.bool (decide (clsB c = 4))) ∧ w' = w := by
  have H := (cls_nums c.toNat).2.2.2.1
  have e : decide (clsB c = 4) = decide (65 ≤ (c.toNat : Int) ∧ (c.toNat : Int) ≤ 90) := by unfold clsB; simp only [H]
  rw [e]
  clear H e
  go_enter Try.func49, Try.ntmps49
  go_wp2
  all_goals go_ret
  all_goals refine ⟨ret_bool ?_, rfl⟩
  all_goals simp
  all_goals omega

set_option maxHeartbeats 800000 in
theorem digit_any (c : UInt8) (w : World) : Calls Try.prog 47 #[.int .u8 c.toNat] w fun e w' => e = .returned (.bool (digB c)) ∧ w' = w := by
  have e : digB c = decide (48 ≤ (c.toNat : Int) ∧ (c.toNat : Int) ≤ 57) := by
    unfold digB
    rw [decide_eq_decide]; omega
  rw [e]
  clear e
  go_enter Try.func47, Try.ntmps47
  go_wp2
  all_goals go_ret
  all_goals refine ⟨ret_bool ?_, rfl⟩
  all_goals simp
  all_goals omega
end Go.Proofs.Ytlllgndbcagkgaa
