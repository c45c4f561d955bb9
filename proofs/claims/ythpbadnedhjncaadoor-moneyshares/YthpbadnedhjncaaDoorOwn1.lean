/- The program's Check and Compare: what they answer. -/
import Derived.Test.YthpbadnedhjncaaDoorSmall
namespace Go.Proofs.YthpbadnedhjncaaDoor
open Go.RowKit

theorem check_any (m : Int) (w : World) : Calls Tryd.prog 17 #[.int .i64 m] w fun e w' => e = .returned (.int .i64 (checkM m)) ∧ w' = w := by
  by_cases h1 : m < -1000000000000000
  · have HV : Hid (checkM m = 22) := by unfold Hid checkM may; simp; omega
    go_enter Tryd.func17, Tryd.ntmps17
    go_wp2
    go_ret
    exact ⟨ret_i64 HV.out.symm, rfl⟩
  · by_cases h2 : 1000000000000000 < m
    · have HV : Hid (checkM m = 22) := by unfold Hid checkM may; simp; omega
      go_enter Tryd.func17, Tryd.ntmps17
      go_wp2
      go_ret
      exact ⟨ret_i64 HV.out.symm, rfl⟩
    · have HV : Hid (checkM m = 0) := by unfold Hid checkM may; simp; omega
      go_enter Tryd.func17, Tryd.ntmps17
      go_wp2
      go_ret
      exact ⟨ret_i64 HV.out.symm, rfl⟩

theorem compare_any (a b : Int) (w : World) : Calls Tryd.prog 19 #[.int .i64 a, .int .i64 b] w fun e w' => e = .returned (.int .i64 (cmpM a b)) ∧ w' = w := by
  rcases (show a < b ∨ b < a ∨ (a ≤ b ∧ b ≤ a) by omega) with h | h | ⟨h, h'⟩
  · have HV : Hid (cmpM a b = -1) := by unfold Hid cmpM; rw [if_pos h]
    go_enter Tryd.func19, Tryd.ntmps19
    go_wp2
    go_ret
    exact ⟨ret_i64 HV.out.symm, rfl⟩
  · have HV : Hid (cmpM a b = 1) := by unfold Hid cmpM; rw [if_neg (by omega), if_pos h]
    go_enter Tryd.func19, Tryd.ntmps19
    go_wp2
    go_ret
    exact ⟨ret_i64 HV.out.symm, rfl⟩
  · have HV : Hid (cmpM a b = 0) := by unfold Hid cmpM; rw [if_neg (by omega), if_neg (by omega)]
    go_enter Tryd.func19, Tryd.ntmps19
    go_wp2
    go_ret
    exact ⟨ret_i64 HV.out.symm, rfl⟩

end Go.Proofs.YthpbadnedhjncaaDoor
