/- The program's Check and Compare: what they answer. -/
import Derived.Test.YthpbadnedhjncabGreatDoorSmall
namespace Go.Proofs.YthpbadnedhjncabGreatDoor
open Go.RowKit

theorem check_any (m : Int) (w : World) : Calls Tryz.prog 12 #[.int .i64 m] w fun e w' => e = .returned (.int .i64 (checkM m)) ∧ w' = w := by
  by_cases h1 : m < -1000000000000000
  · have HV : Hid (checkM m = 22) := by unfold Hid checkM may; simp; omega
    go_enter Tryz.func12, Tryz.ntmps12
    go_wp2
    go_ret
    exact ⟨ret_i64 HV.out.symm, rfl⟩
  · by_cases h2 : 1000000000000000 < m
    · have HV : Hid (checkM m = 22) := by unfold Hid checkM may; simp; omega
      go_enter Tryz.func12, Tryz.ntmps12
      go_wp2
      go_ret
      exact ⟨ret_i64 HV.out.symm, rfl⟩
    · have HV : Hid (checkM m = 0) := by unfold Hid checkM may; simp; omega
      go_enter Tryz.func12, Tryz.ntmps12
      go_wp2
      go_ret
      exact ⟨ret_i64 HV.out.symm, rfl⟩

end Go.Proofs.YthpbadnedhjncabGreatDoor
