/- The program's Check and Compare: what they answer. -/
import Derived.Test.YthpbadnedhjncabDoorSmall
namespace Go.Proofs.YthpbadnedhjncabDoor
open Go.RowKit

theorem check_any (m : Int) (w : World) : Calls Tryd.prog 9 #[.int .i64 m] w fun e w' => e = .returned (.int .i64 (checkM m)) ∧ w' = w := by
  by_cases h1 : m < -1000000000000000
  · have HV : Hid (checkM m = 22) := by unfold Hid checkM may; simp; omega
    go_enter Tryd.func9, Tryd.ntmps9
    go_wp2
    go_ret
    exact ⟨ret_i64 HV.out.symm, rfl⟩
  · by_cases h2 : 1000000000000000 < m
    · have HV : Hid (checkM m = 22) := by unfold Hid checkM may; simp; omega
      go_enter Tryd.func9, Tryd.ntmps9
      go_wp2
      go_ret
      exact ⟨ret_i64 HV.out.symm, rfl⟩
    · have HV : Hid (checkM m = 0) := by unfold Hid checkM may; simp; omega
      go_enter Tryd.func9, Tryd.ntmps9
      go_wp2
      go_ret
      exact ⟨ret_i64 HV.out.symm, rfl⟩

end Go.Proofs.YthpbadnedhjncabDoor
