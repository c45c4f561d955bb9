import Derived.Test.YtbpphlmakmeoaaaGreatDoorParse5
import Derived.Test.YtbpphlmakmeoaaaGreatDoorNz5
namespace Go.Proofs.YtbpphlmakmeoaaaGreatDoor.Sy
open Go.RowKit
theorem zL (x : Int) (w : World) : Calls Tryz.prog 12 #[.int .i64 x] w fun e w' => e = .returned (.int .i64 x) ∧ w' = w := by
 go_enter Tryz.func12, Tryz.ntmps12
 go_wp2_with fail
 go_ret
 exact ⟨rfl, rfl⟩
end Go.Proofs.YtbpphlmakmeoaaaGreatDoor.Sy
