/- The program's Clamp: what it answers. -/
import Derived.Test.YthpbadnedhjncabGreatDoorOwn1
namespace Go.Proofs.YthpbadnedhjncabGreatDoor
open Go.RowKit

theorem checkM_true {m : Int} (h : may m = true) : checkM m = 0 := by unfold checkM; rw [h]; rfl
theorem checkM_false {m : Int} (h : may m = false) : checkM m = 22 := by unfold checkM; rw [h]; rfl

end Go.Proofs.YthpbadnedhjncabGreatDoor
