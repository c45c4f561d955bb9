/- CopyMoney answers a slice of its own with the same amounts, and SameMoney says whether two slices hold the same amounts. -/
import Derived.Test.YthpbadnedhjncabGreatDoorInts
namespace Go.Proofs.YthpbadnedhjncabGreatDoor
open Go.RowKit

theorem infoMoney : (Tryz.prog.info? 22).map (fun i => (i.zero, i.size, i.bytes)) = some (some (.int .i64 0), 1, 8) := by kernel_rfl

end Go.Proofs.YthpbadnedhjncabGreatDoor
