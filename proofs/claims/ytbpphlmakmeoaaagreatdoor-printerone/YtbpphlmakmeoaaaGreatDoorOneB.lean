import Derived.Test.YtbpphlmakmeoaaaGreatDoorOneA
namespace Go.Proofs.YtbpphlmakmeoaaaGreatDoor
open Go.ChangeShapes Go.WideShapes Go.ChangeAt Go.RowKit
namespace PrinterOne
theorem J5 : joinedFacts Tryz.pinned.checked.prog 7 Tryz.f7 (OpenSpec.ofChange Rows.printerOneSpec).bare Rows.printerOneRow = true := by kernel_rfl
end PrinterOne
end Go.Proofs.YtbpphlmakmeoaaaGreatDoor
