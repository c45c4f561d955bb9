import Derived.Test.YtbpphlmakmeoaaaGreatDoorLaid5
import Derived.Test.YtbpphlmakmeoaaaGreatDoorMoPrint
namespace Go.Proofs.YtbpphlmakmeoaaaGreatDoor
open Go.RowKit
theorem yr : (Rows.laid_internal_strconv_uint64pow10 : DataW Unit) = Lib.tabData .u64 Lib.pow10Tab := by kernel_rfl
theorem L8 : Tryz.prog.globalNamed "internal/strconv.uint64pow10" = some 0 := by kernel_rfl
theorem yo : (Tryz.prog.globals[0]?).map (·.type) = some 333 := by kernel_rfl
theorem yu : Tryz.prog.cellsOf 333 = 20 := by kernel_rfl
theorem yx : Tryz.prog.cellsOf 312 = 1 := by kernel_rfl
theorem tN {W : World} (h : laidMetH Tryz.prog lF W) : Mo.Tab W := by
 have h' : laidMet Tryz.prog lF W := h
 have h2 := laidMet.tail (laidMet.tail h')
 rw [yr] at h2
 exact Lib.tabIs_of_head L8 yo Tryz.underlying333 Tryz.underlying312 yx yu h2
end Go.Proofs.YtbpphlmakmeoaaaGreatDoor
