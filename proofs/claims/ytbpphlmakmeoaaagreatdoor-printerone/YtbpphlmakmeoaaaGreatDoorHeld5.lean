import Derived.Test.YtbpphlmakmeoaaaGreatDoorSpacedForm
import Derived.Test.YtbpphlmakmeoaaaGreatDoorAlive6
import Derived.Test.YtbpphlmakmeoaaaGreatDoorSmall5
import Derived.Test.YtbpphlmakmeoaaaGreatDoorGapAll
namespace Go.Proofs.YtbpphlmakmeoaaaGreatDoor.Sy
open Go.RowKit
theorem nu : Held StatM.none := rG []
theorem j7 (l : ee) : Held (parseM l).1 := by
 unfold parseM
 split
 · split
   · next S t ht => exact wI FN _ _ _ _ ht
   · exact nu
 · exact nu
end Go.Proofs.YtbpphlmakmeoaaaGreatDoor.Sy
