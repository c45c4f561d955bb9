/- The program's Share, whatever it is given. -/
import Derived.Test.YthpbadnedhjncabDoorStableAny
namespace Go.Proofs.YthpbadnedhjncabDoor
open Go.RowKit

theorem share_any (t : Int) (a : Option Addr) (len cap : Nat) (zs : List Int) (w : World) (hl : zs.length = len) (h : Nums .i64 w a zs) :
    Calls Tryd.prog 10 #[.int .i64 t, .slice a len cap] w fun e w' => ShareEnds w t zs e w' :=
  share_sorts t a len cap zs w hl h (fun k h1 h2 => sorts_any k (by omega) _)

end Go.Proofs.YthpbadnedhjncabDoor
