/- CopyBytes answers a slice of its own with the same bytes, and SameBytes says whether two slices hold the same bytes. -/
import Derived.Test.YtdmnoeooljofcaaMem
namespace Go.Proofs.Ytdmnoeooljofcaa
open Go.RowKit

end Go.Proofs.Ytdmnoeooljofcaa
