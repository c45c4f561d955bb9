import Derived.Test.YtmlhcncagdfjfaaGreatFlf
namespace Go.Proofs.YtmlhcncagdfjfaaGreat.De
open Go.RowKit Fa
end Go.Proofs.YtmlhcncagdfjfaaGreat.De
