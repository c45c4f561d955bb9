import Derived.Test.YtmlhcncagdfjfaaGreatFlf
namespace Go.Proofs.YtmlhcncagdfjfaaGreat.De
open Go.RowKit Fa
section
variable {w : World} {T : Th} {F : List Int} {fa ra ba ea ca : Option Addr} {fc rc bc ec cc : Nat} {tag lit how rule : Int} {ch : List (Int × Int)}
theorem ChN.keep {N : Nat} {w w' : World} {a : Option Addr} {l : List (Int × Int)} (h : ChN N w a l) (hk : ∀ g, g < N → w'.heap[g]? = w.heap[g]?) : ChN N w' a l := fun i x hi => by
 obtain ⟨g, o, e, hg, c0, c1⟩ := h i x hi
 exact ⟨g, o, e, hg, (World.cell?_of_block (hk g hg)).trans c0, (World.cell?_of_block (hk g hg)).trans c1⟩
end
end Go.Proofs.YtmlhcncagdfjfaaGreat.De
