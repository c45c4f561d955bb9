import Derived.Test.YtmlhcncagdfjfaaGreatFlf
namespace Go.Proofs.YtmlhcncagdfjfaaGreat.De
open Go.RowKit Fa
section
variable {w : World} {T : Th} {F : List Int} {fa ra ba ea ca : Option Addr} {fc rc bc ec cc : Nat} {tag lit how rule : Int} {ch : List (Int × Int)}
theorem Sts.up {N N' : Nat} {w : World} {l : List StM} {a : Option Addr} (h : Sts N w l a) (hN : N ≤ N') : Sts N' w l a := by
 intro i s hi
 obtain ⟨g, o, ca, cc, e, hg, c0, c1, c2, c3, c4, Aa, hc, i1, i2⟩ := h i s hi
 exact ⟨g, o, ca, cc, e, by omega, c0, c1, c2, c3, c4, Aa, fun j x hj => by
  obtain ⟨g', o', e', hg', d0, d1⟩ := hc j x hj
  exact ⟨g', o', e', by omega, d0, d1⟩, i1, i2⟩
theorem ChN.keep {N : Nat} {w w' : World} {a : Option Addr} {l : List (Int × Int)} (h : ChN N w a l) (hk : ∀ g, g < N → w'.heap[g]? = w.heap[g]?) : ChN N w' a l := fun i x hi => by
 obtain ⟨g, o, e, hg, c0, c1⟩ := h i x hi
 exact ⟨g, o, e, hg, (World.cell?_of_block (hk g hg)).trans c0, (World.cell?_of_block (hk g hg)).trans c1⟩
end
end Go.Proofs.YtmlhcncagdfjfaaGreat.De
