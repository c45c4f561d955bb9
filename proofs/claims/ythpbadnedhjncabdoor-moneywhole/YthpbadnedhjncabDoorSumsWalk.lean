/- MoneySums, walked. -/
import Derived.Test.YthpbadnedhjncabDoorWorks
import Derived.Test.YthpbadnedhjncabDoorSum
namespace Go.Proofs.YthpbadnedhjncabDoor
open Go.RowKit

theorem nums_of_own {w : World} {B e n cap : Nat} {a : Option Addr} {q : IntKind} {zs : List Int} (h : w.ownsRow B e 1 (.slice a n cap) n (zs.map (Value.int q))) : Nums q w a zs := by
  refine ⟨fun hz => ?_⟩
  have hl : zs.length = n := by simpa using h.1
  have hpos : 0 < n := by rw [← hl]; exact List.length_pos_iff.2 hz
  obtain ⟨g, c, e', _⟩ := own_some h hpos
  simp only [Value.slice.injEq] at e'
  obtain ⟨rfl, _, rfl⟩ := e'
  refine ⟨g, 0, rfl, fun i hi => ?_⟩
  rw [Nat.zero_add, h.cellAt i (by omega)]
  simp [List.getD, hi]

end Go.Proofs.YthpbadnedhjncabDoor
