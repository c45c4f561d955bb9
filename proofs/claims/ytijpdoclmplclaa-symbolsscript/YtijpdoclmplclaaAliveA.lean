/- The page's examples: what they come to. -/
import Derived.Test.YtijpdoclmplclaaSame
import Derived.Test.YtijpdoclmplclaaSrt2
namespace Go.Proofs.Ytijpdoclmplclaa
open Go.RowKit Go.Shelf Go.Maps

theorem Fr.low {w0 w w' : World} (h : Fr (fun k => w0.heap.size ≤ k) w w') (hb : Below w0.heap.size w0 w) : Below w0.heap.size w0 w' := hb.trans (h.below fun k hk => ⟨Nat.lt_of_lt_of_le hk hb.size, by show ¬ w0.heap.size ≤ k; omega⟩)
theorem z_new {w0 w : World} {Z : Nat → Prop} (hz : ∀ g, w0.heap.size ≤ g → Z g) (h : w0.heap.size ≤ w.heap.size) : ∀ g, w.heap.size ≤ g → Z g := fun g hg => hz g (Nat.le_trans h hg)

theorem own_zero {w : World} {base e k : Nat} {v : Value} {n : Nat} {xs : List Value} (h : w.ownsRow base e k v n xs) : w.ownsRow 0 e k v n xs := by
  refine ⟨h.1, ?_⟩
  rcases h.2 with e | ⟨g, cap, cur, e1, e2, e3⟩
  · exact .inl e
  · exact .inr ⟨g, cap, cur, e1, Nat.zero_le _, e3⟩
theorem ab1 : addM 4 [] [98] = (0, 0, [[98]]) := by decide
theorem ab2 : addM 4 [[98]] [97] = (1, 0, [[98], [97]]) := by decide
theorem ab3 : addM 4 [[98], [97]] [98] = (0, 0, [[98], [97]]) := by decide
theorem ab4 : addM 4 [[98], [97]] [66] = (0, 71, [[98], [97]]) := by decide
theorem ab5 : srt [[98], [97]] = [1, 0] := by simp [srt, List.range, List.range.loop, List.mergeSort, List.MergeSort.Internal.splitInTwo, ltB]
end Go.Proofs.Ytijpdoclmplclaa
