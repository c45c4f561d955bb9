/- Copy of a table: what the new one is made of. -/
import Derived.Test.YtijpdoclmplclaaSrt2
namespace Go.Proofs.Ytijpdoclmplclaa
open Go.RowKit Go.Shelf Go.Maps Go.WideMaps

theorem run_makeMapN (n : Nat) (w : World) : (Instr.makeMap 56 (some (.int .i64 n))).run Try.prog w = .ok (.map (some w.heap.size)) (w.alloc (.map #[] 0)) := by
  unfold Instr.makeMap
  simp [asInt, asIntOf]
end Go.Proofs.Ytijpdoclmplclaa
