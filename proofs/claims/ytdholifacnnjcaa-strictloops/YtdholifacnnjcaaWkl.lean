/- worklist. -/
import Derived.Test.YtdholifacnnjcaaSay
namespace Go.Proofs.Ytdholifacnnjcaa
open Go.RowKit

theorem two_boxes (w : World) (o1 o2 : Obj) : Below w.heap.size w ((w.alloc o1).alloc o2) ∧ ((w.alloc o1).alloc o2).heap[w.heap.size]? = some o1 ∧ ((w.alloc o1).alloc o2).heap[w.heap.size + 1]? = some o2 := by
  have hs1 : (w.alloc o1).heap.size = w.heap.size + 1 := by simp
  have hA1 : Below w.heap.size w (w.alloc o1) := below_new w o1
  refine ⟨hA1.alloc (by omega) _, (Below.heap_alloc _ o2 _ (by omega)).trans (heap_alloc_new w o1), ?_⟩
  have := heap_alloc_new (w.alloc o1) o2
  rw [hs1] at this
  exact this
set_option maxRecDepth 100000 in
set_option maxHeartbeats 6400000 in
theorem worklist_any {w : World} {n : Nat} (hn : n ≤ 4096) :
    Calls Try.prog 24 #[.int .i64 n] w fun e w' => ∃ cr cb qb, e = .returned (.tuple #[.func (.func 41) #[] #[ptr cb, ptr qb], .func (.func 42) #[] #[ptr qb]]) ∧ Fx cr 4 (bools (List.replicate n false)) w' ∧ Fx cb 31 [.slice (some ⟨cr, 0, none⟩) n n] w' ∧ Fx qb 26 [.slice none 0 0] w' ∧ (w.heap.size ≤ cr ∧ w.heap.size ≤ cb ∧ w.heap.size ≤ qb) ∧ Below w.heap.size w w' := by
  obtain ⟨iB, hiB, zB0, zB1, zB2⟩ := info_parts infoBo
  have hm := fun W => run_make_fix (P := Try.prog) Try.underlying31 hiB zB0 zB1 rfl n (by rw [zB2]; omega) (by unfold maxLen; omega) W
  go_enter Try.func24, Try.ntmps24
  go_wp2_with fail
  go_ret2
  obtain ⟨h1, h2, h3⟩ := two_boxes w (.cells (Array.replicate n (.bool false)) 4) (.cells #[.slice (some ⟨w.heap.size, 0, none⟩) n n] 31)
  have hs : ((w.alloc (.cells (Array.replicate n (.bool false)) 4)).alloc (.cells #[.slice (some ⟨w.heap.size, 0, none⟩) n n] 31)).heap.size = w.heap.size + 1 + 1 := by simp
  generalize (w.alloc (.cells (Array.replicate n (.bool false)) 4)).alloc (.cells #[.slice (some ⟨w.heap.size, 0, none⟩) n n] 31) = Y at *
  have hy := below_new Y (.cells #[.slice none 0 0] 26)
  have hz := heap_alloc_new Y (.cells #[.slice none 0 0] 26)
  rw [hs] at hz
  refine ⟨_, _, _, rfl, ?_, (hy.block _ (by omega)).trans h3, hz, by omega, h1.trans (hy.mono h1.size)⟩
  unfold Fx
  rw [(hy.block _ (by omega)).trans h2, bools_rep]
end Go.Proofs.Ytdholifacnnjcaa
