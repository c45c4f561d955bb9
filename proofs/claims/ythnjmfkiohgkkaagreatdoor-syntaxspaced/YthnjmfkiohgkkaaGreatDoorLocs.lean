/- What lies in a call's own blocks. -/
import Derived.Test.YthnjmfkiohgkkaaGreatDoorLists
namespace Go.Proofs.YthnjmfkiohgkkaaGreatDoor.Sy
open Go.RowKit

theorem loc_lt {w : World} {q : Nat} {o : Obj} (h : w.heap[q]? = some o) : q < w.heap.size := by
  apply Classical.byContradiction
  intro hn
  rw [Array.getElem?_eq_none (by omega)] at h
  cases h
theorem loc_set {w : World} {q T i : Nat} {cs : Array Value} {v : Value} (h : w.heap[q]? = some (.cells cs T (0, 0))) : (w.setCell ⟨q, i, none⟩ v).heap[q]? = some (.cells (cs.setIfInBounds i v) T (0, 0)) := heap_setCell_same w q i cs T v h
theorem loc_other {w : World} {q : Nat} {p : Addr} {o : Obj} {v : Value} (h : w.heap[q]? = some o) (hn : q ≠ p.block) : (w.setCell p v).heap[q]? = some o := (heap_setCell_other w p q v hn).trans h
theorem Fq.loc {R : Nat} {w w' : World} {q : Nat} {o : Obj} (hF : Fq R w w') (h : w.heap[q]? = some o) (hn : q ≠ R) : w'.heap[q]? = some o := (hF.block q (loc_lt h) hn).trans h
theorem Rd.setLoc {R : Nat} {L : List Tok} {N : Nat} {s : RS} {st : St9} {w : World} (h : Rd R L N s st w) {q : Nat} (hq : R < q) (i : Nat) (v : Value) : Rd R L N s st (w.setCell ⟨q, i, none⟩ v) :=
  h.keep (by simp) fun k hk => heap_setCell_other w ⟨q, i, none⟩ k v (by show k ≠ q; omega)
theorem Fq.setLoc {R : Nat} {w0 w : World} (h : Fq R w0 w) {q : Nat} (hq : w0.heap.size ≤ q) (i : Nat) (v : Value) : Fq R w0 (w.setCell ⟨q, i, none⟩ v) :=
  ⟨h.os, h.tape, h.output, by simpa using h.size, fun k hk hn => (heap_setCell_other w ⟨q, i, none⟩ k v (by show k ≠ q; omega)).trans (h.block k hk hn)⟩
theorem Kp.setLoc {T : List Nat} {Z : Nat → Prop} {w : World} {q t i : Nat} {cs : Array Value} {v : Value} (h : w.heap[q]? = some (.cells cs t (0, 0))) (ht : t ∉ T) : Kp T Z w (w.setCell ⟨q, i, none⟩ v) := by
  intro g cur t' _ hg hm
  refine loc_other hg ?_
  rintro rfl
  rw [h] at hg
  cases hg
  exact ht hm

theorem rows_form {α : Type} {Z : Nat → Prop} {e k : Nat} {c : World → α → List Value → Prop} {w : World} {l : List α} {v : Value} (h : Rows Z e k c w l v) : ∃ a c, v = .slice a l.length c := by
  obtain ⟨xs, h1, _⟩ := h
  exact slice_form h1.1

section
variable {w : World} {q T : Nat} {a0 a1 a2 a3 a4 a5 a6 a7 a8 a9 a10 : Value}
theorem row2 (h : w.heap[q]? = some (.cells #[a0, a1] T (0, 0))) : w.cell? ⟨q, 0, none⟩ = some a0 ∧ w.cell? ⟨q, 1, none⟩ = some a1 ∧ ∀ i, w.frozen? ⟨q, i, none⟩ = false :=
  ⟨cell_of_row w q 0 _ T _ h, cell_of_row w q 1 _ T _ h, fun i => frozen_of_row w q i _ T h⟩
theorem row3 (h : w.heap[q]? = some (.cells #[a0, a1, a2] T (0, 0))) : w.cell? ⟨q, 0, none⟩ = some a0 ∧ w.cell? ⟨q, 1, none⟩ = some a1 ∧ w.cell? ⟨q, 2, none⟩ = some a2 ∧ ∀ i, w.frozen? ⟨q, i, none⟩ = false :=
  ⟨cell_of_row w q 0 _ T _ h, cell_of_row w q 1 _ T _ h, cell_of_row w q 2 _ T _ h, fun i => frozen_of_row w q i _ T h⟩
theorem row4 (h : w.heap[q]? = some (.cells #[a0, a1, a2, a3] T (0, 0))) : w.cell? ⟨q, 0, none⟩ = some a0 ∧ w.cell? ⟨q, 1, none⟩ = some a1 ∧ w.cell? ⟨q, 2, none⟩ = some a2 ∧ w.cell? ⟨q, 3, none⟩ = some a3 ∧ ∀ i, w.frozen? ⟨q, i, none⟩ = false :=
  ⟨cell_of_row w q 0 _ T _ h, cell_of_row w q 1 _ T _ h, cell_of_row w q 2 _ T _ h, cell_of_row w q 3 _ T _ h, fun i => frozen_of_row w q i _ T h⟩
theorem row5 (h : w.heap[q]? = some (.cells #[a0, a1, a2, a3, a4] T (0, 0))) : w.cell? ⟨q, 0, none⟩ = some a0 ∧ w.cell? ⟨q, 1, none⟩ = some a1 ∧ w.cell? ⟨q, 2, none⟩ = some a2 ∧ w.cell? ⟨q, 3, none⟩ = some a3 ∧ w.cell? ⟨q, 4, none⟩ = some a4 ∧ ∀ i, w.frozen? ⟨q, i, none⟩ = false :=
  ⟨cell_of_row w q 0 _ T _ h, cell_of_row w q 1 _ T _ h, cell_of_row w q 2 _ T _ h, cell_of_row w q 3 _ T _ h, cell_of_row w q 4 _ T _ h, fun i => frozen_of_row w q i _ T h⟩
theorem row11 (h : w.heap[q]? = some (.cells #[a0, a1, a2, a3, a4, a5, a6, a7, a8, a9, a10] T (0, 0))) : w.cell? ⟨q, 0, none⟩ = some a0 ∧ w.cell? ⟨q, 1, none⟩ = some a1 ∧ w.cell? ⟨q, 2, none⟩ = some a2 ∧ w.cell? ⟨q, 3, none⟩ = some a3 ∧ w.cell? ⟨q, 4, none⟩ = some a4 ∧
    w.cell? ⟨q, 5, none⟩ = some a5 ∧ w.cell? ⟨q, 6, none⟩ = some a6 ∧ w.cell? ⟨q, 7, none⟩ = some a7 ∧ w.cell? ⟨q, 8, none⟩ = some a8 ∧ w.cell? ⟨q, 9, none⟩ = some a9 ∧ w.cell? ⟨q, 10, none⟩ = some a10 ∧ ∀ i, w.frozen? ⟨q, i, none⟩ = false :=
  ⟨cell_of_row w q 0 _ T _ h, cell_of_row w q 1 _ T _ h, cell_of_row w q 2 _ T _ h, cell_of_row w q 3 _ T _ h, cell_of_row w q 4 _ T _ h, cell_of_row w q 5 _ T _ h, cell_of_row w q 6 _ T _ h, cell_of_row w q 7 _ T _ h, cell_of_row w q 8 _ T _ h, cell_of_row w q 9 _ T _ h, cell_of_row w q 10 _ T _ h, fun i => frozen_of_row w q i _ T h⟩
end
end Go.Proofs.YthnjmfkiohgkkaaGreatDoor.Sy
