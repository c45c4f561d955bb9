/- What the memory of a reader is, and what its methods leave as it was; what a call of one ends with: a thing, or a panic with a fault. -/
import Derived.Test.YthnjmfkiohgkkaaGreatDoorTokens
import Derived.Test.YthnjmfkiohgkkaaGreatDoorMoves
import Derived.Defers
import Derived.BigQuiet
import Derived.Deep.RegionWith
import Derived.Deep.QuietTactic
namespace Go.Proofs.YthnjmfkiohgkkaaGreatDoor.Sy
open Go.RowKit

/-- The nine cells of a statute. -/
structure St9 where
  title : Value
  kinds : Value
  members : Value
  preds : Value
  classes : Value
  sources : Value
  rules : Value
  excepts : Value
  totals : Value

def cellsR (tv : Value) (N : Nat) (s : RS) (st : St9) : Array Value :=
  #[tv, .int .i64 s.n, .int .i64 N, .bool s.full, .bool s.minus, st.title, st.kinds, st.members, st.preds, st.classes, st.sources, st.rules, st.excepts, st.totals]

def kt (L : List Tok) : Toks := L.map fun t => (t.kind, t.text)

/-- A row of tokens that lies below a block. -/
def TokRow (R : Nat) (w : World) (a : Option Addr) (L : List Tok) : Prop :=
  ∀ j t, L[j]? = some t → ∃ b, a = some ⟨b, 0, none⟩ ∧ b < R ∧ w.cell? ⟨b, j * 3, none⟩ = some (.int .i64 t.kind) ∧ w.cell? ⟨b, j * 3 + 1, none⟩ = some (.string ⟨t.text.toArray⟩) ∧ w.cell? ⟨b, j * 3 + 2, none⟩ = some (.int .i64 t.place)

/-- The variables of the library that a reader comes to. -/
def Vars (R : Nat) (w : World) : Prop :=
  ∃ e1 e2, w.cell? ⟨1, 0, none⟩ = some e1 ∧ w.cell? ⟨2, 0, none⟩ = some e2 ∧ 2 < R ∧ (e1 = .nilIface ∨ ∃ t p, e1 = .iface t p) ∧ (e2 = .nilIface ∨ ∃ t p, e2 = .iface t p)

/-- A reader lies in block R. -/
structure Rd (R : Nat) (L : List Tok) (N : Nat) (s : RS) (st : St9) (w : World) : Prop where
  lt : R < w.heap.size
  nle : s.n ≤ L.length
  Lle : L.length ≤ 65536
  Nle : N ≤ 65536
  blk : ∃ a c, w.heap[R]? = some (.cells (cellsR (.slice a L.length c) N s st) 62 (0, 0)) ∧ TokRow R w a L
  vars : Vars R w
  tle : ∀ t ∈ L, t.text.length ≤ 65536

/-- What a method of a reader leaves as it was. -/
structure Fq (R : Nat) (w w' : World) : Prop where
  os : w'.os = w.os
  tape : w'.tape = w.tape
  output : w'.output = w.output
  size : w.heap.size ≤ w'.heap.size
  block : ∀ k, k < w.heap.size → k ≠ R → w'.heap[k]? = w.heap[k]?

theorem Fq.refl (R : Nat) (w : World) : Fq R w w := ⟨rfl, rfl, rfl, Nat.le_refl _, fun _ _ _ => rfl⟩
theorem Fq.trans {R : Nat} {a b c : World} (h : Fq R a b) (k : Fq R b c) : Fq R a c :=
  ⟨k.os.trans h.os, k.tape.trans h.tape, k.output.trans h.output, Nat.le_trans h.size k.size, fun i hi hn => (k.block i (Nat.lt_of_lt_of_le hi h.size) hn).trans (h.block i hi hn)⟩
theorem Fq.set {R : Nat} {a w : World} (h : Fq R a w) (i : Nat) (v : Value) : Fq R a (w.setCell ⟨R, i, none⟩ v) :=
  ⟨h.os, h.tape, h.output, by simpa using h.size, fun k hk hn => (heap_setCell_other w ⟨R, i, none⟩ k v hn).trans (h.block k hk hn)⟩
theorem Fq.of_below {R : Nat} {w w' : World} (h : Below w.heap.size w w') : Fq R w w' :=
  ⟨h.os, h.tape, h.output, h.size, fun k hk _ => h.block k hk⟩
theorem Fq.drewN {R : Nat} {w : World} (q : Nat) : Fq R w (w.drewN q) := .of_below (below_drewN w q)

theorem Vars.keep {R : Nat} {w w' : World} (h : Vars R w) (hb : ∀ k, k < R → w'.heap[k]? = w.heap[k]?) : Vars R w' := by
  obtain ⟨e1, e2, h1, h2, h3, h4⟩ := h
  exact ⟨e1, e2, (World.cell?_of_block (hb 1 (by omega))).trans h1, (World.cell?_of_block (hb 2 (by omega))).trans h2, h3, h4⟩
theorem TokRow.keep {R : Nat} {w w' : World} {a : Option Addr} {L : List Tok} (h : TokRow R w a L) (hb : ∀ k, k < R → w'.heap[k]? = w.heap[k]?) : TokRow R w' a L := by
  intro j t hj
  obtain ⟨b, ha, hlt, h1, h2, h3⟩ := h j t hj
  exact ⟨b, ha, hlt, (World.cell?_of_block (hb b hlt)).trans h1, (World.cell?_of_block (hb b hlt)).trans h2, (World.cell?_of_block (hb b hlt)).trans h3⟩

section
variable {R : Nat} {L : List Tok} {N : Nat} {s : RS} {st : St9} {w w' : World}

theorem Rd.keep (h : Rd R L N s st w) (hs : w.heap.size ≤ w'.heap.size) (hb : ∀ k, k ≤ R → w'.heap[k]? = w.heap[k]?) : Rd R L N s st w' := by
  obtain ⟨h1, h2, h3, h4, ⟨a, c, h5, h6⟩, h7, h8⟩ := h
  exact ⟨by omega, h2, h3, h4, ⟨a, c, (hb R (Nat.le_refl _)).trans h5, h6.keep fun k hk => hb k (by omega)⟩, h7.keep fun k hk => hb k (by omega), h8⟩
theorem Rd.below (h : Rd R L N s st w) (hb : Below w.heap.size w w') : Rd R L N s st w' :=
  h.keep hb.size fun k hk => hb.block k (by have := h.lt; omega)
theorem Rd.drewN (h : Rd R L N s st w) (q : Nat) : Rd R L N s st (w.drewN q) := h.below (below_drewN w q)
theorem Rd.put (h : Rd R L N s st w) (s' : RS) (st' : St9) (i : Nat) (v : Value) (hn : s'.n ≤ L.length)
    (hv : ∀ tv, (cellsR tv N s st).setIfInBounds i v = cellsR tv N s' st') : Rd R L N s' st' (w.setCell ⟨R, i, none⟩ v) := by
  obtain ⟨h1, h2, h3, h4, ⟨a, c, h5, h6⟩, h7, h8⟩ := h
  have hk : ∀ k, k < R → (w.setCell ⟨R, i, none⟩ v).heap[k]? = w.heap[k]? := fun k hk => heap_setCell_other w ⟨R, i, none⟩ k v (by show k ≠ R; omega)
  exact ⟨by simpa using h1, hn, h3, h4, ⟨a, c, by rw [heap_setCell_same w R i _ 62 v h5, hv], h6.keep hk⟩, h7.keep hk, h8⟩
theorem Rd.setN (h : Rd R L N s st w) (n : Nat) (hn : n ≤ L.length) : Rd R L N { s with n := n } st (w.setCell ⟨R, 1, none⟩ (.int .i64 n)) := h.put _ _ 1 _ hn fun _ => rfl
theorem Rd.setFull (h : Rd R L N s st w) (b : Bool) : Rd R L N { s with full := b } st (w.setCell ⟨R, 3, none⟩ (.bool b)) := h.put _ _ 3 _ h.nle fun _ => rfl
theorem Rd.setMinus (h : Rd R L N s st w) (b : Bool) : Rd R L N { s with minus := b } st (w.setCell ⟨R, 4, none⟩ (.bool b)) := h.put _ _ 4 _ h.nle fun _ => rfl
theorem Rd.frz (h : Rd R L N s st w) (i : Nat) : w.frozen? ⟨R, i, none⟩ = false := by
  obtain ⟨a, c, hb, _⟩ := h.blk
  exact frozen_of_row w R i _ 62 hb
theorem Rd.c1 (h : Rd R L N s st w) : w.cell? ⟨R, 1, none⟩ = some (.int .i64 s.n) := by obtain ⟨a, c, hb, _⟩ := h.blk; rw [cell_of_row w R 1 _ 62 _ hb]; rfl
theorem Rd.c2 (h : Rd R L N s st w) : w.cell? ⟨R, 2, none⟩ = some (.int .i64 N) := by obtain ⟨a, c, hb, _⟩ := h.blk; rw [cell_of_row w R 2 _ 62 _ hb]; rfl
theorem Rd.c3 (h : Rd R L N s st w) : w.cell? ⟨R, 3, none⟩ = some (.bool s.full) := by obtain ⟨a, c, hb, _⟩ := h.blk; rw [cell_of_row w R 3 _ 62 _ hb]; rfl
theorem Rd.c4 (h : Rd R L N s st w) : w.cell? ⟨R, 4, none⟩ = some (.bool s.minus) := by obtain ⟨a, c, hb, _⟩ := h.blk; rw [cell_of_row w R 4 _ 62 _ hb]; rfl
end
end Go.Proofs.YthnjmfkiohgkkaaGreatDoor.Sy
