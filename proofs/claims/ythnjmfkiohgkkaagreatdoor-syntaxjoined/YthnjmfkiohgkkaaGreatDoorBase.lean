/- What the memory of a scanner is: its seven cells, its row of tokens and its row of remarks; and what a call of one of its methods leaves as it was. -/
import Derived.Test.YthnjmfkiohgkkaaGreatDoorSmall
import Derived.Deep.AppendLies
import Derived.OneCell
import Derived.Laws.EntriesVeiled
namespace Go.Proofs.YthnjmfkiohgkkaaGreatDoor
open Go.RowKit

/-- A text as a value. -/
def strV (l : List UInt8) : Value := .string ⟨l.toArray⟩

/-- A row of tokens as cells. -/
def cellsT (l : List Tok) : List Value := l.flatMap fun t => [.int .i64 t.kind, strV t.text, .int .i64 t.place]

theorem cellsT_snoc (l : List Tok) (t : Tok) : cellsT (l ++ [t]) = cellsT l ++ [.int .i64 t.kind, strV t.text, .int .i64 t.place] := by simp [cellsT]

def cellsOf (B : Nat) (T : ByteArray) (S : St) (tv rv : Value) : Array Value :=
  #[.string T, .func (.func S.fn) #[.pointer (some ⟨B, 0, none⟩)] #[], .int .i64 S.frm, tv, rv, .int .i64 S.err, .int .i64 S.place]

/-- The scanner lies in block B. -/
def Sc (B : Nat) (T : ByteArray) (S : St) (w : World) : Prop :=
  B + 2 ≤ w.heap.size ∧ ∃ tv rv, w.heap[B]? = some (.cells (cellsOf B T S tv rv) 116 (0, 0)) ∧ w.ownsRow (B + 2) 50 3 tv S.tk.length (cellsT S.tk) ∧ w.ownsRow (B + 2) 9 1 rv S.rm.length (S.rm.map strV)

/-- What a method leaves as it was. -/
structure Fr (B : Nat) (w w' : World) : Prop where
  os : w'.os = w.os
  tape : w'.tape = w.tape
  output : w'.output = w.output
  size : w.heap.size ≤ w'.heap.size
  block : ∀ k, k < B + 2 → k ≠ B → w'.heap[k]? = w.heap[k]?

theorem Fr.refl (B : Nat) (w : World) : Fr B w w := ⟨rfl, rfl, rfl, Nat.le_refl _, fun _ _ _ => rfl⟩
theorem Fr.trans {B : Nat} {a b c : World} (h : Fr B a b) (k : Fr B b c) : Fr B a c :=
  ⟨k.os.trans h.os, k.tape.trans h.tape, k.output.trans h.output, Nat.le_trans h.size k.size, fun i hi hn => (k.block i hi hn).trans (h.block i hi hn)⟩
theorem Fr.set {B : Nat} {a w : World} (h : Fr B a w) (i : Nat) (v : Value) : Fr B a (w.setCell ⟨B, i, none⟩ v) :=
  ⟨h.os, h.tape, h.output, by simpa using h.size, fun k hk hn => (heap_setCell_other w ⟨B, i, none⟩ k v hn).trans (h.block k hk hn)⟩
theorem Fr.drew {B : Nat} {a w : World} (h : Fr B a w) : Fr B a w.drew := ⟨h.os, h.tape, h.output, h.size, h.block⟩
theorem Fr.of_below {B : Nat} {w w' : World} (hB : B + 2 ≤ w.heap.size) (h : Below w.heap.size w w') : Fr B w w' :=
  ⟨h.os, h.tape, h.output, h.size, fun k hk _ => h.block k (by omega)⟩
theorem Fr.grown {B : Nat} {w w' : World} {row : Option Nat} (hB : B + 2 ≤ w.heap.size) (h : w.grownBy w' row) (hr : ∀ k, row = some k → B + 2 ≤ k) : Fr B w w' :=
  ⟨h.os, h.tape, h.output, h.size, fun k hk _ => h.block k (by omega) fun e => by have := hr k e.symm; omega⟩

theorem Sc.drew {B : Nat} {T : ByteArray} {S : St} {w : World} (h : Sc B T S w) : Sc B T S w.drew := h

section
variable {B : Nat} {T : ByteArray} {S : St} {w : World}

/-- One cell of the scanner is written. -/
theorem Sc.put (h : Sc B T S w) (S' : St) (i : Nat) (v : Value) (ht : S'.tk = S.tk) (hr : S'.rm = S.rm)
    (hv : ∀ tv rv, (cellsOf B T S tv rv).setIfInBounds i v = cellsOf B T S' tv rv) : Sc B T S' (w.setCell ⟨B, i, none⟩ v) := by
  obtain ⟨hs, tv, rv, hb, h1, h2⟩ := h
  refine ⟨by simpa using hs, tv, rv, ?_, ?_, ?_⟩
  · rw [heap_setCell_same w B i _ 116 v hb, hv]
  · rw [ht]; exact ownsRow_setCell_below h1 (by simp) v
  · rw [hr]; exact ownsRow_setCell_below h2 (by simp) v

theorem Sc.setFrm (h : Sc B T S w) (p : Nat) : Sc B T { S with frm := p } (w.setCell ⟨B, 2, none⟩ (.int .i64 p)) := h.put _ 2 _ rfl rfl fun _ _ => rfl
theorem Sc.setFn (h : Sc B T S w) (f : Nat) : Sc B T { S with fn := f } (w.setCell ⟨B, 1, none⟩ (.func (.func f) #[.pointer (some ⟨B, 0, none⟩)] #[])) := h.put _ 1 _ rfl rfl fun _ _ => rfl
theorem Sc.setErr (h : Sc B T S w) (e : Int) : Sc B T { S with err := e } (w.setCell ⟨B, 5, none⟩ (.int .i64 e)) := h.put _ 5 _ rfl rfl fun _ _ => rfl
theorem Sc.setPlace (h : Sc B T S w) (p : Nat) : Sc B T { S with place := p } (w.setCell ⟨B, 6, none⟩ (.int .i64 p)) := h.put _ 6 _ rfl rfl fun _ _ => rfl

theorem Sc.text (h : Sc B T S w) : w.cell? ⟨B, 0, none⟩ = some (.string T) := by
  obtain ⟨_, tv, rv, hb, _⟩ := h; rw [cell_of_row w B 0 _ 116 _ hb]; rfl
theorem Sc.fnc (h : Sc B T S w) : w.cell? ⟨B, 1, none⟩ = some (.func (.func S.fn) #[.pointer (some ⟨B, 0, none⟩)] #[]) := by
  obtain ⟨_, tv, rv, hb, _⟩ := h; rw [cell_of_row w B 1 _ 116 _ hb]; rfl
theorem Sc.frmc (h : Sc B T S w) : w.cell? ⟨B, 2, none⟩ = some (.int .i64 S.frm) := by
  obtain ⟨_, tv, rv, hb, _⟩ := h; rw [cell_of_row w B 2 _ 116 _ hb]; rfl
theorem Sc.errc (h : Sc B T S w) : w.cell? ⟨B, 5, none⟩ = some (.int .i64 S.err) := by
  obtain ⟨_, tv, rv, hb, _⟩ := h; rw [cell_of_row w B 5 _ 116 _ hb]; rfl
theorem Sc.placec (h : Sc B T S w) : w.cell? ⟨B, 6, none⟩ = some (.int .i64 S.place) := by
  obtain ⟨_, tv, rv, hb, _⟩ := h; rw [cell_of_row w B 6 _ 116 _ hb]; rfl
theorem Sc.frz (h : Sc B T S w) (i : Nat) : w.frozen? ⟨B, i, none⟩ = false := by
  obtain ⟨_, tv, rv, hb, _⟩ := h; simp [World.frozen?, hb]
theorem Sc.below {w1 : World} (h : Sc B T S w) (hb : Below w.heap.size w w1) : Sc B T S w1 := by
  obtain ⟨hs, tv, rv, hB, h1, h2⟩ := h
  have hlt : B < w.heap.size := by omega
  have ow : ∀ {e k n : Nat} {v : Value} {xs : List Value}, w.ownsRow (B + 2) e k v n xs → w1.ownsRow (B + 2) e k v n xs := fun {e k n v xs} ho => by
    refine ⟨ho.1, ?_⟩
    rcases ho.2 with h3 | ⟨g, cap, cur, h4, h5, h6, h7⟩
    · exact .inl h3
    · exact .inr ⟨g, cap, cur, h4, h5, (hb.block g (Array.getElem?_eq_some_iff.1 h6).1).trans h6, h7⟩
  exact ⟨Nat.le_trans hs hb.size, tv, rv, (hb.block B hlt).trans hB, ow h1, ow h2⟩
theorem Sc.lt (h : Sc B T S w) : B < w.heap.size := by have := h.1; omega
end

set_option maxRecDepth 100000 in
theorem fail_ok (B : Nat) (T : ByteArray) (S : St) (e : Int) (p : Nat) (w : World) (h : Sc B T S w) :
    Calls Tryz.prog 119 #[.pointer (some ⟨B, 0, none⟩), .int .i64 e, .int .i64 p] w fun r w' => r = .returned (.tuple #[]) ∧ Sc B T { S with err := e, place := p } w' ∧ Fr B w w' := by
  have H := hide h
  have c5 := h.errc
  have c6 := h.placec
  have f5 := h.frz 5
  have f6 := h.frz 6
  clear h
  go_enter Tryz.func119, Tryz.ntmps119
  go_wp2
  go_end0
  exact ⟨rfl, (H.out.setErr e).setPlace p, ((Fr.refl B w).set _ _).set _ _⟩
end Go.Proofs.YthnjmfkiohgkkaaGreatDoor
