/- Words and small laws for what follows. -/
import Derived.Test.YtjaffhajehcnpaaMem
import Derived.Test.YtjaffhajehcnpaaLast
import Derived.Test.YtjaffhajehcnpaaGrf
import Derived.Test.YtjaffhajehcnpaaHpm
namespace Go.Proofs.Ytjaffhajehcnpaa
open Go.RowKit

theorem below_new (w : World) (o : Obj) : Below w.heap.size w (w.alloc o) := (Below.refl _ w).alloc (Nat.le_refl _) _
theorem drop_at {α : Type} {l : List α} {k : Nat} {x : α} (h : l[k]? = some x) : l.drop k = x :: l.drop (k + 1) := by
  obtain ⟨hk, e⟩ := List.getElem?_eq_some_iff.1 h
  rw [List.drop_eq_getElem_cons hk, e]
theorem drop_end {α : Type} {l : List α} {k : Nat} (h : l.length ≤ k) : l.drop k = [] := List.drop_eq_nil_of_le h
theorem getD_of {l : List Int} {k : Nat} {x : Int} (h : l[k]? = some x) : l.getD k 0 = x := by rw [List.getD_eq_getElem?_getD, h]; rfl
theorem At1.get {w : World} {a : Option Addr} {l : List Int} (h : At1 w a (ints l)) {i : Nat} {x : Int} (hi : l[i]? = some x) : ∃ g o, a = some ⟨g, o, none⟩ ∧ w.cell? ⟨g, o + i, none⟩ = some (.int .i64 x) := by
  refine h i _ ?_
  unfold ints
  rw [List.getElem?_map, hi]
  rfl
theorem made_one (z : Value) (n : Nat) : madeCells #[z] n = Array.replicate n z := by
  apply Array.ext
  · simp [madeCells]
  · intro i h1 h2
    simp [madeCells, Nat.mod_one]
theorem wpList_make_fix {P : Program} (w : World) {ops : Array Oper} {rest : List Oper} {o : Oper} {a : Act} {Q : Exit → Act → World → Prop}
    (hg : o.guard = none) (l c : Operand) (t : TypeId) (hop : o.op = Op.makeSlice t l c) (e : TypeId) (i : TypeInfo) (z : Value) (h1 : P.underlying t = some (.slice e)) (h2 : P.info? e = some i) (h3 : i.zero = some z) (h4 : i.size = 1) (h5 : z.cells = #[z])
    (L C : Int) (n : Nat) (hl : a.eval l = .int .i64 L) (hc : a.eval c = .int .i64 C) (hL : L = (n : Int)) (hC : C = (n : Int)) (b2 : i.bytes * n ≤ 281474976710656) (b3 : n ≤ maxLen)
    (hK : wpList P ops Q rest (a.put o.dst (.slice (some ⟨w.heap.size, 0, none⟩) n n)) (w.alloc (.cells (Array.replicate n z) e))) :
    wpList P ops Q (o :: rest) a w := by
  refine wpList_plain hg fun K hK' => ?_
  have hb' : (i.bytes : Int) * (n : Int) ≤ 281474976710656 := by
    have h : ((i.bytes * n : Nat) : Int) ≤ 281474976710656 := by omega
    rwa [Int.natCast_mul] at h
  have h63' : (n : Int) ≤ 9223372036854775807 := by
    have h := b3
    simp [maxLen] at h
    omega
  have hrun := run_make (P := P) w t e i z h1 h2 h3 .i64 .i64 n n (by omega) (Int.le_refl _) hb' h63'
  rw [h4, Nat.mul_one, h5, made_one] at hrun
  subst hL
  subst hC
  unfold Oper.wp
  simp [execOp, hop, hl, hc, hrun, Result.andThen]
  exact hK' _ _ hK
def Fx (g T : Nat) (vs : List Value) (w : World) : Prop := w.heap[g]? = some (.cells vs.toArray T (0, 0))
section
variable {g T i : Nat} {vs : List Value} {w w' : World} {v : Value}
theorem Fx.get (h : Fx g T vs w) (hi : vs[i]? = some v) : w.cell? ⟨g, i, none⟩ = some v := by
  rw [cell_of_row w g i _ _ _ h]
  simpa using hi
theorem Fx.frz (h : Fx g T vs w) (i : Nat) : w.frozen? ⟨g, i, none⟩ = false := frozen_of_row w g i _ _ h
theorem Fx.set (h : Fx g T vs w) (i : Nat) (v : Value) : Fx g T (vs.set i v) (w.setCell ⟨g, i, none⟩ v) := by
  unfold Fx
  rw [loc_set h, List.setIfInBounds_toArray]
theorem Fx.keep (h : Fx g T vs w) (hb : w'.heap[g]? = w.heap[g]?) : Fx g T vs w' := hb.trans h
theorem Fx.lt (h : Fx g T vs w) : g < w.heap.size := loc_lt h
end
theorem ints_set {l : List Int} {i : Nat} {z : Int} : (ints l).set i (.int .i64 z) = ints (l.set i z) := by unfold ints; rw [List.map_set]
theorem bools_set {l : List Bool} {i : Nat} {z : Bool} : (bools l).set i (.bool z) = bools (l.set i z) := by unfold bools; rw [List.map_set]
theorem ints_rep {n : Nat} : Array.replicate n (.int .i64 0) = (ints (List.replicate n 0)).toArray := by unfold ints; simp
theorem bools_rep {n : Nat} : Array.replicate n (.bool false) = (bools (List.replicate n false)).toArray := by unfold bools; simp
theorem other_set {w : World} {g i k : Nat} {v : Value} (h : k ≠ g) : (w.setCell ⟨g, i, none⟩ v).heap[k]? = w.heap[k]? := heap_setCell_other w ⟨g, i, none⟩ k v h
theorem fx_ne {g g' T T' : Nat} {vs vs' : List Value} {w : World} (h : Fx g T vs w) (h' : Fx g' T' vs' w) (hT : T ≠ T') : g ≠ g' := by
  intro e
  subst e
  rw [Fx] at h h'
  rw [h] at h'
  cases h'
  exact hT rfl
theorem own_fx {w : World} {b g T e : Nat} {v : Value} {n : Nat} {xs vs : List Value} (h : w.ownsRow b e 1 v n xs) (hg : Fx g T vs w) (hT : e ≠ T) : v.ownBlock ≠ some g := own_ne (owns_down h (Nat.zero_le _)) hg hT
theorem owns_take {w : World} {B e k : Nat} {a : Option Addr} {n c : Nat} {xs : List Value} (h : w.ownsRow B e k (.slice a n c) n xs) {m : Nat} (hm : m ≤ n) (ha : a ≠ none) : w.ownsRow B e k (.slice a m c) m (xs.take (m * k)) := by
  obtain ⟨h1, h2⟩ := h
  rcases h2 with ⟨e1, _⟩ | ⟨g, cap, cur, e1, h3, h4, h5, h6, h7, h8⟩
  · cases e1; exact absurd rfl ha
  · cases e1
    have hmk : m * k ≤ n * k := Nat.mul_le_mul_right k hm
    refine ⟨by rw [List.length_take, h1]; omega, .inr ⟨g, c, cur, rfl, h3, h4, by omega, h6, h7, ?_⟩⟩
    rw [← h8, List.take_take, Nat.min_eq_left hmk]
section
variable {wr w5 : World} {ob : Obj} {v : Value} {hb : Nat}
theorem grown_low (hgrow : (wr.alloc ob).drew.grownBy w5 v.ownBlock) (hv : ∀ g, v.ownBlock = some g → hb < g) (hs : hb ≤ wr.heap.size) : Below hb wr w5 := by
  have h1 : Below hb wr (wr.alloc ob).drew := ((below_new wr ob).mono hs).drew
  refine h1.trans ⟨hgrow.os, hgrow.tape, hgrow.output, hgrow.size, fun k hk => hgrow.block k ?_ fun e => ?_⟩
  · have : (wr.alloc ob).drew.heap.size = wr.heap.size + 1 := by show (wr.alloc ob).heap.size = _; simp
    omega
  · have := hv k e.symm; omega
theorem grown_old2 (hgrow : (wr.alloc ob).drew.grownBy w5 v.ownBlock) {k : Nat} (hk : k < wr.heap.size) (hn : v.ownBlock ≠ some k) : w5.heap[k]? = wr.heap[k]? := by
  refine (hgrow.block k ?_ fun e => hn e.symm).trans ((below_new wr ob).block k hk)
  have : (wr.alloc ob).drew.heap.size = wr.heap.size + 1 := by show (wr.alloc ob).heap.size = _; simp
  omega
end
theorem ints_owns {B b : Nat} {w : World} {l : List Int} {a : Option Addr} {c : Nat} (h : w.ownsRow b 3 1 (.slice a l.length c) l.length (ints l)) (hB : w.heap.size ≤ B) (hl : l.length ≤ 140737488351232) : Ints B w l (.slice a l.length c) := by
  have h1 := owns_at1 h
  have hc : l.length ≤ c := by
    rcases h.2 with ⟨e, h0⟩ | ⟨g, cap, cur, e, _, _, hcap, _⟩
    · omega
    · have := (Value.slice.inj e).2; omega
  refine ⟨a, c, rfl, hc, hl, fun i x hi => ?_⟩
  obtain ⟨g, o, e, hcell⟩ := h1 i (.int .i64 x) (by unfold ints; rw [List.getElem?_map, hi]; rfl)
  refine ⟨g, o, [.int .i64 x], e, Nat.lt_of_lt_of_le (World.block_lt_of_cell? w _ hcell) hB, rfl, fun j u hu => ?_, rfl⟩
  match j, hu with
  | 0, hu => simp at hu; subst hu; rw [Nat.mul_one]; exact hcell
/-- One cell of an own row is written. -/
theorem owns_set {w : World} {B e g n c i : Nat} {xs : List Value} {v : Value} (h : w.ownsRow B e 1 (.slice (some ⟨g, 0, none⟩) n c) n xs) : (w.setCell ⟨g, i, none⟩ v).ownsRow B e 1 (.slice (some ⟨g, 0, none⟩) n c) n (xs.set i v) := by
  obtain ⟨h1, h2⟩ := h
  refine ⟨by rw [List.length_set]; exact h1, ?_⟩
  rcases h2 with ⟨e1, _⟩ | ⟨g', cap, cur, e1, h3, h4, h5, h6, h7, h8⟩
  · cases e1
  · cases e1
    refine .inr ⟨g, c, cur.setIfInBounds i v, rfl, h3, loc_set h4, h5, h6, by simpa using h7, ?_⟩
    rw [← h8, Array.toList_setIfInBounds, List.take_set]
end Go.Proofs.Ytjaffhajehcnpaa
