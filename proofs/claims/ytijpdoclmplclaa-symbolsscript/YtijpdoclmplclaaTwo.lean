/- The program's table and the page's, side by side, and the cell that bears the program's pointer. -/
import Derived.Test.YtijpdoclmplclaaRefSort
import Derived.Test.YtijpdoclmplclaaCopy2
namespace Go.Proofs.Ytijpdoclmplclaa
open Go.RowKit Go.Shelf Go.Maps

structure Two (w0 : World) (P R : Nat) (most : Int) (Z1 Z2 : Nat → Prop) (B M : Nat) (nv : Value) (d : Int) (sv av : Value) (l1 l2 : List Bytes) (W : World) : Prop where
  tab : Tab Z1 B M nv d sv most l1 W
  ref : RTab Z2 R av most l2 W
  box : W.heap[P]? = some (.cells #[ptr B] 22 (0, 0))
  z12 : ∀ k, Z1 k → ¬ Z2 k
  zP1 : ¬ Z1 P
  zP2 : ¬ Z2 P
  low1 : ∀ k, Z1 k → w0.heap.size ≤ k
  low2 : ∀ k, Z2 k → w0.heap.size ≤ k
  lowP : w0.heap.size ≤ P
  bel : Below w0.heap.size w0 W

section
variable {w0 : World} {P R : Nat} {most : Int} {Z1 Z2 : Nat → Prop} {B M : Nat} {nv : Value} {d : Int} {sv av : Value} {l1 l2 : List Bytes} {W W' : World}

theorem Two.fit0 (h : Two w0 P R most Z1 Z2 B M nv d sv av l1 l2 W) : Two w0 P R most (fun k => Z1 k ∧ k < W.heap.size) (fun k => Z2 k ∧ k < W.heap.size) B M nv d sv av l1 l2 W :=
  ⟨h.tab.mono fun _ hk hz => ⟨hz, hk⟩, h.ref.mono fun _ hk hz => ⟨hz, hk⟩, h.box, fun k a b => h.z12 k a.1 b.1, fun a => h.zP1 a.1, fun a => h.zP2 a.1, fun k a => h.low1 k a.1, fun k a => h.low2 k a.1, h.lowP, h.bel⟩
theorem Two.fit1 (h : Two w0 P R most Z1 Z2 B M nv d sv av l1 l2 W) : Two w0 P R most (fun k => (Z1 k ∧ k < W.heap.size) ∨ W.heap.size ≤ k) (fun k => Z2 k ∧ k < W.heap.size) B M nv d sv av l1 l2 W := by
  have hP := loc_lt h.box
  have hs := h.bel.size
  refine ⟨h.tab.mono fun k hk hz => .inl ⟨hz, hk⟩, h.ref.mono fun k hk hz => ⟨hz, hk⟩, h.box, ?_, ?_, fun a => h.zP2 a.1, ?_, fun k a => h.low2 k a.1, h.lowP, h.bel⟩
  · rintro k (a | a) b
    · exact h.z12 k a.1 b.1
    · have := b.2; omega
  · rintro (a | a)
    · exact h.zP1 a.1
    · omega
  · rintro k (a | a)
    · exact h.low1 k a.1
    · omega
theorem Two.fit2 (h : Two w0 P R most Z1 Z2 B M nv d sv av l1 l2 W) : Two w0 P R most (fun k => Z1 k ∧ k < W.heap.size) (fun k => (Z2 k ∧ k < W.heap.size) ∨ W.heap.size ≤ k) B M nv d sv av l1 l2 W := by
  have hP := loc_lt h.box
  have hs := h.bel.size
  refine ⟨h.tab.mono fun k hk hz => ⟨hz, hk⟩, h.ref.mono fun k hk hz => .inl ⟨hz, hk⟩, h.box, ?_, fun a => h.zP1 a.1, ?_, fun k a => h.low1 k a.1, ?_, h.lowP, h.bel⟩
  · rintro k b (a | a)
    · exact h.z12 k b.1 a.1
    · have := b.2; omega
  · rintro (a | a)
    · exact h.zP2 a.1
    · omega
  · rintro k (a | a)
    · exact h.low2 k a.1
    · omega
theorem Two.below (h : Two w0 P R most Z1 Z2 B M nv d sv av l1 l2 W) (hb : Below W.heap.size W W') : Two w0 P R most Z1 Z2 B M nv d sv av l1 l2 W' :=
  ⟨h.tab.below hb, h.ref.below hb, (hb.block P (loc_lt h.box)).trans h.box, h.z12, h.zP1, h.zP2, h.low1, h.low2, h.lowP, h.bel.trans (hb.mono h.bel.size)⟩
theorem Two.step1 (h : Two w0 P R most Z1 Z2 B M nv d sv av l1 l2 W) {nv' sv' : Value} {d' : Int} {l1' : List Bytes} (hT : Tab Z1 B M nv' d' sv' most l1' W') (hf : Fr Z1 W W') : Two w0 P R most Z1 Z2 B M nv' d' sv' av l1' l2 W' :=
  ⟨hT, h.ref.keep fun k hz hk => hf.block k hk fun a => h.z12 k a hz, (hf.block P (loc_lt h.box) h.zP1).trans h.box, h.z12, h.zP1, h.zP2, h.low1, h.low2, h.lowP,
    h.bel.trans (hf.below fun k hk => ⟨Nat.lt_of_lt_of_le hk h.bel.size, fun a => by have := h.low1 k a; omega⟩)⟩
theorem Two.step2 (h : Two w0 P R most Z1 Z2 B M nv d sv av l1 l2 W) {av' : Value} {l2' : List Bytes} (hT : RTab Z2 R av' most l2' W') (hf : Fr Z2 W W') : Two w0 P R most Z1 Z2 B M nv d sv av' l1 l2' W' :=
  ⟨h.tab.keep fun k hz hk => hf.block k hk fun a => h.z12 k hz a, hT, (hf.block P (loc_lt h.box) h.zP2).trans h.box, h.z12, h.zP1, h.zP2, h.low1, h.low2, h.lowP,
    h.bel.trans (hf.below fun k hk => ⟨Nat.lt_of_lt_of_le hk h.bel.size, fun a => by have := h.low2 k a; omega⟩)⟩
theorem Two.cellP (h : Two w0 P R most Z1 Z2 B M nv d sv av l1 l2 W) : W.cell? ⟨P, 0, none⟩ = some (ptr B) ∧ W.frozen? ⟨P, 0, none⟩ = false := ⟨cell_of_row W P 0 _ _ _ h.box, frozen_of_row W P 0 _ _ h.box⟩
/-- Another table is put into the cell. -/
theorem Two.turn (h : Two w0 P R most Z1 Z2 B M nv d sv av l1 l2 W) {Z : Nat → Prop} {B' M' : Nat} {nv' sv' : Value} {d' : Int} {l : List Bytes} (hT : Tab Z B' M' nv' d' sv' most l W) (hz2 : ∀ k, Z k → ¬ Z2 k) (hzP : ¬ Z P) (hzl : ∀ k, Z k → w0.heap.size ≤ k) :
    Two w0 P R most Z Z2 B' M' nv' d' sv' av l l2 (W.setCell ⟨P, 0, none⟩ (ptr B')) :=
  have o : ∀ k, k ≠ P → (W.setCell ⟨P, 0, none⟩ (ptr B')).heap[k]? = W.heap[k]? := fun k hk => heap_setCell_other W ⟨P, 0, none⟩ k _ hk
  ⟨hT.keep fun k hz _ => o k fun e => hzP (e ▸ hz), h.ref.keep fun k hz _ => o k fun e => h.zP2 (e ▸ hz), loc_set (i := 0) (v := ptr B') h.box, hz2, hzP, h.zP2, hzl, h.low2, h.lowP, h.bel.setCell h.lowP _⟩
end
end Go.Proofs.Ytijpdoclmplclaa
