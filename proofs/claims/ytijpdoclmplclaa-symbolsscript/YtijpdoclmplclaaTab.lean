/- A table of names in memory. -/
import Derived.Test.YtijpdoclmplclaaSp
import Derived.Test.YtijpdoclmplclaaBook
import Derived.Maps.OwnSet
import Derived.Laws.Rows
namespace Go.Proofs.Ytijpdoclmplclaa
open Go.RowKit Go.Shelf Go.Maps

abbrev Bytes := List UInt8
def str (s : Bytes) : Value := .string ⟨s.toArray⟩
def strs (l : List Bytes) : List Value := l.map str
def ints (l : List Nat) : List Value := l.map fun (n : Nat) => .int .i64 (n : Int)
theorem str_ba (s : ByteArray) : str s.data.toList = .string s := by unfold str; congr

/-- Whether bytes come ahead of others. -/
def ltB : Bytes → Bytes → Bool
  | [], [] => false
  | [], _ :: _ => true
  | _ :: _, [] => false
  | a :: x, b :: y => if a < b then true else if b < a then false else ltB x y
/-- The numbers of names, by the names' bytes. -/
def srt (l : List Bytes) : List Nat := (List.range l.length).mergeSort fun i j => !ltB (l.getD j []) (l.getD i [])
theorem srt_length (l : List Bytes) : (srt l).length = l.length := by simp [srt]

/-- A name's number. -/
def posB (l : List Bytes) (s : Bytes) : Nat := if s ∈ l then l.idxOf s else 0
/-- The map of numbers. -/
def Num (l : List Bytes) (D : DataW Unit) : Prop := ∀ s : Bytes, Maps.has D (.string s) = decide (s ∈ l) ∧ D.atKey (.string s) (.lit (.int .i64 0)) = .lit (.int .i64 (posB l s))
theorem num_nil : Num [] (.map []) := fun s => ⟨by simp [Maps.has], by simp [posB]; rfl⟩
theorem key_str (s : Bytes) : WideAt.IsKeyLit (.string s) := trivial
theorem num_put {l : List Bytes} {D : DataW Unit} {s : Bytes} (h : Num l D) (hD : Maps.IsMap D) (hs : s ∉ l) : Num (l ++ [s]) (D.put (.string s) (.lit (.int .i64 l.length))) := by
  intro t
  by_cases e : t = s
  · subst e
    refine ⟨by rw [Maps.has_put_same hD (key_str _)]; simp, ?_⟩
    rw [Maps.atKey_put_same hD (key_str _)]
    have : posB (l ++ [t]) t = l.length := by unfold posB; rw [if_pos (by simp), List.idxOf_append, if_neg hs]; simp
    rw [this]
  · have hne : Lit.string t ≠ Lit.string s := by intro h; injection h; contradiction
    refine ⟨by rw [Maps.has_put_other hne, (h t).1]; simp [e], ?_⟩
    rw [Maps.atKey_put_other hne, (h t).2]
    have : posB (l ++ [s]) t = posB l t := by
      unfold posB
      by_cases hm : t ∈ l
      · rw [if_pos (by simp [hm]), if_pos hm, List.idxOf_append, if_pos hm]
      · rw [if_neg (by simp [hm, e]), if_neg hm]
    rw [this]

/-- The table at block B, all of whose blocks are Z's. -/
structure Tab (Z : Nat → Prop) (B M : Nat) (nv : Value) (d : Int) (sv : Value) (most : Int) (l : List Bytes) (w : World) : Prop where
  box : w.heap[B]? = some (.cells #[.int .i64 most, nv, .map (some M), .int .u32 d, .int .i32 0, .int .u32 0, sv] 70 (0, 0))
  row : w.ownsRow 0 9 1 nv l.length (strs l)
  map : ∃ D : DataW Unit, w.ownsMap Try.prog 9 (plainElem Try.prog 3) M l.length D ∧ Num l D
  once : d = 0 ∨ (d = 1 ∧ w.ownsRow 0 3 1 sv l.length (ints (srt l)))
  zB : Z B
  zM : Z M
  zn : ∀ g, nv.ownBlock = some g → Z g
  zs : d = 1 → ∀ g, sv.ownBlock = some g → Z g
  most1 : 1 ≤ most
  most2 : most ≤ 4096
  len : (l.length : Int) ≤ most
  nodup : l.Nodup
  names : ∀ s ∈ l, isNameB s = true

/-- What a call leaves as it was that writes blocks of Z's and new ones alone. -/
structure Fr (Z : Nat → Prop) (w w' : World) : Prop where
  os : w'.os = w.os
  tape : w'.tape = w.tape
  output : w'.output = w.output
  size : w.heap.size ≤ w'.heap.size
  block : ∀ k, k < w.heap.size → ¬ Z k → w'.heap[k]? = w.heap[k]?

theorem Fr.refl (Z : Nat → Prop) (w : World) : Fr Z w w := ⟨rfl, rfl, rfl, Nat.le_refl _, fun _ _ _ => rfl⟩
theorem Fr.trans {Z : Nat → Prop} {a b c : World} (h : Fr Z a b) (k : Fr Z b c) : Fr Z a c :=
  ⟨k.os.trans h.os, k.tape.trans h.tape, k.output.trans h.output, Nat.le_trans h.size k.size, fun i hi hz => (k.block i (Nat.lt_of_lt_of_le hi h.size) hz).trans (h.block i hi hz)⟩
theorem Fr.of_below {Z : Nat → Prop} {w w' : World} (h : Below w.heap.size w w') : Fr Z w w' := ⟨h.os, h.tape, h.output, h.size, fun k hk _ => h.block k hk⟩
theorem Fr.of_grown {Z : Nat → Prop} {w w' : World} {row : Option Nat} (h : w.grownBy w' row) (hz : ∀ k, row = some k → Z k) : Fr Z w w' :=
  ⟨h.os, h.tape, h.output, h.size, fun k hk hn => h.block k hk fun e => hn (hz k e.symm)⟩
theorem Fr.setCell {Z : Nat → Prop} {w : World} (p : Addr) (v : Value) (hz : Z p.block) : Fr Z w (w.setCell p v) :=
  ⟨rfl, rfl, rfl, by simp, fun k _ hn => heap_setCell_other w p k v fun e => hn (e ▸ hz)⟩
theorem Fr.below {Z : Nat → Prop} {w w' : World} (h : Fr Z w w') {n : Nat} (hn : ∀ k, k < n → k < w.heap.size ∧ ¬ Z k) : Below n w w' := ⟨h.os, h.tape, h.output, h.size, fun k hk => h.block k (hn k hk).1 (hn k hk).2⟩
theorem Fr.mono {Z Z' : Nat → Prop} {w w' : World} (h : Fr Z w w') (hz : ∀ k, k < w.heap.size → Z k → Z' k) : Fr Z' w w' := ⟨h.os, h.tape, h.output, h.size, fun k hk hn => h.block k hk fun e => hn (hz k hk e)⟩

theorem loc_lt {w : World} {q : Nat} {o : Obj} (h : w.heap[q]? = some o) : q < w.heap.size := by
  apply Classical.byContradiction
  intro hn
  rw [Array.getElem?_eq_none (by omega)] at h
  cases h
theorem owns_keep {w w' : World} {base e k : Nat} {v : Value} {n : Nat} {xs : List Value} (h : w.ownsRow base e k v n xs) (hb : ∀ g, v.ownBlock = some g → w'.heap[g]? = w.heap[g]?) : w'.ownsRow base e k v n xs := by
  obtain ⟨h1, h2⟩ := h
  refine ⟨h1, ?_⟩
  rcases h2 with h2 | ⟨g, cap, cur, rfl, h3, h4, h5⟩
  · exact .inl h2
  · exact .inr ⟨g, cap, cur, rfl, h3, (hb g rfl).trans h4, h5⟩
theorem map_keep {w w' : World} {P : Program} {k : TypeId} {R : Value → Option (DataW Unit × List MemPlace)} {b n : Nat} {D : DataW Unit} (h : w.ownsMap P k R b n D) (hb : w'.heap[b]? = w.heap[b]?) : w'.ownsMap P k R b n D := by
  obtain ⟨es, c, h1, h2⟩ := h
  exact ⟨es, c, hb.trans h1, h2⟩
theorem owns_slice {w : World} {base e k : Nat} {v : Value} {n : Nat} {xs : List Value} (h : w.ownsRow base e k v n xs) : ∃ a c, v = .slice a n c := by
  rcases h.2 with ⟨h1, h2⟩ | ⟨g, cap, cur, h1, _⟩
  · exact ⟨none, 0, by rw [h1, h2]⟩
  · exact ⟨_, _, h1⟩
theorem owns_lt {w : World} {base e k : Nat} {v : Value} {n : Nat} {xs : List Value} (h : w.ownsRow base e k v n xs) {g : Nat} (hg : v.ownBlock = some g) : g < w.heap.size := (h.lt g hg).2

section
variable {Z : Nat → Prop} {B M : Nat} {nv : Value} {d : Int} {sv : Value} {most : Int} {l : List Bytes} {w w' : World}

/-- The table is as it was where its blocks are. -/
theorem Tab.keep (h : Tab Z B M nv d sv most l w) (hb : ∀ k, Z k → k < w.heap.size → w'.heap[k]? = w.heap[k]?) : Tab Z B M nv d sv most l w' := by
  obtain ⟨D, hD, hN⟩ := h.map
  refine ⟨(hb B h.zB (loc_lt h.box)).trans h.box, owns_keep h.row fun g hg => hb g (h.zn g hg) (owns_lt h.row hg), ⟨D, map_keep hD (hb M h.zM hD.lt), hN⟩, ?_, h.zB, h.zM, h.zn, h.zs, h.most1, h.most2, h.len, h.nodup, h.names⟩
  rcases h.once with e | ⟨e, hs⟩
  · exact .inl e
  · exact .inr ⟨e, owns_keep hs fun g hg => hb g (h.zs e g hg) (owns_lt hs hg)⟩
theorem Tab.mono (h : Tab Z B M nv d sv most l w) {Z' : Nat → Prop} (hz : ∀ k, k < w.heap.size → Z k → Z' k) : Tab Z' B M nv d sv most l w := by
  obtain ⟨D, hD, hN⟩ := h.map
  refine ⟨h.box, h.row, ⟨D, hD, hN⟩, h.once, hz B (loc_lt h.box) h.zB, hz M hD.lt h.zM, fun g hg => hz g (owns_lt h.row hg) (h.zn g hg), ?_, h.most1, h.most2, h.len, h.nodup, h.names⟩
  intro e g hg
  rcases h.once with e0 | ⟨_, hs⟩
  · omega
  · exact hz g (owns_lt hs hg) (h.zs e g hg)
theorem Tab.below (h : Tab Z B M nv d sv most l w) (hb : Below w.heap.size w w') : Tab Z B M nv d sv most l w' := h.keep fun k _ hk => hb.block k hk
theorem Tab.form (h : Tab Z B M nv d sv most l w) : ∃ a c, nv = .slice a l.length c := owns_slice h.row
theorem Tab.len2 (h : Tab Z B M nv d sv most l w) : l.length ≤ 4096 := by have := h.len; have := h.most2; omega
theorem Tab.cells (h : Tab Z B M nv d sv most l w) : w.cell? ⟨B, 0, none⟩ = some (.int .i64 most) ∧ w.cell? ⟨B, 1, none⟩ = some nv ∧ w.cell? ⟨B, 2, none⟩ = some (.map (some M)) ∧ w.cell? ⟨B, 3, none⟩ = some (.int .u32 d) ∧
    w.cell? ⟨B, 4, none⟩ = some (.int .i32 0) ∧ w.cell? ⟨B, 5, none⟩ = some (.int .u32 0) ∧ w.cell? ⟨B, 6, none⟩ = some sv ∧ ∀ i, w.frozen? ⟨B, i, none⟩ = false :=
  ⟨cell_of_row w B 0 _ _ _ h.box, cell_of_row w B 1 _ _ _ h.box, cell_of_row w B 2 _ _ _ h.box, cell_of_row w B 3 _ _ _ h.box, cell_of_row w B 4 _ _ _ h.box, cell_of_row w B 5 _ _ _ h.box, cell_of_row w B 6 _ _ _ h.box, fun i => frozen_of_row w B i _ _ h.box⟩
end

/-- The table's pointer. -/
abbrev ptr (B : Nat) : Value := .pointer (some ⟨B, 0, none⟩)

section
variable {Z : Nat → Prop} {B M : Nat} {nv : Value} {d : Int} {sv : Value} {most : Int} {l : List Bytes} {w : World}

theorem made_any (h : Tab Z B M nv d sv most l w) : Calls Try.prog 38 #[ptr B] w fun e w' => e = .returned (.bool true) ∧ w' = w := by
  obtain ⟨c0, -, -, -, -, -, -, -⟩ := h.cells
  have h1 := h.most1
  clear h
  go_enter Try.func38, Try.ntmps38
  go_wp2
  go_ret
  exact ⟨ret_bool (by simp; omega), rfl⟩

theorem len_any (h : Tab Z B M nv d sv most l w) : Calls Try.prog 16 #[ptr B] w fun e w' => e = .returned (.int .i64 l.length) ∧ w' = w := by
  have C := hide (made_any h)
  obtain ⟨-, c1, -, -, -, -, -, -⟩ := h.cells
  obtain ⟨a, c, rfl⟩ := h.form
  clear h
  go_enter Try.func16, Try.ntmps16
  go_wp2_with (first | (go_at_call 38; refine C.out.mono ?_; rintro _ w1 ⟨rfl, hw1⟩; subst w1))
  go_ret
  exact ⟨rfl, rfl⟩

theorem law : Keyed Try.prog 9 := string_keyed Try.underlying9
end
end Go.Proofs.Ytijpdoclmplclaa
