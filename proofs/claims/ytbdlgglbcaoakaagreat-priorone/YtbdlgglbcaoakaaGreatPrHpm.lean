/- A heap in a list; no Go in sight. -/
import Derived.KernelRfl
import Derived.Test.YtbdlgglbcaoakaaGreatPrMem
import Derived.Test.YtbdlgglbcaoakaaGreatPrLast
import Derived.Test.YtbdlgglbcaoakaaGreatPrGrf
namespace Go.Proofs.YtbdlgglbcaoakaaGreat.Pr

/-- Two places exchanged. -/
def swp (l : List Int) (i j : Nat) : List Int := (l.set i (l.getD j 0)).set j (l.getD i 0)
theorem swp_len {l : List Int} {i j : Nat} : (swp l i j).length = l.length := by unfold swp; simp
theorem swp_at {l : List Int} {i j k : Nat} (hi : i < l.length) (hj : j < l.length) : (swp l i j).getD k 0 = if k = j then l.getD i 0 else if k = i then l.getD j 0 else l.getD k 0 := by
  unfold swp
  rw [List.getD_eq_getElem?_getD]
  by_cases e1 : k = j
  · subst e1; rw [if_pos rfl, List.getElem?_set_self (by simpa using hj)]; rfl
  · rw [if_neg e1, List.getElem?_set_ne (fun e => e1 e.symm)]
    by_cases e2 : k = i
    · subst e2; rw [if_pos rfl, List.getElem?_set_self hi]; rfl
    · rw [if_neg e2, List.getElem?_set_ne (fun e => e2 e.symm), List.getD_eq_getElem?_getD]
theorem swp_perm {l : List Int} {i j : Nat} (hi : i < l.length) (hj : j < l.length) : (swp l i j).Perm l := by
  have h := Array.swap_perm (xs := l.toArray) (i := i) (j := j) (by simpa using hi) (by simpa using hj)
  have e : (l.toArray.swap i j (by simpa using hi) (by simpa using hj)).toList = swp l i j := by
    unfold swp
    simp [Array.swap, List.getD, hi, hj]
  have h2 := Array.perm_iff_toList_perm.1 h
  rwa [e] at h2
/-- The first m places are a heap. -/
def Hpl (l : List Int) (m : Nat) : Prop := ∀ i, 0 < i → i < m → l.getD ((i - 1) / 2) 0 ≤ l.getD i 0
theorem hpl_min {l : List Int} {m : Nat} (h : Hpl l m) : ∀ i, i < m → l.getD 0 0 ≤ l.getD i 0 := by
  intro i
  induction i using Nat.strongRecOn with
  | ind i ih =>
    intro hi
    by_cases e : i = 0
    · subst e; exact Int.le_refl _
    · have h1 := h i (by omega) hi
      have h2 := ih ((i - 1) / 2) (by omega) (by omega)
      omega
/-- A heap but for what stands at j, which may be too low. -/
def UpI (l : List Int) (j : Nat) : Prop := j < l.length ∧ (∀ i, 0 < i → i < l.length → i ≠ j → l.getD ((i - 1) / 2) 0 ≤ l.getD i 0) ∧ (0 < j → ∀ c, 0 < c → c < l.length → (c - 1) / 2 = j → l.getD ((j - 1) / 2) 0 ≤ l.getD c 0)
theorem up_start {l : List Int} {x : Int} (h : Hpl l l.length) : UpI (l ++ [x]) l.length := by
  have hg : ∀ i, i < l.length → (l ++ [x]).getD i 0 = l.getD i 0 := fun i hi => by rw [List.getD_eq_getElem?_getD, List.getElem?_append_left hi, List.getD_eq_getElem?_getD]
  refine ⟨by simp, fun i h0 hi hn => ?_, fun h0 c hc0 hc e => ?_⟩
  · simp at hi
    rw [hg i (by omega), hg _ (by omega)]
    exact h i h0 (by omega)
  · simp at hc
    omega
theorem up_done {l : List Int} {j : Nat} (h : UpI l j) (hd : j = 0 ∨ l.getD ((j - 1) / 2) 0 ≤ l.getD j 0) : Hpl l l.length := by
  intro i h0 hi
  by_cases e : i = j
  · subst e
    rcases hd with hd | hd
    · omega
    · exact hd
  · exact h.2.1 i h0 hi e
theorem up_step {l : List Int} {j : Nat} (h : UpI l j) (h0 : 0 < j) (hlt : l.getD j 0 < l.getD ((j - 1) / 2) 0) : UpI (swp l ((j - 1) / 2) j) ((j - 1) / 2) := by
  obtain ⟨hj, h1, h2⟩ := h
  have hp : (j - 1) / 2 < l.length := by omega
  have key := fun k => swp_at (k := k) hp hj
  refine ⟨by rw [swp_len]; exact hp, fun i hi0 hi hn => ?_, fun hp0 c hc0 hc e => ?_⟩
  · rw [swp_len] at hi
    rw [key, key]
    by_cases e1 : i = j
    · subst e1
      rw [if_neg (by omega), if_pos rfl, if_pos rfl]
      omega
    · rw [if_neg e1, if_neg hn]
      by_cases e2 : (i - 1) / 2 = j
      · rw [if_pos e2]
        exact h2 h0 i hi0 hi e2
      · rw [if_neg e2]
        by_cases e3 : (i - 1) / 2 = (j - 1) / 2
        · rw [if_pos e3]
          have := h1 i hi0 hi e1
          rw [e3] at this
          omega
        · rw [if_neg e3]
          exact h1 i hi0 hi e1
  · rw [swp_len] at hc
    rw [key, key]
    have hpp := h1 ((j - 1) / 2) hp0 hp (by omega)
    rw [if_neg (by omega), if_neg (by omega)]
    by_cases e1 : c = j
    · subst e1
      rw [if_pos rfl]
      exact hpp
    · rw [if_neg e1, if_neg (by omega)]
      have := h1 c hc0 hc e1
      rw [e] at this
      omega
/-- The first m are a heap but for what stands at i, which may be too high. -/
def DnI (l : List Int) (i m : Nat) : Prop := m ≤ l.length ∧ (∀ k, 0 < k → k < m → (k - 1) / 2 ≠ i → l.getD ((k - 1) / 2) 0 ≤ l.getD k 0) ∧ (0 < i → ∀ c, 0 < c → c < m → (c - 1) / 2 = i → l.getD ((i - 1) / 2) 0 ≤ l.getD c 0)
theorem dn_start {l : List Int} {m : Nat} (h : Hpl l l.length) (hm : l.length = m + 1) : DnI (swp l 0 m) 0 m := by
  have key := fun k => swp_at (l := l) (i := 0) (j := m) (k := k) (by omega) (by omega)
  refine ⟨by rw [swp_len]; omega, fun k h0 hk hn => ?_, fun h => by omega⟩
  rw [key, key, if_neg (by omega), if_neg hn, if_neg (by omega), if_neg (by omega)]
  exact h k h0 (by omega)
theorem dn_none {l : List Int} {i m : Nat} (h : DnI l i m) (hd : m ≤ 2 * i + 1) : Hpl l m := by
  intro k h0 hk
  exact h.2.1 k h0 hk (by omega)
theorem dn_done {l : List Int} {i j m : Nat} (h : DnI l i m) (hj : ∀ c, c < m → c = 2 * i + 1 ∨ c = 2 * i + 2 → l.getD j 0 ≤ l.getD c 0) (hd : l.getD i 0 ≤ l.getD j 0) : Hpl l m := by
  intro k h0 hk
  by_cases e : (k - 1) / 2 = i
  · have := hj k hk (by omega)
    rw [e]
    omega
  · exact h.2.1 k h0 hk e
theorem dn_step {l : List Int} {i j m : Nat} (h : DnI l i m) (hjm : j < m) (hji : j = 2 * i + 1 ∨ j = 2 * i + 2) (hj : ∀ c, c < m → c = 2 * i + 1 ∨ c = 2 * i + 2 → l.getD j 0 ≤ l.getD c 0) (hd : l.getD j 0 < l.getD i 0) : DnI (swp l i j) j m := by
  obtain ⟨hm, h1, h2⟩ := h
  have key := fun k => swp_at (l := l) (i := i) (j := j) (k := k) (by omega) (by omega)
  refine ⟨by rw [swp_len]; exact hm, fun k h0 hk hn => ?_, fun _ c hc0 hc e => ?_⟩
  · rw [key, key, if_neg hn]
    by_cases e1 : k = j
    · subst e1
      rw [if_pos rfl, if_pos (by omega)]
      omega
    · rw [if_neg e1]
      by_cases e2 : k = i
      · subst e2
        rw [if_pos rfl, if_neg (by omega)]
        exact h2 h0 j (by omega) hjm (by omega)
      · rw [if_neg e2]
        by_cases e3 : (k - 1) / 2 = i
        · rw [if_pos e3]
          exact hj k hk (by omega)
        · rw [if_neg e3]
          exact h1 k h0 hk e3
  · rw [key, key, if_neg (by omega), if_pos (by omega), if_neg (by omega), if_neg (by omega)]
    have := h1 c hc0 hc (by omega)
    rw [e] at this
    exact this
theorem hpl_take {l : List Int} {m : Nat} (h : Hpl l m) (hm : m ≤ l.length) : Hpl (l.take m) (l.take m).length := by
  have hl : (l.take m).length = m := by simp; omega
  have hg : ∀ i, i < m → (l.take m).getD i 0 = l.getD i 0 := fun i hi => by rw [List.getD_eq_getElem?_getD, List.getElem?_take_of_lt hi, List.getD_eq_getElem?_getD]
  intro i h0 hi
  rw [hl] at hi
  rw [hg i hi, hg _ (by omega)]
  exact h i h0 hi
theorem hpl_nil : Hpl [] 0 := fun i _ h => by omega
end Go.Proofs.YtbdlgglbcaoakaaGreat.Pr
/- Words and small laws for what follows. -/
namespace Go.Proofs.YtbdlgglbcaoakaaGreat.Pr
open Go.RowKit

theorem below_new (w : World) (o : Obj) : Below w.heap.size w (w.alloc o) := (Below.refl _ w).alloc (Nat.le_refl _) _
theorem drop_at {α : Type} {l : List α} {k : Nat} {x : α} (h : l[k]? = some x) : l.drop k = x :: l.drop (k + 1) := by
  obtain ⟨hk, e⟩ := List.getElem?_eq_some_iff.1 h
  rw [List.drop_eq_getElem_cons hk, e]
theorem drop_end {α : Type} {l : List α} {k : Nat} (h : l.length ≤ k) : l.drop k = [] := List.drop_eq_nil_of_le h
theorem getD_of {l : List Int} {k : Nat} {x : Int} (h : l[k]? = some x) : l.getD k 0 = x := by rw [List.getD_eq_getElem?_getD, h]; rfl
theorem At1.get {w : World} {a : Option Addr} {l : List Int} (h : At1 w a (ints l)) {i : Nat} {x : Int} (hi : l[i]? = some x) : ∃ g o, a = some ⟨g, o, none⟩ ∧ w.cell? ⟨g, o + i, none⟩ = some (.int .i64 x) := by
  refine h i _ ?_
  unfold ints
  rw [List.getElem?_map, hi]
  rfl
theorem made_one (z : Value) (n : Nat) : madeCells #[z] n = Array.replicate n z := by
  apply Array.ext
  · simp [madeCells]
  · intro i h1 h2
    simp [madeCells, Nat.mod_one]
theorem wpList_make_fix {P : Program} (w : World) {ops : Array Oper} {rest : List Oper} {o : Oper} {a : Act} {Q : Exit → Act → World → Prop}
    (hg : o.guard = none) (l c : Operand) (t : TypeId) (hop : o.op = Op.makeSlice t l c) (e : TypeId) (i : TypeInfo) (z : Value) (h1 : P.underlying t = some (.slice e)) (h2 : P.info? e = some i) (h3 : i.zero = some z) (h4 : i.size = 1) (h5 : z.cells = #[z])
    (L C : Int) (n : Nat) (hl : a.eval l = .int .i64 L) (hc : a.eval c = .int .i64 C) (hL : L = (n : Int)) (hC : C = (n : Int)) (b2 : i.bytes * n ≤ 281474976710656) (b3 : n ≤ maxLen)
    (hK : wpList P ops Q rest (a.put o.dst (.slice (some ⟨w.heap.size, 0, none⟩) n n)) (w.alloc (.cells (Array.replicate n z) e))) :
    wpList P ops Q (o :: rest) a w := by
  refine wpList_plain hg fun K hK' => ?_
  have hb' : (i.bytes : Int) * (n : Int) ≤ 281474976710656 := by
    have h : ((i.bytes * n : Nat) : Int) ≤ 281474976710656 := by omega
    rwa [Int.natCast_mul] at h
  have h63' : (n : Int) ≤ 9223372036854775807 := by
    have h := b3
    simp [maxLen] at h
    omega
  have hrun := run_make (P := P) w t e i z h1 h2 h3 .i64 .i64 n n (by omega) (Int.le_refl _) hb' h63'
  rw [h4, Nat.mul_one, h5, made_one] at hrun
  subst hL
  subst hC
  unfold Oper.wp
  simp [execOp, hop, hl, hc, hrun, Result.andThen]
  exact hK' _ _ hK
def Fx (g T : Nat) (vs : List Value) (w : World) : Prop := w.heap[g]? = some (.cells vs.toArray T (0, 0))
section
variable {g T i : Nat} {vs : List Value} {w w' : World} {v : Value}
theorem Fx.get (h : Fx g T vs w) (hi : vs[i]? = some v) : w.cell? ⟨g, i, none⟩ = some v := by
  rw [cell_of_row w g i _ _ _ h]
  simpa using hi
theorem Fx.frz (h : Fx g T vs w) (i : Nat) : w.frozen? ⟨g, i, none⟩ = false := frozen_of_row w g i _ _ h
theorem Fx.set (h : Fx g T vs w) (i : Nat) (v : Value) : Fx g T (vs.set i v) (w.setCell ⟨g, i, none⟩ v) := by
  unfold Fx
  rw [loc_set h, List.setIfInBounds_toArray]
theorem Fx.keep (h : Fx g T vs w) (hb : w'.heap[g]? = w.heap[g]?) : Fx g T vs w' := hb.trans h
theorem Fx.lt (h : Fx g T vs w) : g < w.heap.size := loc_lt h
end
theorem ints_set {l : List Int} {i : Nat} {z : Int} : (ints l).set i (.int .i64 z) = ints (l.set i z) := by unfold ints; rw [List.map_set]
theorem bools_set {l : List Bool} {i : Nat} {z : Bool} : (bools l).set i (.bool z) = bools (l.set i z) := by unfold bools; rw [List.map_set]
theorem ints_rep {n : Nat} : Array.replicate n (.int .i64 0) = (ints (List.replicate n 0)).toArray := by unfold ints; simp
theorem bools_rep {n : Nat} : Array.replicate n (.bool false) = (bools (List.replicate n false)).toArray := by unfold bools; simp
theorem other_set {w : World} {g i k : Nat} {v : Value} (h : k ≠ g) : (w.setCell ⟨g, i, none⟩ v).heap[k]? = w.heap[k]? := heap_setCell_other w ⟨g, i, none⟩ k v h
theorem fx_ne {g g' T T' : Nat} {vs vs' : List Value} {w : World} (h : Fx g T vs w) (h' : Fx g' T' vs' w) (hT : T ≠ T') : g ≠ g' := by
  intro e
  subst e
  rw [Fx] at h h'
  rw [h] at h'
  cases h'
  exact hT rfl
theorem own_fx {w : World} {b g T e : Nat} {v : Value} {n : Nat} {xs vs : List Value} (h : w.ownsRow b e 1 v n xs) (hg : Fx g T vs w) (hT : e ≠ T) : v.ownBlock ≠ some g := own_ne (owns_down h (Nat.zero_le _)) hg hT
theorem owns_take {w : World} {B e k : Nat} {a : Option Addr} {n c : Nat} {xs : List Value} (h : w.ownsRow B e k (.slice a n c) n xs) {m : Nat} (hm : m ≤ n) (ha : a ≠ none) : w.ownsRow B e k (.slice a m c) m (xs.take (m * k)) := by
  obtain ⟨h1, h2⟩ := h
  rcases h2 with ⟨e1, _⟩ | ⟨g, cap, cur, e1, h3, h4, h5, h6, h7, h8⟩
  · cases e1; exact absurd rfl ha
  · cases e1
    have hmk : m * k ≤ n * k := Nat.mul_le_mul_right k hm
    refine ⟨by rw [List.length_take, h1]; omega, .inr ⟨g, c, cur, rfl, h3, h4, by omega, h6, h7, ?_⟩⟩
    rw [← h8, List.take_take, Nat.min_eq_left hmk]
section
variable {wr w5 : World} {ob : Obj} {v : Value} {hb : Nat}
theorem grown_low (hgrow : (wr.alloc ob).drew.grownBy w5 v.ownBlock) (hv : ∀ g, v.ownBlock = some g → hb < g) (hs : hb ≤ wr.heap.size) : Below hb wr w5 := by
  have h1 : Below hb wr (wr.alloc ob).drew := ((below_new wr ob).mono hs).drew
  refine h1.trans ⟨hgrow.os, hgrow.tape, hgrow.output, hgrow.size, fun k hk => hgrow.block k ?_ fun e => ?_⟩
  · have : (wr.alloc ob).drew.heap.size = wr.heap.size + 1 := by show (wr.alloc ob).heap.size = _; simp
    omega
  · have := hv k e.symm; omega
theorem grown_old2 (hgrow : (wr.alloc ob).drew.grownBy w5 v.ownBlock) {k : Nat} (hk : k < wr.heap.size) (hn : v.ownBlock ≠ some k) : w5.heap[k]? = wr.heap[k]? := by
  refine (hgrow.block k ?_ fun e => hn e.symm).trans ((below_new wr ob).block k hk)
  have : (wr.alloc ob).drew.heap.size = wr.heap.size + 1 := by show (wr.alloc ob).heap.size = _; simp
  omega
end
theorem ints_owns {B b : Nat} {w : World} {l : List Int} {a : Option Addr} {c : Nat} (h : w.ownsRow b 3 1 (.slice a l.length c) l.length (ints l)) (hB : w.heap.size ≤ B) (hl : l.length ≤ 140737488351232) : Ints B w l (.slice a l.length c) := by
  have h1 := owns_at1 h
  have hc : l.length ≤ c := by
    rcases h.2 with ⟨e, h0⟩ | ⟨g, cap, cur, e, _, _, hcap, _⟩
    · omega
    · have := (Value.slice.inj e).2; omega
  refine ⟨a, c, rfl, hc, hl, fun i x hi => ?_⟩
  obtain ⟨g, o, e, hcell⟩ := h1 i (.int .i64 x) (by unfold ints; rw [List.getElem?_map, hi]; rfl)
  refine ⟨g, o, [.int .i64 x], e, Nat.lt_of_lt_of_le (World.block_lt_of_cell? w _ hcell) hB, rfl, fun j u hu => ?_, rfl⟩
  match j, hu with
  | 0, hu => simp at hu; subst hu; rw [Nat.mul_one]; exact hcell
/-- One cell of an own row is written. -/
theorem owns_set {w : World} {B e g n c i : Nat} {xs : List Value} {v : Value} (h : w.ownsRow B e 1 (.slice (some ⟨g, 0, none⟩) n c) n xs) : (w.setCell ⟨g, i, none⟩ v).ownsRow B e 1 (.slice (some ⟨g, 0, none⟩) n c) n (xs.set i v) := by
  obtain ⟨h1, h2⟩ := h
  refine ⟨by rw [List.length_set]; exact h1, ?_⟩
  rcases h2 with ⟨e1, _⟩ | ⟨g', cap, cur, e1, h3, h4, h5, h6, h7, h8⟩
  · cases e1
  · cases e1
    refine .inr ⟨g, c, cur.setIfInBounds i v, rfl, h3, loc_set h4, h5, h6, by simpa using h7, ?_⟩
    rw [← h8, Array.toList_setIfInBounds, List.take_set]
end Go.Proofs.YtbdlgglbcaoakaaGreat.Pr
