/- The page's book of a rule's variables, in memory. -/
import Derived.Test.YtfnobccminhjpaaGreatRefE9
import Derived.Test.YtfnobccminhjpaaGreatSim9
namespace Go.Proofs.YtfnobccminhjpaaGreat
open Go.RowKit Go.Shelf Go.Maps Go.WideMaps

structure Bp (Z : Nat → Prop) (V : Nat) (nv kv lv : Value) (N : List Bytes) (Ks : List Int) (L : List Bytes) (w : World) : Prop where
  box : w.heap[V]? = some (.cells #[nv, kv, lv] 104 (0, 0))
  rowN : w.ownsRow 0 9 1 nv N.length (strs N)
  rowK : w.ownsRow 0 3 1 kv Ks.length (ints Ks)
  rowL : w.ownsRow 0 9 1 lv L.length (strs L)
  ne : ∀ g, nv.ownBlock = some g → lv.ownBlock ≠ some g
  zV : Z V
  zn : ∀ g, nv.ownBlock = some g → Z g
  zk : ∀ g, kv.ownBlock = some g → Z g
  zl : ∀ g, lv.ownBlock = some g → Z g
section
variable {Z Z' : Nat → Prop} {V : Nat} {nv kv lv : Value} {N : List Bytes} {Ks : List Int} {L : List Bytes} {w w' : World}
theorem Bp.keep (h : Bp Z V nv kv lv N Ks L w) (hb : ∀ k, Z k → k < w.heap.size → w'.heap[k]? = w.heap[k]?) : Bp Z V nv kv lv N Ks L w' :=
  ⟨(hb V h.zV (loc_lt h.box)).trans h.box, owns_keep h.rowN fun g hg => hb g (h.zn g hg) (owns_lt h.rowN hg), owns_keep h.rowK fun g hg => hb g (h.zk g hg) (owns_lt h.rowK hg), owns_keep h.rowL fun g hg => hb g (h.zl g hg) (owns_lt h.rowL hg), h.ne, h.zV, h.zn, h.zk, h.zl⟩
theorem Bp.below (h : Bp Z V nv kv lv N Ks L w) (hb : Below w.heap.size w w') : Bp Z V nv kv lv N Ks L w' := h.keep fun k _ hk => hb.block k hk
theorem Bp.mono (h : Bp Z V nv kv lv N Ks L w) (hz : ∀ k, k < w.heap.size → Z k → Z' k) : Bp Z' V nv kv lv N Ks L w :=
  ⟨h.box, h.rowN, h.rowK, h.rowL, h.ne, hz V (loc_lt h.box) h.zV, fun g hg => hz g (owns_lt h.rowN hg) (h.zn g hg), fun g hg => hz g (owns_lt h.rowK hg) (h.zk g hg), fun g hg => hz g (owns_lt h.rowL hg) (h.zl g hg)⟩
theorem Bp.cells (h : Bp Z V nv kv lv N Ks L w) : w.cell? ⟨V, 0, none⟩ = some nv ∧ w.cell? ⟨V, 1, none⟩ = some kv ∧ w.cell? ⟨V, 2, none⟩ = some lv :=
  ⟨cell_of_row w V 0 _ _ _ h.box, cell_of_row w V 1 _ _ _ h.box, cell_of_row w V 2 _ _ _ h.box⟩
theorem strs_one (l : List Bytes) (s : Bytes) : strs (l ++ [s]) = strs l ++ [.string ⟨s.toArray⟩] := by unfold strs str; simp
theorem ints_one (l : List Int) (k : Int) : ints (l ++ [k]) = ints l ++ [.int .i64 k] := by unfold ints; simp
theorem Bp.growN (h : Bp Z V nv kv lv N Ks L w) (hz : ∀ g, w.heap.size ≤ g → Z g) {o : Obj} {w2 : World} {g cap : Nat} {s : Bytes} (hown : w2.ownsRow 0 9 1 (.slice (some ⟨g, 0, none⟩) (N.length + 1) cap) (N.length + 1) (strs N ++ [.string ⟨s.toArray⟩]))
    (hg : (nv.ownBlock = some g ∧ (w.alloc o).grownBy w2 (some g)) ∨ (g = w.heap.size + 1 ∧ (w.alloc o).grownBy w2 none)) :
    Bp Z V (.slice (some ⟨g, 0, none⟩) (N.length + 1) cap) kv lv (N ++ [s]) Ks L (w2.setCell ⟨V, 0, none⟩ (.slice (some ⟨g, 0, none⟩) (N.length + 1) cap)) ∧ Fr Z w (w2.setCell ⟨V, 0, none⟩ (.slice (some ⟨g, 0, none⟩) (N.length + 1) cap)) ∧ w2.cell? ⟨V, 0, none⟩ = some nv ∧ w2.frozen? ⟨V, 0, none⟩ = false := by
  have hgB : g ≠ V := by
    rcases hg with ⟨h1, _⟩ | ⟨h1, _⟩
    · intro e; exact own_ne h.rowN h.box (by decide) (by rw [h1, e])
    · have := loc_lt h.box; omega
  have hgz : Z g := by
    rcases hg with ⟨h1, _⟩ | ⟨h1, _⟩
    · exact h.zn g h1
    · exact hz g (by omega)
  have hb2 := (grown_old rfl hg (loc_lt h.box) (own_ne h.rowN h.box (by decide))).trans h.box
  have hf2 : Fr Z w w2 := grown_fr (Z := Z) rfl hg h.zn
  have o3 : ∀ j, j ≠ V → (w2.setCell ⟨V, 0, none⟩ (.slice (some ⟨g, 0, none⟩) (N.length + 1) cap)).heap[j]? = w2.heap[j]? := fun j hj => heap_setCell_other w2 ⟨V, 0, none⟩ j _ hj
  have hb3 := loc_set (i := 0) (v := .slice (some ⟨g, 0, none⟩) (N.length + 1) cap) hb2
  have hk : (w2.setCell ⟨V, 0, none⟩ (.slice (some ⟨g, 0, none⟩) (N.length + 1) cap)).ownsRow 0 3 1 kv Ks.length (ints Ks) := owns_keep h.rowK fun j hj => (o3 j (fun e => own_ne h.rowK h.box (by decide) (by rw [← e]; exact hj))).trans (grown_old rfl hg (owns_lt h.rowK hj) (own_ne2 h.rowN h.rowK (by decide) hj))
  have hl : (w2.setCell ⟨V, 0, none⟩ (.slice (some ⟨g, 0, none⟩) (N.length + 1) cap)).ownsRow 0 9 1 lv L.length (strs L) := owns_keep h.rowL fun j hj => (o3 j (fun e => own_ne h.rowL h.box (by decide) (by rw [← e]; exact hj))).trans (grown_old rfl hg (owns_lt h.rowL hj) (fun e => h.ne j e hj))
  have hn : (w2.setCell ⟨V, 0, none⟩ (.slice (some ⟨g, 0, none⟩) (N.length + 1) cap)).ownsRow 0 9 1 (.slice (some ⟨g, 0, none⟩) (N.length + 1) cap) (N ++ [s]).length (strs (N ++ [s])) := by
    rw [strs_one, List.length_append]
    exact owns_keep hown fun j hj => o3 j (by cases hj; exact hgB)
  refine ⟨⟨by simpa using hb3, hn, hk, hl, ?ne, h.zV, (fun j hj => by cases hj; exact hgz), h.zk, h.zl⟩, hf2.trans (.setCell ⟨V, 0, none⟩ (.slice (some ⟨g, 0, none⟩) (N.length + 1) cap) h.zV), cell_of_row w2 V 0 _ _ _ hb2, frozen_of_row w2 V 0 _ _ hb2⟩
  case ne =>
    intro j hj
    cases hj
    rcases hg with ⟨h1, _⟩ | ⟨h1, _⟩
    · exact h.ne _ h1
    · intro e
      have : g < w.heap.size := owns_lt h.rowL e
      omega
theorem Bp.growL (h : Bp Z V nv kv lv N Ks L w) (hz : ∀ g, w.heap.size ≤ g → Z g) {o : Obj} {w2 : World} {g cap : Nat} {s : Bytes} (hown : w2.ownsRow 0 9 1 (.slice (some ⟨g, 0, none⟩) (L.length + 1) cap) (L.length + 1) (strs L ++ [.string ⟨s.toArray⟩]))
    (hg : (lv.ownBlock = some g ∧ (w.alloc o).grownBy w2 (some g)) ∨ (g = w.heap.size + 1 ∧ (w.alloc o).grownBy w2 none)) :
    Bp Z V nv kv (.slice (some ⟨g, 0, none⟩) (L.length + 1) cap) N Ks (L ++ [s]) (w2.setCell ⟨V, 2, none⟩ (.slice (some ⟨g, 0, none⟩) (L.length + 1) cap)) ∧ Fr Z w (w2.setCell ⟨V, 2, none⟩ (.slice (some ⟨g, 0, none⟩) (L.length + 1) cap)) ∧ w2.cell? ⟨V, 2, none⟩ = some lv ∧ w2.frozen? ⟨V, 2, none⟩ = false := by
  have hgB : g ≠ V := by
    rcases hg with ⟨h1, _⟩ | ⟨h1, _⟩
    · intro e; exact own_ne h.rowL h.box (by decide) (by rw [h1, e])
    · have := loc_lt h.box; omega
  have hgz : Z g := by
    rcases hg with ⟨h1, _⟩ | ⟨h1, _⟩
    · exact h.zl g h1
    · exact hz g (by omega)
  have hb2 := (grown_old rfl hg (loc_lt h.box) (own_ne h.rowL h.box (by decide))).trans h.box
  have hf2 : Fr Z w w2 := grown_fr (Z := Z) rfl hg h.zl
  have o3 : ∀ j, j ≠ V → (w2.setCell ⟨V, 2, none⟩ (.slice (some ⟨g, 0, none⟩) (L.length + 1) cap)).heap[j]? = w2.heap[j]? := fun j hj => heap_setCell_other w2 ⟨V, 2, none⟩ j _ hj
  have hb3 := loc_set (i := 2) (v := .slice (some ⟨g, 0, none⟩) (L.length + 1) cap) hb2
  have hk : (w2.setCell ⟨V, 2, none⟩ (.slice (some ⟨g, 0, none⟩) (L.length + 1) cap)).ownsRow 0 3 1 kv Ks.length (ints Ks) := owns_keep h.rowK fun j hj => (o3 j (fun e => own_ne h.rowK h.box (by decide) (by rw [← e]; exact hj))).trans (grown_old rfl hg (owns_lt h.rowK hj) (own_ne2 h.rowL h.rowK (by decide) hj))
  have hn : (w2.setCell ⟨V, 2, none⟩ (.slice (some ⟨g, 0, none⟩) (L.length + 1) cap)).ownsRow 0 9 1 nv N.length (strs N) := owns_keep h.rowN fun j hj => (o3 j (fun e => own_ne h.rowN h.box (by decide) (by rw [← e]; exact hj))).trans (grown_old rfl hg (owns_lt h.rowN hj) (fun e => h.ne j hj e))
  have hl : (w2.setCell ⟨V, 2, none⟩ (.slice (some ⟨g, 0, none⟩) (L.length + 1) cap)).ownsRow 0 9 1 (.slice (some ⟨g, 0, none⟩) (L.length + 1) cap) (L ++ [s]).length (strs (L ++ [s])) := by
    rw [strs_one, List.length_append]
    exact owns_keep hown fun j hj => o3 j (by cases hj; exact hgB)
  refine ⟨⟨by simpa using hb3, hn, hk, hl, ?ne, h.zV, h.zn, h.zk, (fun j hj => by cases hj; exact hgz)⟩, hf2.trans (.setCell ⟨V, 2, none⟩ (.slice (some ⟨g, 0, none⟩) (L.length + 1) cap) h.zV), cell_of_row w2 V 2 _ _ _ hb2, frozen_of_row w2 V 2 _ _ hb2⟩
  case ne =>
    intro j hj e
    cases e
    rcases hg with ⟨h1, _⟩ | ⟨h1, _⟩
    · exact h.ne _ hj h1
    · have : g < w.heap.size := owns_lt h.rowN hj
      omega
theorem Bp.growK (h : Bp Z V nv kv lv N Ks L w) (hz : ∀ g, w.heap.size ≤ g → Z g) {o : Obj} {w2 : World} {g cap : Nat} {k : Int} (hown : w2.ownsRow 0 3 1 (.slice (some ⟨g, 0, none⟩) (Ks.length + 1) cap) (Ks.length + 1) (ints Ks ++ [.int .i64 k]))
    (hg : (kv.ownBlock = some g ∧ (w.alloc o).grownBy w2 (some g)) ∨ (g = w.heap.size + 1 ∧ (w.alloc o).grownBy w2 none)) :
    Bp Z V nv (.slice (some ⟨g, 0, none⟩) (Ks.length + 1) cap) lv N (Ks ++ [k]) L (w2.setCell ⟨V, 1, none⟩ (.slice (some ⟨g, 0, none⟩) (Ks.length + 1) cap)) ∧ Fr Z w (w2.setCell ⟨V, 1, none⟩ (.slice (some ⟨g, 0, none⟩) (Ks.length + 1) cap)) ∧ w2.cell? ⟨V, 1, none⟩ = some kv ∧ w2.frozen? ⟨V, 1, none⟩ = false := by
  have hgB : g ≠ V := by
    rcases hg with ⟨h1, _⟩ | ⟨h1, _⟩
    · intro e; exact own_ne h.rowK h.box (by decide) (by rw [h1, e])
    · have := loc_lt h.box; omega
  have hgz : Z g := by
    rcases hg with ⟨h1, _⟩ | ⟨h1, _⟩
    · exact h.zk g h1
    · exact hz g (by omega)
  have hb2 := (grown_old rfl hg (loc_lt h.box) (own_ne h.rowK h.box (by decide))).trans h.box
  have hf2 : Fr Z w w2 := grown_fr (Z := Z) rfl hg h.zk
  have o3 : ∀ j, j ≠ V → (w2.setCell ⟨V, 1, none⟩ (.slice (some ⟨g, 0, none⟩) (Ks.length + 1) cap)).heap[j]? = w2.heap[j]? := fun j hj => heap_setCell_other w2 ⟨V, 1, none⟩ j _ hj
  have hb3 := loc_set (i := 1) (v := .slice (some ⟨g, 0, none⟩) (Ks.length + 1) cap) hb2
  have hn : (w2.setCell ⟨V, 1, none⟩ (.slice (some ⟨g, 0, none⟩) (Ks.length + 1) cap)).ownsRow 0 9 1 nv N.length (strs N) := owns_keep h.rowN fun j hj => (o3 j (fun e => own_ne h.rowN h.box (by decide) (by rw [← e]; exact hj))).trans (grown_old rfl hg (owns_lt h.rowN hj) (own_ne2 h.rowK h.rowN (by decide) hj))
  have hl : (w2.setCell ⟨V, 1, none⟩ (.slice (some ⟨g, 0, none⟩) (Ks.length + 1) cap)).ownsRow 0 9 1 lv L.length (strs L) := owns_keep h.rowL fun j hj => (o3 j (fun e => own_ne h.rowL h.box (by decide) (by rw [← e]; exact hj))).trans (grown_old rfl hg (owns_lt h.rowL hj) (own_ne2 h.rowK h.rowL (by decide) hj))
  have hk : (w2.setCell ⟨V, 1, none⟩ (.slice (some ⟨g, 0, none⟩) (Ks.length + 1) cap)).ownsRow 0 3 1 (.slice (some ⟨g, 0, none⟩) (Ks.length + 1) cap) (Ks ++ [k]).length (ints (Ks ++ [k])) := by
    rw [ints_one, List.length_append]
    exact owns_keep hown fun j hj => o3 j (by cases hj; exact hgB)
  refine ⟨⟨by simpa using hb3, hn, hk, hl, ?ne, h.zV, h.zn, (fun j hj => by cases hj; exact hgz), h.zl⟩, hf2.trans (.setCell ⟨V, 1, none⟩ (.slice (some ⟨g, 0, none⟩) (Ks.length + 1) cap) h.zV), cell_of_row w2 V 1 _ _ _ hb2, frozen_of_row w2 V 1 _ _ hb2⟩
  case ne => exact h.ne
end
/-- All that the page's book is asked with. -/
structure Pk (W0 : World) (S : StatM) (st : St9) (Z : Nat → Prop) (V B : Nat) (v : Scope) (X : World) : Prop where
  srW : SR W0.heap.size W0 S st
  fit : S.fitsB = true
  bel : Below W0.heap.size W0 X
  low : ∀ k, Z k → W0.heap.size ≤ k
  bk : ∃ nv kv lv N Ks L, Bp Z V nv kv lv N Ks L X ∧ Sim v N Ks L ∧ N.length ≤ B ∧ L.length ≤ B
  new : ∀ g, X.heap.size ≤ g → Z g
section
variable {W0 : World} {S : StatM} {st : St9} {Z Z' : Nat → Prop} {V B B' : Nat} {v v' : Scope} {X X' X1 : World}
theorem Pk.sr (h : Pk W0 S st Z V B v X) : SR X.heap.size X S st := SR.mono h.bel.size (h.srW.keep h.bel.block)
theorem Pk.fr (h : Pk W0 S st Z V B v X) (hf : Fr Z X X') (hs : ∃ nv kv lv N Ks L, Bp Z V nv kv lv N Ks L X' ∧ Sim v' N Ks L ∧ N.length ≤ B' ∧ L.length ≤ B') : Pk W0 S st Z V B' v' X' :=
  ⟨h.srW, h.fit, h.bel.trans (hf.below fun k hk => ⟨Nat.lt_of_lt_of_le hk h.bel.size, fun hz => by have := h.low k hz; omega⟩), h.low, hs, fun g hg => h.new g (Nat.le_trans hf.size hg)⟩
theorem Pk.below (h : Pk W0 S st Z V B v X) (hb : Below X.heap.size X X') : Pk W0 S st Z V B v X' := by
  obtain ⟨nv, kv, lv, N, Ks, L, h1, h2, h3, h4⟩ := h.bk
  exact h.fr (.of_below hb) ⟨nv, kv, lv, N, Ks, L, h1.below hb, h2, h3, h4⟩
theorem Pk.grow (h : Pk W0 S st Z V B v X) (hB : B ≤ B') : Pk W0 S st Z V B' v X := by
  obtain ⟨nv, kv, lv, N, Ks, L, h1, h2, h3, h4⟩ := h.bk
  exact ⟨h.srW, h.fit, h.bel, h.low, ⟨nv, kv, lv, N, Ks, L, h1, h2, by omega, by omega⟩, h.new⟩
/-- What is new beside belongs to nobody. -/
theorem Pk.fits (h : Pk W0 S st Z V B v X) (hb : Below X.heap.size X X1) : Pk W0 S st (fun k => (Z k ∧ k < X.heap.size) ∨ X1.heap.size ≤ k) V B v X1 := by
  obtain ⟨nv, kv, lv, N, Ks, L, h1, h2, h3, h4⟩ := h.bk
  have hx := h.bel.size
  have hs := hb.size
  refine ⟨h.srW, h.fit, h.bel.trans (hb.mono hx), ?_, ⟨nv, kv, lv, N, Ks, L, (h1.mono fun k hk hz => .inl ⟨hz, hk⟩).keep ?_, h2, h3, h4⟩, fun g hg => .inr hg⟩
  · rintro k (a | a)
    · exact h.low k a.1
    · omega
  · intro k _ hk
    exact hb.block k hk
theorem Pk.sub (h : Pk W0 S st Z V B v X) (hb : Below X.heap.size X X1) : ∀ k, ((Z k ∧ k < X.heap.size) ∨ X1.heap.size ≤ k) → Z k := by
  rintro k (a | a)
  · exact a.1
  · exact h.new k (by have := hb.size; omega)
theorem Pk.up (h : Pk W0 S st Z V B v X) (h' : Pk W0 S st Z' V B' v' X') (hz : ∀ k, Z' k → Z k) : Pk W0 S st Z V B' v' X' := by
  obtain ⟨nv, kv, lv, N, Ks, L, h1, h2, h3, h4⟩ := h'.bk
  exact ⟨h'.srW, h'.fit, h'.bel, h.low, ⟨nv, kv, lv, N, Ks, L, h1.mono fun k _ e => hz k e, h2, h3, h4⟩, fun g hg => hz g (h'.new g hg)⟩
end
/-- How a question to the page's book ends. -/
def Eks (W0 : World) (S : StatM) (st : St9) (Z : Nat → Prop) (V B : Nat) (X : World) (o : Er Scope) (e : Ending) (X' : World) : Prop :=
  e = .returned (.int .i64 (erc o)) ∧ Fr Z X X' ∧ ∀ v', o = .ok v' → Pk W0 S st Z V B v' X'
section
variable {W0 : World} {S : StatM} {st : St9} {Z : Nat → Prop} {V B : Nat} {X X' : World} {o : Er Scope}
theorem Eks.bad {c : Int} (h : .error c = o) (hf : Fr Z X X') : Eks W0 S st Z V B X o (.returned (.int .i64 c)) X' := by subst h; exact ⟨rfl, hf, fun _ e => by cases e⟩
theorem Eks.ok {v : Scope} (h : .ok v = o) (hf : Fr Z X X') (hp : Pk W0 S st Z V B v X') : Eks W0 S st Z V B X o (.returned (.int .i64 0)) X' := by subst h; exact ⟨rfl, hf, fun _ e => by cases e; exact hp⟩
theorem Eks.no {e : Ending} (h : Eks W0 S st Z V B X o e X') : (∃ c, o = .error c ∧ e = .returned (.int .i64 c) ∧ Fr Z X X') ∨ (∃ v', o = .ok v' ∧ e = .returned (.int .i64 0) ∧ Pk W0 S st Z V B v' X' ∧ Fr Z X X') := by
  obtain ⟨h1, h2, h3⟩ := h
  cases o with
  | ok v => exact .inr ⟨v, rfl, h1, h3 v rfl, h2⟩
  | error c => exact .inl ⟨c, rfl, h1, h2⟩
end
end Go.Proofs.YtfnobccminhjpaaGreat
