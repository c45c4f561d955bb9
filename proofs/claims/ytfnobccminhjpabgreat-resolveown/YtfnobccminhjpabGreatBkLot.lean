/- Many rows, apart from one another: what stays when one of them is written or grows. No function in sight. -/
import Derived.Test.YtfnobccminhjpabGreatBook
import Derived.Lib.OwnKind
import Derived.Below
import Derived.Laws.OwnMore
import Derived.OneCell
import Derived.Test.YtfnobccminhjpabGreatScope8
import Derived.Laws.BytesArg
import Derived.Deep.RegionWith
import Derived.Deep.RegionHeld3
namespace Go.Proofs.YtfnobccminhjpabGreat
open Go.RowKit

theorem own_apart {w : World} {B e1 e2 s1 s2 n m : Nat} {u v : Value} {xs ys : List Value} (h1 : w.ownsRow B e1 s1 u n xs) (h2 : w.ownsRow B e2 s2 v m ys) (hne : e1 ≠ e2) : v.ownBlock = none ∨ v.ownBlock ≠ u.ownBlock := by
  cases hv : v.ownBlock with
  | none => exact .inl rfl
  | some g =>
    refine .inr (fun e => ?_)
    obtain ⟨c, fz, hc⟩ := Go.Lib.ownsRow_kind h2 g hv
    obtain ⟨c', fz', hc'⟩ := Go.Lib.ownsRow_kind h1 g e.symm
    rw [hc] at hc'
    simp at hc'
    exact hne hc'.2.1.symm

theorem own_some {w : World} {B e s n : Nat} {v : Value} {xs : List Value} (h : w.ownsRow B e s v n xs) (hn : 0 < n) (hs : 0 < s) : ∃ g cap, v = .slice (some ⟨g, 0, none⟩) n cap ∧ B ≤ g ∧ n ≤ cap ∧ cap ≤ maxLen := by
  rcases h.2 with ⟨rfl, h0⟩ | ⟨g, cap, cur, rfl, hb, hg, hnc, hcm, _⟩
  · subst h0
    have := h.1
    have h2 := Nat.mul_pos hn hs
    simp at this
    omega
  · exact ⟨g, cap, rfl, hb, hnc, hcm⟩

theorem own_below' {e s : Nat} {w w' : World} {base B : Nat} {v : Value} {n : Nat} {xs : List Value} (h : w.ownsRow base e s v n xs) (hb : Below B w w') (hB : w.heap.size ≤ B) : w'.ownsRow base e s v n xs := by
  refine ⟨h.1, ?_⟩
  rcases h.2 with hn | ⟨g, cap, cur, rfl, hbg, hgg, rest⟩
  · exact .inl hn
  · refine .inr ⟨g, cap, cur, rfl, hbg, ?_, rest⟩
    rw [hb.block g (by have := (Array.getElem?_eq_some_iff.1 hgg).1; omega)]
    exact hgg

theorem own_base3 {e s : Nat} {wr : World} {B B' n : Nat} {v : Value} {xs : List Value} (h : wr.ownsRow B e s v n xs) (hb : B' ≤ B) : wr.ownsRow B' e s v n xs := by
  refine ⟨h.1, ?_⟩
  rcases h.2 with h1 | ⟨g, cap, cur, h1, h2, h3⟩
  · exact .inl h1
  · exact .inr ⟨g, cap, cur, h1, Nat.le_trans hb h2, h3⟩

/-- A row whose block is as it was is the same row. -/
theorem own_same {e s : Nat} {w w' : World} {B n : Nat} {v : Value} {xs : List Value} (h : w.ownsRow B e s v n xs) (hb : ∀ k, v.ownBlock = some k → w'.heap[k]? = w.heap[k]?) : w'.ownsRow B e s v n xs := by
  refine ⟨h.1, ?_⟩
  rcases h.2 with hn | ⟨g, cap, cur, rfl, hbg, hgg, rest⟩
  · exact .inl hn
  · exact .inr ⟨g, cap, cur, rfl, hbg, (hb g rfl).trans hgg, rest⟩

abbrev rowV (b n c : Nat → Nat) (j : Nat) : Value := .slice (some ⟨b j, 0, none⟩) (n j) (c j)

/-- The marks of a row: mk i k is what the row i shows at k. -/
def marksOf (mk : Nat → Nat → Value) (i n : Nat) : List Value := (List.range n).map (mk i)

theorem marksOf_len (mk : Nat → Nat → Value) (i n : Nat) : (marksOf mk i n).length = n := by simp [marksOf]
theorem marksOf_succ (mk : Nat → Nat → Value) (i n : Nat) : marksOf mk i (n + 1) = marksOf mk i n ++ [mk i n] := by simp [marksOf, List.range_succ]
theorem marksOf_at (mk : Nat → Nat → Value) (i n k : Nat) (h : k < n) : (marksOf mk i n)[k]? = some (mk i k) := by simp [marksOf, h]

theorem take_set_succ (l : List Value) (k : Nat) (u : Value) (h : k < l.length) : (l.set k u).take (k + 1) = l.take k ++ [u] := by
  rw [List.take_succ_eq_append_getElem (by simpa using h)]
  simp [List.take_set_of_le]

theorem setCell_far (w : World) (a : Addr) (u : Value) (z : Nat) (h : z ≠ a.block) : (w.setCell a u).heap[z]? = w.heap[z]? := by
  unfold World.setCell
  simp [Array.getElem?_modify, Ne.symm h]

/-- While the rows are marked. -/
structure Marking (B e sz f g cm m : Nat) (b n c : Nat → Nat) (w wr : World) (ys : Nat → List Value) : Prop where
  bel : Below B w wr
  cont : wr.ownsRow B f 1 (.slice (some ⟨g, 0, none⟩) m cm) m ((List.range m).map (rowV b n c))
  own : ∀ j, j < m → wr.ownsRow B e sz (rowV b n c j) (n j) (ys j)
  keep : ∀ k, k < w.heap.size → (∀ j, j < m → k ≠ b j) → wr.heap[k]? = w.heap[k]?

section
variable {B e sz f g cm m : Nat} {b n c : Nat → Nat} {w wr : World} {ys : Nat → List Value}

theorem Marking.drew (h : Marking B e sz f g cm m b n c w wr ys) : Marking B e sz f g cm m b n c w wr.drew ys := ⟨h.bel.drew, h.cont.drew, fun j hj => (h.own j hj).drew, h.keep⟩

theorem Marking.below {w2 : World} (h : Marking B e sz f g cm m b n c w wr ys) (hb : Below wr.heap.size wr w2) : Marking B e sz f g cm m b n c w w2 ys :=
  ⟨h.bel.trans (hb.mono (by have := h.cont.lt g rfl; omega)), own_below' h.cont hb (Nat.le_refl _), fun j hj => own_below' (h.own j hj) hb (Nat.le_refl _), fun k hk hf => (hb.block k (Nat.lt_of_lt_of_le hk h.bel.size)).trans (h.keep k hk hf)⟩

theorem Marking.at (h : Marking B e sz f g cm m b n c w wr ys) {i : Nat} (hi : i < m) : wr.cell? ⟨g, i, none⟩ = some (rowV b n c i) := by
  rw [h.cont.cellAt i (by omega)]; simp [hi]

theorem Marking.put (h : Marking B e sz f g cm m b n c w wr ys) (hne : e ≠ f) (hbd : ∀ i j, i < m → j < m → i ≠ j → b i ≠ b j) {i k : Nat} (hi : i < m) (u : Value) :
    Marking B e sz f g cm m b n c w (wr.setCell ⟨b i, k, none⟩ u) (fun j => if j = i then (ys i).set k u else ys j) := by
  have hlt := (h.own i hi).lt (b i) rfl
  refine ⟨h.bel.setCell hlt.1 _, ?_, fun j hj => ?_, fun z hz hf => ?_⟩
  · refine ownsRow_setCell_other h.cont ?_ u
    rcases own_apart (h.own i hi) h.cont hne with h1 | h1
    · simp [Value.ownBlock] at h1
    · exact h1
  · by_cases e' : j = i
    · subst e'
      simp only [if_pos]
      exact ((h.own j hj).stored k u).1
    · simp only [if_neg e']
      exact ownsRow_setCell_other (h.own j hj) (by simp [Value.ownBlock]; exact hbd j i hj hi e') u
  · rw [setCell_far wr ⟨b i, k, none⟩ u z (hf i hi)]
    exact h.keep z hz hf

end

/-- While the rows grow: those ahead of i have grown. -/
structure Growing (B e sz f g cm m : Nat) (b n c : Nat → Nat) (mk : Nat → Nat → Value) (w wr : World) (i : Nat) (bg cg : Nat → Nat) (G : Value) : Prop where
  bel : Below B w wr
  cont : wr.ownsRow B f 1 (.slice (some ⟨g, 0, none⟩) m cm) m ((List.range m).map (rowV b n c))
  grownC : wr.ownsRow B f 1 G i ((List.range i).map (rowV bg (fun j => n j + 20) cg))
  gne : G.ownBlock ≠ some g
  gnb : ∀ j, j < m → G.ownBlock ≠ some (b j)
  own : ∀ j, i ≤ j → j < m → wr.ownsRow B e sz (rowV b n c j) (n j) (marksOf mk j (n j * sz))
  grown : ∀ j, j < i → wr.ownsRow B e sz (rowV bg (fun j => n j + 20) cg j) (n j + 20) (marksOf mk j ((n j + 20) * sz))
  old : ∀ j, j < i → ∀ k, k < n j * sz → wr.cell? ⟨b j, k, none⟩ = some (mk j k)
  far : ∀ j, j < i → ∀ j', i ≤ j' → j' < m → bg j ≠ b j'
  keep : ∀ k, k < w.heap.size → (∀ j, j < m → k ≠ b j) → wr.heap[k]? = w.heap[k]?
  gnew : ∀ k, G.ownBlock = some k → w.heap.size ≤ k

/-- While the row i grows: so many more already, in the block bc. -/
structure Grows (B e sz f g cm m : Nat) (b n c : Nat → Nat) (mk : Nat → Nat → Value) (w wr : World) (i : Nat) (bg cg : Nat → Nat) (G : Value) (q bc cc : Nat) : Prop where
  bel : Below B w wr
  cont : wr.ownsRow B f 1 (.slice (some ⟨g, 0, none⟩) m cm) m ((List.range m).map (rowV b n c))
  grownC : wr.ownsRow B f 1 G i ((List.range i).map (rowV bg (fun j => n j + 20) cg))
  gne : G.ownBlock ≠ some g
  gnb : ∀ j, j < m → G.ownBlock ≠ some (b j)
  own : ∀ j, i < j → j < m → wr.ownsRow B e sz (rowV b n c j) (n j) (marksOf mk j (n j * sz))
  grown : ∀ j, j < i → wr.ownsRow B e sz (rowV bg (fun j => n j + 20) cg j) (n j + 20) (marksOf mk j ((n j + 20) * sz))
  old : ∀ j, j ≤ i → ∀ k, k < n j * sz → wr.cell? ⟨b j, k, none⟩ = some (mk j k)
  far : ∀ j, j < i → ∀ j', i < j' → j' < m → bg j ≠ b j'
  cur : wr.ownsRow B e sz (.slice (some ⟨bc, 0, none⟩) (n i + q) cc) (n i + q) (marksOf mk i ((n i + q) * sz))
  cfar : ∀ j, j < m → j ≠ i → bc ≠ b j
  cgr : ∀ j, j < i → bc ≠ bg j
  keep : ∀ k, k < w.heap.size → (∀ j, j < m → k ≠ b j) → wr.heap[k]? = w.heap[k]?
  gnew : ∀ k, G.ownBlock = some k → w.heap.size ≤ k
  cnew : bc = b i ∨ w.heap.size ≤ bc

section
variable {B e sz f g cm m i : Nat} {b n c bg cg : Nat → Nat} {mk : Nat → Nat → Value} {w wr w1 : World} {G : Value} {q bc cc : Nat}

theorem Growing.start {ys : Nat → List Value} (h : Marking B e sz f g cm m b n c w wr ys) (hy : ∀ j, j < m → ys j = marksOf mk j (n j * sz)) : Growing B e sz f g cm m b n c mk w wr 0 (fun _ => 0) (fun _ => 0) (.slice none 0 0) :=
  ⟨h.bel, h.cont, World.ownsRow_nil _ _ _ _, by simp [Value.ownBlock], fun j _ => by simp [Value.ownBlock], fun j _ hj => by rw [← hy j hj]; exact h.own j hj, fun j hj => by omega, fun j hj => by omega, fun j hj => by omega, h.keep, fun k hk => by simp [Value.ownBlock] at hk⟩

theorem Growing.at (h : Growing B e sz f g cm m b n c mk w wr i bg cg G) {j : Nat} (hj : j < m) : wr.cell? ⟨g, j, none⟩ = some (rowV b n c j) := by
  rw [h.cont.cellAt j (by omega)]; simp [hj]

theorem Growing.enter (h : Growing B e sz f g cm m b n c mk w wr i bg cg G) (hi : i < m) (hbd : ∀ i j, i < m → j < m → i ≠ j → b i ≠ b j) : Grows B e sz f g cm m b n c mk w wr i bg cg G 0 (b i) (c i) :=
  ⟨h.bel, h.cont, h.grownC, h.gne, h.gnb, fun j hj hm => h.own j (by omega) hm, h.grown, fun j hj k hk => by
    rcases Nat.lt_or_ge j i with hlt | hge
    · exact h.old j hlt k hk
    · have : j = i := by omega
      subst this
      rw [(h.own j (Nat.le_refl _) hi).cellAt k hk]
      exact marksOf_at mk j (n j * sz) k hk,
    fun j hj j' h1 h2 => h.far j hj j' (by omega) h2, h.own i (Nat.le_refl _) hi, fun j hj hne => hbd i j hi hj (Ne.symm hne), fun j hj => Ne.symm (h.far j hj i (Nat.le_refl _) hi), h.keep, h.gnew, .inl rfl⟩

theorem Grows.below {w2 : World} (h : Grows B e sz f g cm m b n c mk w wr i bg cg G q bc cc) (hb : Below wr.heap.size wr w2) : Grows B e sz f g cm m b n c mk w w2 i bg cg G q bc cc :=
  ⟨h.bel.trans (hb.mono (by have := h.cont.lt g rfl; omega)), own_below' h.cont hb (Nat.le_refl _), own_below' h.grownC hb (Nat.le_refl _), h.gne, h.gnb, fun j h1 h2 => own_below' (h.own j h1 h2) hb (Nat.le_refl _), fun j hj => own_below' (h.grown j hj) hb (Nat.le_refl _), fun j hj k hk => by
    have h1 := h.old j hj k hk
    exact (hb.cell (p := ⟨b j, k, none⟩) (World.block_lt_of_cell? _ _ h1)).trans h1,
    h.far, own_below' h.cur hb (Nat.le_refl _), h.cfar, h.cgr, fun k hk hf => (hb.block k (Nat.lt_of_lt_of_le hk h.bel.size)).trans (h.keep k hk hf), h.gnew, h.cnew⟩

theorem Grows.alloc (h : Grows B e sz f g cm m b n c mk w wr i bg cg G q bc cc) (o : Obj) : Grows B e sz f g cm m b n c mk w (wr.alloc o) i bg cg G q bc cc :=
  h.below ((Below.refl _ _).alloc (Nat.le_refl _) o)

/-- One more element: in the same block or in a new one. -/
theorem Grows.step (h : Grows B e sz f g cm m b n c mk w wr i bg cg G q bc cc) (hef : e ≠ f) (hn : ∀ j, j < m → 1 ≤ n j * sz) (hi : i < m) {g' cap' : Nat}
    (hown : w1.ownsRow B e sz (.slice (some ⟨g', 0, none⟩) (n i + q + 1) cap') (n i + q + 1) (marksOf mk i ((n i + q + 1) * sz)))
    (hg : (some bc = some g' ∧ wr.grownBy w1 (some g')) ∨ (g' = wr.heap.size ∧ wr.grownBy w1 none)) : Grows B e sz f g cm m b n c mk w w1 i bg cg G (q + 1) g' cap' := by
  have hcl := (h.cur.lt bc rfl)
  have hcg : g ≠ bc := by
    rcases own_apart h.cur h.cont hef with h1 | h1
    · simp [Value.ownBlock] at h1
    · simpa [Value.ownBlock] using h1
  have hcG : G.ownBlock ≠ some bc := by
    rcases own_apart h.cur h.grownC hef with h1 | h1
    · rw [h1]; simp
    · exact h1
  have hlb : ∀ j, j < m → b j < wr.heap.size := fun j hj => by
    rcases Nat.lt_or_ge i j with hlt | hge
    · exact ((h.own j hlt hj).lt (b j) rfl).2
    · exact World.block_lt_of_cell? _ _ (h.old j hge 0 (by have := hn j hj; omega))
  rcases hg with ⟨e1, hgr⟩ | ⟨e1, hgr⟩
  · obtain rfl : bc = g' := by simpa using e1
    refine ⟨h.bel.grown hgr (by have := h.cont.lt g rfl; omega) (fun k hk => by simp at hk; omega), h.cont.kept hgr (.inr (by simpa [Value.ownBlock] using hcg)), h.grownC.kept hgr (.inr hcG), h.gne, h.gnb,
      fun j h1 h2 => (h.own j h1 h2).kept hgr (.inr (by simpa [Value.ownBlock] using Ne.symm (h.cfar j h2 (by omega)))), fun j hj => (h.grown j hj).kept hgr (.inr (by simpa [Value.ownBlock] using Ne.symm (h.cgr j hj))), fun j hj k hk => ?_, h.far, hown, h.cfar, h.cgr, fun z hz hf => ?_, h.gnew, h.cnew⟩
    rotate_left
    · refine (hgr.block z (Nat.lt_of_lt_of_le hz h.bel.size) ?_).trans (h.keep z hz hf)
      intro e2
      rcases h.cnew with e3 | e3
      · exact hf i hi (by rw [← e3]; simpa using e2)
      · have : z = bc := by simpa using e2
        omega
    by_cases hb : b j = bc
    · have hji : j = i := by
        rcases Nat.lt_or_ge j m with hjm | hjm
        · by_cases e2 : j = i
          · exact e2
          · exact absurd hb.symm (h.cfar j hjm e2)
        · omega
      subst hji
      have hk2 : k < (n j + q + 1) * sz := Nat.lt_of_lt_of_le hk (Nat.mul_le_mul_right sz (by omega))
      rw [hb, hown.cellAt k hk2]
      exact marksOf_at mk j _ k hk2
    · exact hgr.cell (h.old j hj k hk) (by simpa using hb)
  · subst e1
    refine ⟨h.bel.grown hgr (by have := h.cont.lt g rfl; omega) (fun k hk => by cases hk), h.cont.kept hgr (.inr (by simp [Value.ownBlock])), ?_, h.gne, h.gnb,
      fun j h1 h2 => (h.own j h1 h2).kept hgr (.inr (by simp [Value.ownBlock])), fun j hj => (h.grown j hj).kept hgr (.inr (by simp [Value.ownBlock])), fun j hj k hk => hgr.cell (h.old j hj k hk) (by simp), h.far, hown, fun j hj _ => Nat.ne_of_gt (hlb j hj), fun j hj => Nat.ne_of_gt ((h.grown j hj).lt (bg j) rfl).2, fun z hz hf => (hgr.block z (Nat.lt_of_lt_of_le hz h.bel.size) (by simp)).trans (h.keep z hz hf), h.gnew, .inr h.bel.size⟩
    cases hG : G.ownBlock with
    | none => exact h.grownC.kept hgr (.inl hG)
    | some k => exact h.grownC.kept hgr (.inr (by rw [hG]; simp))

/-- The grown row is put to the others. -/
theorem Grows.leave (h : Grows B e sz f g cm m b n c mk w wr i bg cg G 20 bc cc) (hef : e ≠ f) (hn : ∀ j, j < m → 1 ≤ n j * sz) (hi : i < m) {g' cap' : Nat}
    (hown : w1.ownsRow B f 1 (.slice (some ⟨g', 0, none⟩) (i + 1) cap') (i + 1) ((List.range i).map (rowV bg (fun j => n j + 20) cg) ++ [.slice (some ⟨bc, 0, none⟩) (n i + 20) cc]))
    (hg : (G.ownBlock = some g' ∧ wr.grownBy w1 (some g')) ∨ (g' = wr.heap.size ∧ wr.grownBy w1 none)) :
    Growing B e sz f g cm m b n c mk w w1 (i + 1) (fun j => if j = i then bc else bg j) (fun j => if j = i then cc else cg j) (.slice (some ⟨g', 0, none⟩) (i + 1) cap') := by
  have hlb : ∀ j, j < m → b j < wr.heap.size := fun j hj => by
    rcases Nat.lt_or_ge i j with hlt | hge
    · exact ((h.own j hlt hj).lt (b j) rfl).2
    · exact World.block_lt_of_cell? _ _ (h.old j hge 0 (by have := hn j hj; omega))
  have hgl := (h.cont.lt g rfl)
  have hrow : ∃ row : Option Nat, wr.grownBy w1 row ∧ (row = none ∨ row = G.ownBlock) := by
    rcases hg with ⟨e1, hgr⟩ | ⟨e1, hgr⟩
    · exact ⟨some g', hgr, .inr e1.symm⟩
    · exact ⟨none, hgr, .inl rfl⟩
  obtain ⟨row, hgr, hrw⟩ := hrow
  have kind : ∀ {v : Value} {k : Nat} {xs : List Value}, wr.ownsRow B e sz v k xs → v.ownBlock = none ∨ v.ownBlock ≠ row := fun {v k xs} hv => by
    cases hvb : v.ownBlock with
    | none => exact .inl rfl
    | some z =>
      refine .inr ?_
      rcases hrw with rfl | rfl
      · simp
      · rcases own_apart h.grownC hv (Ne.symm hef) with h1 | h1
        · rw [hvb] at h1; cases h1
        · rw [← hvb]; exact h1
  have hbel : Below B w w1 := h.bel.grown hgr (by have := h.cont.lt g rfl; omega) (fun k hk => by
    rcases hrw with rfl | rfl
    · cases hk
    · exact (h.grownC.lt k hk).1)
  refine ⟨hbel, h.cont.kept hgr (.inr ?_), ?_, ?_, fun j hj => ?_, fun j h1 h2 => (h.own j (by omega) h2).kept hgr (kind (h.own j (by omega) h2)), fun j hj => ?_, fun j hj k hk => ?_, fun j hj j' h1 h2 => ?_, fun z hz hf => (hgr.block z (Nat.lt_of_lt_of_le hz h.bel.size) ?_).trans (h.keep z hz hf), ?_⟩
  · rcases hrw with rfl | rfl
    · simp [Value.ownBlock]
    · exact Ne.symm h.gne
  · have e1 : (List.range (i + 1)).map (rowV (fun j => if j = i then bc else bg j) (fun j => n j + 20) (fun j => if j = i then cc else cg j)) = (List.range i).map (rowV bg (fun j => n j + 20) cg) ++ [.slice (some ⟨bc, 0, none⟩) (n i + 20) cc] := by
      rw [List.range_succ, List.map_append]
      congr 1
      · apply List.map_congr_left
        intro j hj
        have hlt : j < i := by simpa using hj
        simp [rowV, Nat.ne_of_lt hlt]
      · simp [rowV]
    rw [e1]
    exact hown
  · rcases hg with ⟨e1, _⟩ | ⟨e1, _⟩
    · have := h.gne; rw [e1] at this; simpa [Value.ownBlock] using this
    · simp [Value.ownBlock]; omega
  · rcases hg with ⟨e1, _⟩ | ⟨e1, _⟩
    · have := h.gnb j hj; rw [e1] at this; simpa [Value.ownBlock] using this
    · have := hlb j hj; simp [Value.ownBlock]; omega
  · by_cases e2 : j = i
    · subst e2
      simp only [rowV, if_pos]
      exact h.cur.kept hgr (kind h.cur)
    · have hlt : j < i := by omega
      simp only [rowV, if_neg e2]
      exact (h.grown j hlt).kept hgr (kind (h.grown j hlt))
  · refine hgr.cell (h.old j (by omega) k hk) ?_
    rcases hrw with rfl | rfl
    · simp
    · exact Ne.symm (h.gnb j (by omega))
  · by_cases e2 : j = i
    · subst e2
      simp only [if_pos]
      exact h.cfar j' h2 (by omega)
    · simp only [if_neg e2]
      exact h.far j (by omega) j' (by omega) h2
  · rcases hrw with rfl | rfl
    · simp
    · intro e2
      have := h.gnew z e2.symm
      omega
  · intro z hz
    have hz' : g' = z := by simpa [Value.ownBlock] using hz
    rcases hg with ⟨e1, _⟩ | ⟨e1, _⟩
    · have := h.gnew g' e1; omega
    · have := h.bel.size; omega

end

end Go.Proofs.YtfnobccminhjpabGreat
/- The marks that the book writes. -/
namespace Go.Proofs.YtfnobccminhjpabGreat
open Go.RowKit

def mkI (i k : Nat) : Int := -1 - 100003 * ((i : Int) + 1) - 7 * k
def mkVI (i k : Nat) : Value := .int .i64 (mkI i k)
def mkK (i k : Nat) : Int := -1 - 1003 * (i : Int) - k
def mkVK (i k : Nat) : Value := .int .i64 (mkK i k)
theorem markInts_any (i k : Nat) (w : World) (hi : i ≤ 1000000) (hk : k ≤ 7000000000000) : Calls Tryz.prog 68 #[.int .i64 i, .int .i64 k] w fun e w' => e = .returned (.int .i64 (mkI i k)) ∧ w' = w := by
  go_enter Tryz.func68, Tryz.ntmps68
  go_wp2
  go_ret
  exact ⟨congrArg (fun x => Ending.returned (.int .i64 x)) (by unfold mkI; omega), rfl⟩
theorem markKinds_any (i k : Nat) (w : World) (hi : i ≤ 1000000) (hk : k ≤ 7000000000000) : Calls Tryz.prog 75 #[.int .i64 i, .int .i64 k] w fun e w' => e = .returned (.int .i64 (mkK i k)) ∧ w' = w := by
  go_enter Tryz.func75, Tryz.ntmps75
  go_wp2
  go_ret
  exact ⟨congrArg (fun x => Ending.returned (.int .i64 x)) (by unfold mkK; omega), rfl⟩
theorem cell_one_new (w : World) (x : Value) (t : TypeId) : ∀ j u, [x][j]? = some u → (w.alloc (.cells #[x] t)).cell? ((⟨w.heap.size, 0, none⟩ : Addr).add j) = some u := by
  have := @news_at w [x] t w.heap.size rfl
  exact this
theorem conv_six (W : World) (a b c d e f : Int) : (convert 132 9 (.slice (some ⟨W.heap.size, 0, none⟩) 6 6)).run Tryz.prog (W.alloc (.cells #[.int .u8 a, .int .u8 b, .int .u8 c, .int .u8 d, .int .u8 e, .int .u8 f] 5)) = .ok (.string (strOfNums [a, b, c, d, e, f])) (W.alloc (.cells #[.int .u8 a, .int .u8 b, .int .u8 c, .int .u8 d, .int .u8 e, .int .u8 f] 5)) :=
  run_convert_bytes_arg (P := Tryz.prog) _ 132 5 Tryz.underlying132 Tryz.underlying5 W.heap.size 0 6 6 [a, b, c, d, e, f] rfl (fun i hi => by
    rw [cell_of_row _ _ _ _ _ _ (heap_alloc_new W _)]
    rcases (show i = 0 ∨ i = 1 ∨ i = 2 ∨ i = 3 ∨ i = 4 ∨ i = 5 by omega) with rfl | rfl | rfl | rfl | rfl | rfl <;> rfl) 9 Tryz.underlying9

def bookC (i k : Nat) : Array Value := #[.int .u8 (65 + (i : Int) % 26), .int .u8 (65 + (i : Int) / 26 % 26), .int .u8 (65 + (i : Int) / 676 % 26), .int .u8 (65 + (k : Int) % 26), .int .u8 (65 + (k : Int) / 26 % 26), .int .u8 (65 + (k : Int) / 676 % 26)]

def bookB (i k : Nat) : ByteArray := ⟨#[109, 97, 114, 107, 32]⟩ ++ strOfNums [65 + (i : Int) % 26, 65 + (i : Int) / 26 % 26, 65 + (i : Int) / 676 % 26, 65 + (k : Int) % 26, 65 + (k : Int) / 26 % 26, 65 + (k : Int) / 676 % 26]

theorem strOfNums_size' (xs : List Int) : (strOfNums xs).size = xs.length := by unfold strOfNums; simp [ByteArray.size]

set_option maxRecDepth 100000 in
set_option maxHeartbeats 1000000 in
theorem mark_any (i k : Nat) (w : World) (hi : i ≤ 1000000) (hk : k ≤ 1000000000) : Calls Tryz.prog 126 #[.int .i64 i, .int .i64 k] w fun e w' => e = .returned (.string (bookB i k)) ∧ w' = w.alloc (.cells (bookC i k) 5) := by
  have kc := conv_six
  have ks := strOfNums_size'
  go_enter Tryz.func126, Tryz.ntmps126
  go_wp2_with fail
  go_ret
  exact ⟨rfl, rfl⟩

theorem markStrings_any (i k : Nat) (w : World) (hi : i ≤ 1000000) (hk : k ≤ 1000000000) : Calls Tryz.prog 69 #[.int .i64 i, .int .i64 k] w fun e w' => e = .returned (.string (bookB i k)) ∧ w' = w.alloc (.cells (bookC i k) 5) := by
  have CM := hide mark_any
  go_enter Tryz.func69, Tryz.ntmps69
  go_wp2_with fail
  refine (CM.out _ _ _ hi hk).mono ?_
  rintro _ w1 ⟨rfl, hb⟩
  go_wp2_with fail
  go_ret
  exact ⟨rfl, rfl⟩
end Go.Proofs.YtfnobccminhjpabGreat
