/- The heads of coneOf in memory: a row of rows, each of its own. -/
import Derived.Test.YtdmnoeooljofcaaClsC
namespace Go.Proofs.Ytdmnoeooljofcaa.Cz
open Go.RowKit

/-- The rows' values: each row lies in a block of its own behind hb. -/
structure Hv (hb n : Nat) (H : List (List Int)) (vs : List Value) (w : World) : Prop where
  ln : H.length = n
  vl : vs.length = n
  fx : Fx hb 38 vs w
  own : ∀ (i : Nat) l v, H[i]? = some l → vs[i]? = some v → w.ownsRow (hb + 1) 3 1 v l.length (ints l)
  apart : ∀ (i j : Nat) v u g, vs[i]? = some v → vs[j]? = some u → v.ownBlock = some g → u.ownBlock = some g → i = j
section
variable {hb n : Nat} {H : List (List Int)} {vs : List Value} {w w' : World}
theorem Hv.keep (h : Hv hb n H vs w) (hk : ∀ g, hb ≤ g → g < w.heap.size → w'.heap[g]? = w.heap[g]?) : Hv hb n H vs w' := by
  refine ⟨h.ln, h.vl, h.fx.keep (hk _ (Nat.le_refl _) h.fx.lt), fun i l v h1 h2 => owns_keep (h.own i l v h1 h2) fun g hg => hk g ?_ (owns_lt (h.own i l v h1 h2) hg), h.apart⟩
  have := ((h.own i l v h1 h2).lt g hg).1
  omega
theorem Hv.go (h : Hv hb n H vs w) (hb' : Below w.heap.size w w') : Hv hb n H vs w' := h.keep fun g _ hg => hb'.block g hg
theorem Hv.at (h : Hv hb n H vs w) {i : Nat} (hi : i < n) : ∃ l a c, H[i]? = some l ∧ vs[i]? = some (.slice a l.length c) ∧ w.cell? ⟨hb, i, none⟩ = some (.slice a l.length c) ∧ w.ownsRow (hb + 1) 3 1 (.slice a l.length c) l.length (ints l) := by
  obtain ⟨l, h1⟩ := get_at (l := H) (i := i) (by rw [h.ln]; exact hi)
  obtain ⟨v, h2⟩ := get_at (l := vs) (i := i) (by rw [h.vl]; exact hi)
  have ho := h.own i _ _ h1 h2
  obtain ⟨a, c, e⟩ := owns_slice ho
  rw [e] at ho h2
  exact ⟨l, a, c, h1, h2, h.fx.get h2, ho⟩
theorem Hv.start (w : World) (n : Nat) : Hv w.heap.size n (List.replicate n []) (List.replicate n (.slice none 0 0)) (w.alloc (.cells (Array.replicate n (.slice none 0 0)) 38)) := by
  refine ⟨by simp, by simp, ?_, fun i l v h1 h2 => ?_, fun i j v u g h1 h2 h3 => ?_⟩
  · unfold Fx
    rw [heap_alloc_new]
    simp
  · rw [List.getElem?_replicate] at h1 h2
    split at h1
    · rename_i hi
      rw [if_pos hi] at h2
      cases h1
      cases h2
      exact ⟨rfl, .inl ⟨rfl, rfl⟩⟩
    · cases h1
  · rw [List.getElem?_replicate] at h1
    split at h1
    · cases h1; cases h3
    · cases h1
/-- One number more in row i: the row's block alone is written, or a new one, then the row's cell. -/
theorem Hv.add (h : Hv hb n H vs w) {i : Nat} {l : List Int} {v : Value} (hi : H[i]? = some l) (hv : vs[i]? = some v) {x : Int} {g4 cap4 : Nat} (hnew : w'.ownsRow (hb + 1) 3 1 (.slice (some ⟨g4, 0, none⟩) (l.length + 1) cap4) (l.length + 1) (ints l ++ [.int .i64 x]))
    (hold : ∀ k, k < w.heap.size → v.ownBlock ≠ some k → w'.heap[k]? = w.heap[k]?) (hg : v.ownBlock = some g4 ∨ w.heap.size ≤ g4) :
    Hv hb n (H.set i (l ++ [x])) (vs.set i (.slice (some ⟨g4, 0, none⟩) (l.length + 1) cap4)) (w'.setCell ⟨hb, i, none⟩ (.slice (some ⟨g4, 0, none⟩) (l.length + 1) cap4)) := by
  have hov := h.own i l v hi hv
  have hil : i < n := by rw [← h.ln]; exact (List.getElem?_eq_some_iff.1 hi).1
  have hfx := h.fx.keep (hold _ h.fx.lt (own_fx hov h.fx (by decide)))
  refine ⟨by rw [List.length_set]; exact h.ln, by rw [List.length_set]; exact h.vl, hfx.set i _, fun j m u h1 h2 => ?_, fun j k a b g h1 h2 h3 h4 => ?_⟩
  · by_cases e : i = j
    · subst e
      rw [List.getElem?_set_self (by rw [h.ln]; exact hil)] at h1
      rw [List.getElem?_set_self (by rw [h.vl]; exact hil)] at h2
      cases h1
      cases h2
      rw [List.length_append, ints_snoc]
      exact owns_keep hnew fun g e => other_set fun e2 => own_fx hnew hfx (by decide) (e2 ▸ e)
    · rw [List.getElem?_set_ne e] at h1 h2
      have ho := h.own j m u h1 h2
      refine owns_keep ho fun g hgu => ?_
      rw [other_set fun (e2 : g = hb) => own_fx ho h.fx (by decide) (e2 ▸ hgu)]
      exact hold g (owns_lt ho hgu) fun e2 => e (h.apart i j v u g hv h2 e2 hgu)
  · have key : ∀ (j : Nat) (u : Value) (q : Nat), j ≠ i → vs[j]? = some u → u.ownBlock = some q → q ≠ g4 := by
      intro j u q hj hu hq e
      subst e
      have hm : j < H.length := by rw [h.ln, ← h.vl]; exact (List.getElem?_eq_some_iff.1 hu).1
      have ho := h.own j _ u (List.getElem?_eq_getElem hm) hu
      rcases hg with hg | hg
      · exact hj (h.apart i j v u _ hv hu hg hq).symm
      · have := owns_lt ho hq; omega
    by_cases ej : i = j
    · by_cases ek : i = k
      · omega
      · subst ej
        rw [List.getElem?_set_self (by rw [h.vl]; exact hil)] at h1
        rw [List.getElem?_set_ne ek] at h2
        cases h1
        have : g4 = g := by simpa [Value.ownBlock] using h3
        exact absurd this.symm (key k b g (Ne.symm ek) h2 h4)
    · rw [List.getElem?_set_ne ej] at h1
      by_cases ek : i = k
      · subst ek
        rw [List.getElem?_set_self (by rw [h.vl]; exact hil)] at h2
        cases h2
        have : g4 = g := by simpa [Value.ownBlock] using h4
        exact absurd this.symm (key j a g (Ne.symm ej) h1 h3)
      · rw [List.getElem?_set_ne ek] at h2
        exact h.apart j k a b g h1 h2 h3 h4
end
end Go.Proofs.Ytdmnoeooljofcaa.Cz
