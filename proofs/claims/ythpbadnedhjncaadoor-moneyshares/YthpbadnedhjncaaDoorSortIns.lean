/- The insertion sort of places leaves them sorted, stably. No Go in sight. -/
import Derived.Test.YthpbadnedhjncaaDoorStable
namespace Go.Proofs.YthpbadnedhjncaaDoor
open Go.Lib

/-- What the cells bear, as numbers. -/
def fa {k : Nat} (d : Array (Fin (k + 1))) : Nat → Nat := fun i => (d[i]!).val

theorem fa_swp {k : Nat} (d : Array (Fin (k + 1))) (i j : Nat) (hi : i < d.size) (hj : j < d.size) : fa (Go.Sort.swp d i j) = swp (fa d) i j := by
  funext x
  unfold fa Go.Sort.swp swp
  by_cases hx : x < d.size
  · rw [getElem!_pos _ x (by simpa using hx)]
    rw [Array.getElem_setIfInBounds (by simpa using hx)]
    by_cases e1 : j = x
    · subst e1
      rw [if_pos rfl]
      by_cases e2 : j = i
      · rw [if_pos e2, e2]
      · rw [if_neg e2, if_pos rfl]
    · rw [if_neg e1, Array.getElem_setIfInBounds hx]
      by_cases e2 : i = x
      · subst e2
        rw [if_pos rfl, if_pos rfl]
      · rw [if_neg e2, if_neg (fun h => e2 h.symm), if_neg (fun h => e1 h.symm)]
        show _ = (d[x]!).val
        rw [getElem!_pos d x hx]
  · rw [getElem!_neg _ x (by simpa using hx), if_neg (by omega), if_neg (by omega)]
    show _ = (d[x]!).val
    rw [getElem!_neg d x hx]

theorem size_swp' {k : Nat} (d : Array (Fin (k + 1))) (i j : Nat) : (Go.Sort.swp d i j).size = d.size := by simp [Go.Sort.swp]

theorem lt_iff {k : Nat} (r : Nat → Nat) (x y : Fin (k + 1)) : ltOf (cfP r) x y = decide (r y.val < r x.val) := by
  unfold ltOf cfP cmpM
  refine decide_eq_decide.2 ?_
  split
  · constructor <;> intro <;> omega
  · split
    · constructor <;> intro <;> omega
    · constructor <;> intro <;> omega

theorem insInner_rot {k : Nat} (r f0 : Nat → Nat) (a i : Nat) : ∀ (j : Nat) (d : Array (Fin (k + 1))), j ≤ i → a ≤ j → i < d.size → fa d = rot f0 j i (i + 1) → (∀ m, j ≤ m → m < i → r (f0 m) < r (f0 i)) →
    (Go.Sort.insInner (ltOf (cfP r)) a j d).size = d.size ∧ ∃ j', a ≤ j' ∧ j' ≤ i ∧ fa (Go.Sort.insInner (ltOf (cfP r)) a j d) = rot f0 j' i (i + 1) ∧ (∀ m, j' ≤ m → m < i → r (f0 m) < r (f0 i)) ∧ (j' = a ∨ ¬ r (f0 (j' - 1)) < r (f0 i)) := by
  intro j
  induction j with
  | zero =>
    intro d h1 h2 h3 h4 h5
    rw [Go.Sort.insInner]
    exact ⟨rfl, 0, h2, h1, h4, h5, .inl (by omega)⟩
  | succ j ih =>
    intro d h1 h2 h3 h4 h5
    have v1 : (d[j + 1]!).val = f0 i := by
      have := congrFun h4 (j + 1)
      rw [rot_at1 f0 (Nat.le_refl _) (by omega) h1 (by omega)] at this
      rw [show f0 i = f0 (j + 1 + (i - (j + 1))) by congr 1; omega]
      exact this
    have v2 : (d[j]!).val = f0 j := by
      have := congrFun h4 j
      rw [rot_out f0 (Or.inl (by omega))] at this
      exact this
    rw [Go.Sort.insInner, lt_iff, v1, v2]
    by_cases hc : a < j + 1 ∧ r (f0 j) < r (f0 i)
    · rw [if_pos (by simp; omega)]
      have h6 : fa (Go.Sort.swp d (j + 1) j) = rot f0 j i (i + 1) := by
        rw [fa_swp d _ _ (by omega) (by omega), h4]
        exact rot_back f0 j i h1
      have := ih (Go.Sort.swp d (j + 1) j) (by omega) (by omega) (by rw [size_swp']; exact h3) h6 (fun m m1 m2 => by
        by_cases e : m = j
        · rw [e]; exact hc.2
        · exact h5 m (by omega) m2)
      rw [size_swp'] at this
      exact this
    · rw [if_neg (by simp; omega)]
      refine ⟨rfl, j + 1, h2, h1, h4, h5, ?_⟩
      rw [Nat.add_sub_cancel]
      omega

theorem insOuter_srt {k : Nat} (r f0 : Nat → Nat) (a b : Nat) (hinc : ∀ x y, a ≤ x → x < y → y < b → f0 x < f0 y) : ∀ (n i : Nat) (d : Array (Fin (k + 1))), b - i ≤ n → a < i → b ≤ d.size → SameOn f0 (fa d) a (min i b) → Srt r (fa d) a (min i b) →
    (Go.Sort.insOuter (ltOf (cfP r)) a b i d).size = d.size ∧ SameOn f0 (fa (Go.Sort.insOuter (ltOf (cfP r)) a b i d)) a b ∧ Srt r (fa (Go.Sort.insOuter (ltOf (cfP r)) a b i d)) a b := by
  intro n
  induction n with
  | zero =>
    intro i d h1 h2 h3 h4 h5
    rw [Go.Sort.insOuter, if_neg (by omega)]
    rw [Nat.min_eq_right (by omega)] at h4 h5
    exact ⟨rfl, h4, h5⟩
  | succ n ih =>
    intro i d h1 h2 h3 h4 h5
    by_cases hi : i < b
    · rw [Go.Sort.insOuter, if_pos hi]
      rw [Nat.min_eq_left (by omega)] at h4 h5
      obtain ⟨s1, j', j1, j2, j3, j4, j5⟩ := insInner_rot r (fa d) a i i d (Nat.le_refl _) (by omega) (by omega) (rot_left (fa d) i (i + 1)).symm (fun m m1 m2 => by omega)
      have hl : ∀ j, a ≤ j → j < i → fa d j < fa d i := by
        intro j q1 q2
        obtain ⟨x, x1, x2, e⟩ := h4.1 j q1 q2
        rw [e, h4.2.2 i (Or.inr (Nat.le_refl _))]
        exact hinc x i x1 x2 hi
      obtain ⟨m1, m2⟩ := merge_one_right (r := r) (f := fa d) (a := a) (m := i) (i := j') h5 j1 j2 hl j5 (by
        rcases (show j' = i ∨ j' < i by omega) with h | h
        · exact .inl h
        · exact .inr (j4 j' (Nat.le_refl _) h))
      rw [← j3] at m1 m2
      have := ih (i + 1) (Go.Sort.insInner (ltOf (cfP r)) a i d) (by omega) (by omega) (by rw [s1]; exact h3) (by rw [Nat.min_eq_left (by omega)]; exact (h4.wider (Nat.le_refl _) (by omega)).trans m1) (by rw [Nat.min_eq_left (by omega)]; exact m2)
      rw [s1] at this
      exact this
    · rw [Go.Sort.insOuter, if_neg hi]
      rw [Nat.min_eq_right (by omega)] at h4 h5
      exact ⟨rfl, h4, h5⟩

theorem ins_srt {k : Nat} (r : Nat → Nat) (a b : Nat) (d : Array (Fin (k + 1))) (hab : a ≤ b) (hb : b ≤ d.size) (hinc : ∀ x y, a ≤ x → x < y → y < b → fa d x < fa d y) :
    (Go.Sort.insertionSort (ltOf (cfP r)) d a b).size = d.size ∧ SameOn (fa d) (fa (Go.Sort.insertionSort (ltOf (cfP r)) d a b)) a b ∧ Srt r (fa (Go.Sort.insertionSort (ltOf (cfP r)) d a b)) a b := by
  unfold Go.Sort.insertionSort
  rcases Nat.eq_or_lt_of_le hab with h | h
  · subst h
    rw [Go.Sort.insOuter, if_neg (by omega)]
    exact ⟨rfl, SameOn.refl _ _ _, Srt.one _ _ _ _ (by omega)⟩
  · refine insOuter_srt r (fa d) a b hinc (b - (a + 1)) (a + 1) d (Nat.le_refl _) (by omega) hb ?_ ?_
    · exact SameOn.refl _ _ _
    · exact Srt.one _ _ _ _ (by omega)

#print axioms ins_srt
end Go.Proofs.YthpbadnedhjncaaDoor
