/- A sum does not hang on the order; amounts and their opposites come to 0. No Go in sight. -/
import Derived.Test.YthpbadnedhjncabDoorSums
namespace Go.Proofs.YthpbadnedhjncabDoor

theorem sum_set (l : List Int) (i : Nat) (v : Int) (h : i < l.length) : (l.set i v).sum = l.sum - l.getD i 0 + v := by
  induction l generalizing i with
  | nil => simp at h
  | cons a l ih =>
    cases i with
    | zero => simp; omega
    | succ i =>
      have := ih i (by simpa using h)
      simp only [List.set_cons_succ, List.sum_cons, this, List.getD_cons_succ]
      omega

def swapL (l : List Int) (i k : Nat) : List Int := (l.set i (l.getD k 0)).set k (l.getD i 0)

theorem swapL_len (l : List Int) (i k : Nat) : (swapL l i k).length = l.length := by simp [swapL]

theorem swapL_sum (l : List Int) (i k : Nat) (hi : i < l.length) (hk : k < l.length) : (swapL l i k).sum = l.sum := by
  unfold swapL
  rw [sum_set _ _ _ (by simpa using hk), sum_set _ _ _ hi]
  by_cases h : i = k
  · subst h
    simp [List.getD_eq_getElem?_getD, hi]
  · rw [show (l.set i (l.getD k 0)).getD k 0 = l.getD k 0 by simp [List.getD_eq_getElem?_getD, h]]
    omega

theorem swapL_get (l : List Int) (i k j : Nat) (hi : i < l.length) (hk : k < l.length) : (swapL l i k).getD j 0 = if j = k then l.getD i 0 else if j = i then l.getD k 0 else l.getD j 0 := by
  unfold swapL
  simp only [List.getD_eq_getElem?_getD, List.getElem?_set, List.length_set]
  by_cases h1 : k = j
  · subst h1; simp [hk]
  · by_cases h2 : i = j
    · subst h2; simp [h1, Ne.symm h1, hi]
    · simp [h1, h2, Ne.symm h1, Ne.symm h2]

theorem mem_getD {l : List Int} {j : Nat} (h : j < l.length) : l.getD j 0 ∈ l := by
  rw [List.getD_eq_getElem?_getD, List.getElem?_eq_getElem h]
  exact List.getElem_mem h

theorem swapL_mem (l : List Int) (i k : Nat) (hi : i < l.length) (hk : k < l.length) (z : Int) : z ∈ swapL l i k ↔ z ∈ l := by
  constructor
  · intro h
    unfold swapL at h
    rcases List.mem_or_eq_of_mem_set h with h | h
    · rcases List.mem_or_eq_of_mem_set h with h | h
      · exact h
      · rw [h]; exact mem_getD hk
    · rw [h]; exact mem_getD hi
  · intro h
    obtain ⟨j, hj, rfl⟩ := List.mem_iff_getElem.1 h
    have e : l[j] = l.getD j 0 := by simp [hj]
    rw [e]
    have hlen := swapL_len l i k
    by_cases h1 : j = i
    · subst h1
      have := swapL_get l j k k hi hk
      rw [if_pos rfl] at this
      rw [← this]
      exact mem_getD (by omega)
    · by_cases h2 : j = k
      · subst h2
        have := swapL_get l i j i hi hk
        by_cases h3 : i = j
        · exact absurd h3.symm h1
        · rw [if_neg h3, if_pos rfl] at this
          rw [← this]
          exact mem_getD (by omega)
      · have := swapL_get l i k j hi hk
        rw [if_neg h2, if_neg h1] at this
        rw [← this]
        exact mem_getD (by omega)

theorem swapL_sumM (l : List Int) (i k : Nat) (hi : i < l.length) (hk : k < l.length) : sumM (swapL l i k) = sumM l := by
  unfold sumM
  have h : (∀ z ∈ swapL l i k, may z = true) ↔ ∀ z ∈ l, may z = true := by
    constructor
    · intro h z hz; exact h z ((swapL_mem l i k hi hk z).2 hz)
    · intro h z hz; exact h z ((swapL_mem l i k hi hk z).1 hz)
  rw [swapL_sum l i k hi hk]
  by_cases c : (∀ z ∈ l, may z = true) ∧ may l.sum = true
  · rw [if_pos c, if_pos ⟨h.2 c.1, c.2⟩]
  · rw [if_neg c, if_neg (fun g => c ⟨h.1 g.1, g.2⟩)]

def bothL : List Int → List Int
  | [] => []
  | c :: l => c :: (-c) :: bothL l

theorem bothL_snoc (l : List Int) (c : Int) : bothL (l ++ [c]) = bothL l ++ [c, -c] := by
  induction l with
  | nil => rfl
  | cons a l ih => simp [bothL, ih]

theorem bothL_len (l : List Int) : (bothL l).length = 2 * l.length := by
  induction l with
  | nil => rfl
  | cons a l ih => simp [bothL, ih]; omega

theorem bothL_sum (l : List Int) : (bothL l).sum = 0 := by
  induction l with
  | nil => rfl
  | cons a l ih => simp [bothL, ih]; omega

theorem may_neg {m : Int} (h : may m = true) : may (-m) = true := by
  unfold may at h ⊢
  simp only [decide_eq_true_eq] at h ⊢
  omega

theorem bothL_may (l : List Int) (h : ∀ z ∈ l, may z = true) : ∀ z ∈ bothL l, may z = true := by
  induction l with
  | nil => intro z hz; cases hz
  | cons a l ih =>
    intro z hz
    have ha := h a (List.mem_cons_self ..)
    rcases List.mem_cons.1 hz with rfl | hz
    · exact ha
    · rcases List.mem_cons.1 hz with rfl | hz
      · exact may_neg ha
      · exact ih (fun z hz => h z (List.mem_cons_of_mem _ hz)) z hz

theorem bothL_sumM (l : List Int) (h : ∀ z ∈ l, may z = true) : sumM (bothL l) = (0, 0) := by
  rw [sumM_ok (bothL_may l h) (by rw [bothL_sum]; decide), bothL_sum]

end Go.Proofs.YthpbadnedhjncabDoor
