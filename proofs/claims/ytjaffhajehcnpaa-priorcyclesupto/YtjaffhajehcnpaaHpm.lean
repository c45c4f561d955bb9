/- A heap in a list; no Go in sight. -/
import Derived.KernelRfl
namespace Go.Proofs.Ytjaffhajehcnpaa

/-- Two places exchanged. -/
def swp (l : List Int) (i j : Nat) : List Int := (l.set i (l.getD j 0)).set j (l.getD i 0)
theorem swp_len {l : List Int} {i j : Nat} : (swp l i j).length = l.length := by unfold swp; simp
theorem swp_at {l : List Int} {i j k : Nat} (hi : i < l.length) (hj : j < l.length) : (swp l i j).getD k 0 = if k = j then l.getD i 0 else if k = i then l.getD j 0 else l.getD k 0 := by
  unfold swp
  rw [List.getD_eq_getElem?_getD]
  by_cases e1 : k = j
  · subst e1; rw [if_pos rfl, List.getElem?_set_self (by simpa using hj)]; rfl
  · rw [if_neg e1, List.getElem?_set_ne (fun e => e1 e.symm)]
    by_cases e2 : k = i
    · subst e2; rw [if_pos rfl, List.getElem?_set_self hi]; rfl
    · rw [if_neg e2, List.getElem?_set_ne (fun e => e2 e.symm), List.getD_eq_getElem?_getD]
theorem swp_perm {l : List Int} {i j : Nat} (hi : i < l.length) (hj : j < l.length) : (swp l i j).Perm l := by
  have h := Array.swap_perm (xs := l.toArray) (i := i) (j := j) (by simpa using hi) (by simpa using hj)
  have e : (l.toArray.swap i j (by simpa using hi) (by simpa using hj)).toList = swp l i j := by
    unfold swp
    simp [Array.swap, List.getD, hi, hj]
  have h2 := Array.perm_iff_toList_perm.1 h
  rwa [e] at h2
/-- The first m places are a heap. -/
def Hpl (l : List Int) (m : Nat) : Prop := ∀ i, 0 < i → i < m → l.getD ((i - 1) / 2) 0 ≤ l.getD i 0
theorem hpl_min {l : List Int} {m : Nat} (h : Hpl l m) : ∀ i, i < m → l.getD 0 0 ≤ l.getD i 0 := by
  intro i
  induction i using Nat.strongRecOn with
  | ind i ih =>
    intro hi
    by_cases e : i = 0
    · subst e; exact Int.le_refl _
    · have h1 := h i (by omega) hi
      have h2 := ih ((i - 1) / 2) (by omega) (by omega)
      omega
/-- A heap but for what stands at j, which may be too low. -/
def UpI (l : List Int) (j : Nat) : Prop := j < l.length ∧ (∀ i, 0 < i → i < l.length → i ≠ j → l.getD ((i - 1) / 2) 0 ≤ l.getD i 0) ∧ (0 < j → ∀ c, 0 < c → c < l.length → (c - 1) / 2 = j → l.getD ((j - 1) / 2) 0 ≤ l.getD c 0)
theorem up_start {l : List Int} {x : Int} (h : Hpl l l.length) : UpI (l ++ [x]) l.length := by
  have hg : ∀ i, i < l.length → (l ++ [x]).getD i 0 = l.getD i 0 := fun i hi => by rw [List.getD_eq_getElem?_getD, List.getElem?_append_left hi, List.getD_eq_getElem?_getD]
  refine ⟨by simp, fun i h0 hi hn => ?_, fun h0 c hc0 hc e => ?_⟩
  · simp at hi
    rw [hg i (by omega), hg _ (by omega)]
    exact h i h0 (by omega)
  · simp at hc
    omega
theorem up_done {l : List Int} {j : Nat} (h : UpI l j) (hd : j = 0 ∨ l.getD ((j - 1) / 2) 0 ≤ l.getD j 0) : Hpl l l.length := by
  intro i h0 hi
  by_cases e : i = j
  · subst e
    rcases hd with hd | hd
    · omega
    · exact hd
  · exact h.2.1 i h0 hi e
theorem up_step {l : List Int} {j : Nat} (h : UpI l j) (h0 : 0 < j) (hlt : l.getD j 0 < l.getD ((j - 1) / 2) 0) : UpI (swp l ((j - 1) / 2) j) ((j - 1) / 2) := by
  obtain ⟨hj, h1, h2⟩ := h
  have hp : (j - 1) / 2 < l.length := by omega
  have key := fun k => swp_at (k := k) hp hj
  refine ⟨by rw [swp_len]; exact hp, fun i hi0 hi hn => ?_, fun hp0 c hc0 hc e => ?_⟩
  · rw [swp_len] at hi
    rw [key, key]
    by_cases e1 : i = j
    · subst e1
      rw [if_neg (by omega), if_pos rfl, if_pos rfl]
      omega
    · rw [if_neg e1, if_neg hn]
      by_cases e2 : (i - 1) / 2 = j
      · rw [if_pos e2]
        exact h2 h0 i hi0 hi e2
      · rw [if_neg e2]
        by_cases e3 : (i - 1) / 2 = (j - 1) / 2
        · rw [if_pos e3]
          have := h1 i hi0 hi e1
          rw [e3] at this
          omega
        · rw [if_neg e3]
          exact h1 i hi0 hi e1
  · rw [swp_len] at hc
    rw [key, key]
    have hpp := h1 ((j - 1) / 2) hp0 hp (by omega)
    rw [if_neg (by omega), if_neg (by omega)]
    by_cases e1 : c = j
    · subst e1
      rw [if_pos rfl]
      exact hpp
    · rw [if_neg e1, if_neg (by omega)]
      have := h1 c hc0 hc e1
      rw [e] at this
      omega
/-- The first m are a heap but for what stands at i, which may be too high. -/
def DnI (l : List Int) (i m : Nat) : Prop := m ≤ l.length ∧ (∀ k, 0 < k → k < m → (k - 1) / 2 ≠ i → l.getD ((k - 1) / 2) 0 ≤ l.getD k 0) ∧ (0 < i → ∀ c, 0 < c → c < m → (c - 1) / 2 = i → l.getD ((i - 1) / 2) 0 ≤ l.getD c 0)
theorem dn_start {l : List Int} {m : Nat} (h : Hpl l l.length) (hm : l.length = m + 1) : DnI (swp l 0 m) 0 m := by
  have key := fun k => swp_at (l := l) (i := 0) (j := m) (k := k) (by omega) (by omega)
  refine ⟨by rw [swp_len]; omega, fun k h0 hk hn => ?_, fun h => by omega⟩
  rw [key, key, if_neg (by omega), if_neg hn, if_neg (by omega), if_neg (by omega)]
  exact h k h0 (by omega)
theorem dn_none {l : List Int} {i m : Nat} (h : DnI l i m) (hd : m ≤ 2 * i + 1) : Hpl l m := by
  intro k h0 hk
  exact h.2.1 k h0 hk (by omega)
theorem dn_done {l : List Int} {i j m : Nat} (h : DnI l i m) (hj : ∀ c, c < m → c = 2 * i + 1 ∨ c = 2 * i + 2 → l.getD j 0 ≤ l.getD c 0) (hd : l.getD i 0 ≤ l.getD j 0) : Hpl l m := by
  intro k h0 hk
  by_cases e : (k - 1) / 2 = i
  · have := hj k hk (by omega)
    rw [e]
    omega
  · exact h.2.1 k h0 hk e
theorem dn_step {l : List Int} {i j m : Nat} (h : DnI l i m) (hjm : j < m) (hji : j = 2 * i + 1 ∨ j = 2 * i + 2) (hj : ∀ c, c < m → c = 2 * i + 1 ∨ c = 2 * i + 2 → l.getD j 0 ≤ l.getD c 0) (hd : l.getD j 0 < l.getD i 0) : DnI (swp l i j) j m := by
  obtain ⟨hm, h1, h2⟩ := h
  have key := fun k => swp_at (l := l) (i := i) (j := j) (k := k) (by omega) (by omega)
  refine ⟨by rw [swp_len]; exact hm, fun k h0 hk hn => ?_, fun _ c hc0 hc e => ?_⟩
  · rw [key, key, if_neg hn]
    by_cases e1 : k = j
    · subst e1
      rw [if_pos rfl, if_pos (by omega)]
      omega
    · rw [if_neg e1]
      by_cases e2 : k = i
      · subst e2
        rw [if_pos rfl, if_neg (by omega)]
        exact h2 h0 j (by omega) hjm (by omega)
      · rw [if_neg e2]
        by_cases e3 : (k - 1) / 2 = i
        · rw [if_pos e3]
          exact hj k hk (by omega)
        · rw [if_neg e3]
          exact h1 k h0 hk e3
  · rw [key, key, if_neg (by omega), if_pos (by omega), if_neg (by omega), if_neg (by omega)]
    have := h1 c hc0 hc (by omega)
    rw [e] at this
    exact this
theorem hpl_take {l : List Int} {m : Nat} (h : Hpl l m) (hm : m ≤ l.length) : Hpl (l.take m) (l.take m).length := by
  have hl : (l.take m).length = m := by simp; omega
  have hg : ∀ i, i < m → (l.take m).getD i 0 = l.getD i 0 := fun i hi => by rw [List.getD_eq_getElem?_getD, List.getElem?_take_of_lt hi, List.getD_eq_getElem?_getD]
  intro i h0 hi
  rw [hl] at hi
  rw [hg i hi, hg _ (by omega)]
  exact h i h0 hi
theorem hpl_nil : Hpl [] 0 := fun i _ h => by omega
end Go.Proofs.Ytjaffhajehcnpaa
