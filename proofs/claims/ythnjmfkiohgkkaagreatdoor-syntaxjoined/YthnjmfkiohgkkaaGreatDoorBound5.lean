/- How many tokens there are, how long they are, where they stand. -/
import Derived.Test.YthnjmfkiohgkkaaGreatDoorTokens
namespace Go.Proofs.YthnjmfkiohgkkaaGreatDoor

theorem fin_at (k n : Nat) (l : List UInt8) : (fin k n l).2.2.2 ≤ l.length := by
  unfold fin
  split
  · exact Nat.zero_le _
  · split
    · next h =>
      show n ≤ l.length
      apply Classical.byContradiction
      intro hn
      rw [getD_ge (by omega)] at h
      exact absurd h (by decide)
    · exact Nat.zero_le _
theorem one_at (l : List UInt8) : (one l).2.2.2 ≤ l.length := by
  unfold one
  repeat' split
  all_goals first | exact fin_at _ _ _ | exact Nat.zero_le _

theorem W_all (M : Nat) : ∀ (n : Nat) (l : List UInt8), l.length ≤ n → ∀ (i : Nat) (tk : List Tok) (rm : List (List UInt8)), i + l.length ≤ M → (∀ t ∈ tk, t.text.length ≤ M ∧ t.place ≤ M) → tk.length ≤ i →
    (W l i tk rm).tk.length ≤ M ∧ (∀ t ∈ (W l i tk rm).tk, t.text.length ≤ M ∧ t.place ≤ M) ∧ (W l i tk rm).place ≤ M := by
  intro n
  induction n with
  | zero => intro l hl i tk rm hi ht hc; have : l = [] := List.eq_nil_of_length_eq_zero (by omega); subst this; rw [W_nil]; exact ⟨by simp at hi ⊢; omega, ht, by simpa using hi⟩
  | succ n ih =>
    intro l hl i tk rm hi ht hc
    cases l with
    | nil => rw [W_nil]; exact ⟨by simp at hi ⊢; omega, ht, by simpa using hi⟩
    | cons c r =>
      have hr : r.length ≤ n := by simpa using hl
      simp only [List.length_cons] at hi
      by_cases hb : blankB c = true
      · rw [W_blank c r i tk rm hb]
        exact ih r hr (i + 1) tk rm (by omega) ht (by omega)
      · have hb' : blankB c = false := by simpa using hb
        by_cases h8 : clsB c = 8
        · rw [W_remark c r i tk rm h8]
          have hs := span_le noEnd r
          exact ih (r.drop (span noEnd r)) (by simp; omega) (i + 1 + span noEnd r) tk (rm ++ [r.take (span noEnd r)]) (by simp; omega) ht (by omega)
        · by_cases he : (one (c :: r)).2.2.1 = 0
          · have hol := one_len (l := c :: r) (by simp) he
            simp only [List.length_cons] at hol
            rw [W_tok c r i tk rm hb' h8 he]
            refine ih ((c :: r).drop (one (c :: r)).2.1) (by simp only [List.length_drop, List.length_cons]; omega) (i + (one (c :: r)).2.1) (tk ++ [tokOf (one (c :: r)).1 (one (c :: r)).2.1 (c :: r) i]) rm (by simp only [List.length_drop, List.length_cons]; omega) ?_ (by simp; omega)
            intro t hm
            rcases List.mem_append.1 hm with h1 | h1
            · exact ht t h1
            · simp only [List.mem_singleton] at h1
              subst h1
              refine ⟨?_, by show i ≤ M; omega⟩
              show (if (one (c :: r)).1 = 5 then _ else _ : List UInt8).length ≤ M
              split
              · simp; omega
              · simp; omega
          · rw [W_err c r i tk rm hb' h8 he]
            have := one_at (c :: r)
            simp only [List.length_cons] at this
            exact ⟨Nat.zero_le _, fun t h => by simp at h, by show i + _ ≤ M; omega⟩

theorem lexT_all (s : List UInt8) : (lexT s).tk.length ≤ 65536 ∧ (∀ t ∈ (lexT s).tk, t.text.length ≤ 65536 ∧ t.place ≤ s.length) ∧ (lexT s).place ≤ s.length := by
  unfold lexT
  split
  · exact ⟨Nat.zero_le _, fun t h => by simp at h, Nat.zero_le _⟩
  · next hl =>
    have := W_all s.length s.length s (Nat.le_refl _) 0 [] [] (by omega) (fun t h => by simp at h) (Nat.zero_le _)
    unfold lexR
    exact ⟨by omega, fun t h => ⟨by have := (this.2.1 t h).1; omega, (this.2.1 t h).2⟩, this.2.2⟩
end Go.Proofs.YthnjmfkiohgkkaaGreatDoor
