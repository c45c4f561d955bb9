import Derived.Test.YtbpphlmakmeoaaaGreatDoorScanAll
namespace Go.Proofs.YtbpphlmakmeoaaaGreatDoor
theorem E2 (k n : Nat) (l : List UInt8) : (fin k n l).2.2.2 ≤ l.length := by
 unfold fin
 split
 · exact Nat.zero_le _
 · split
   · next h =>
     show n ≤ l.length
     apply Classical.byContradiction
     intro hn
     rw [ls (by omega)] at h
     exact absurd h (by decide)
   · exact Nat.zero_le _
theorem J4 (l : List UInt8) : (one l).2.2.2 ≤ l.length := by
 unfold one
 repeat' split
 all_goals first | exact E2 _ _ _ | exact Nat.zero_le _
theorem K7 (M : Nat) : ∀ (n : Nat) (l : List UInt8), l.length ≤ n → ∀ (i : Nat) (tk : List fw) (rm : List (List UInt8)), i + l.length ≤ M → (∀ t ∈ tk, t.text.length ≤ M ∧ t.place ≤ M) → tk.length ≤ i →
    (W l i tk rm).tk.length ≤ M ∧ (∀ t ∈ (W l i tk rm).tk, t.text.length ≤ M ∧ t.place ≤ M) ∧ (W l i tk rm).place ≤ M := by
 intro n
 induction n with
 | zero => intro l hl i tk rm hi ht hc; have : l = [] := List.eq_nil_of_length_eq_zero (by omega); subst this; rw [sC]; exact ⟨by simp at hi ⊢; omega, ht, by simpa using hi⟩
 | succ n ih =>
  intro l hl i tk rm hi ht hc
  cases l with
  | nil => rw [sC]; exact ⟨by simp at hi ⊢; omega, ht, by simpa using hi⟩
  | cons c r =>
   have hr : r.length ≤ n := by simpa using hl
   simp only [List.length_cons] at hi
   by_cases hb : gP c = true
   · rw [jZ c r i tk rm hb]
     exact ih r hr (i + 1) tk rm (by omega) ht (by omega)
   · have hb' : gP c = false := by simpa using hb
     by_cases h8 : eP c = 8
     · rw [mW c r i tk rm h8]
       have hs := iH gX r
       exact ih (r.drop (fa gX r)) (by simp; omega) (i + 1 + fa gX r) tk (rm ++ [r.take (fa gX r)]) (by simp; omega) ht (by omega)
     · by_cases he : (one (c :: r)).2.2.1 = 0
       · have Aa := nN (l := c :: r) (by simp) he
         simp only [List.length_cons] at Aa
         rw [mN c r i tk rm hb' h8 he]
         refine ih ((c :: r).drop (one (c :: r)).2.1) (by simp only [List.length_drop, List.length_cons]; omega) (i + (one (c :: r)).2.1) (tk ++ [jH (one (c :: r)).1 (one (c :: r)).2.1 (c :: r) i]) rm (by simp only [List.length_drop, List.length_cons]; omega) ?_ (by simp; omega)
         intro t hm
         rcases List.mem_append.1 hm with h1 | h1
         · exact ht t h1
         · simp only [List.mem_singleton] at h1
           subst h1
           refine ⟨?_, by show i ≤ M; omega⟩
           show (if (one (c :: r)).1 = 5 then _ else _ : List UInt8).length ≤ M
           split
           · simp; omega
           · simp; omega
       · rw [lf c r i tk rm hb' h8 he]
         have := J4 (c :: r)
         simp only [List.length_cons] at this
         exact ⟨Nat.zero_le _, fun t h => by simp at h, by show i + _ ≤ M; omega⟩
theorem sO (s : List UInt8) : (gz s).tk.length ≤ 65536 ∧ (∀ t ∈ (gz s).tk, t.text.length ≤ 65536 ∧ t.place ≤ s.length) ∧ (gz s).place ≤ s.length := by
 unfold gz
 split
 · exact ⟨Nat.zero_le _, fun t h => by simp at h, Nat.zero_le _⟩
 · next hl =>
   have := K7 s.length s.length s (Nat.le_refl _) 0 [] [] (by omega) (fun t h => by simp at h) (Nat.zero_le _)
   unfold jb
   exact ⟨by omega, fun t h => ⟨by have := (this.2.1 t h).1; omega, (this.2.1 t h).2⟩, this.2.2⟩
end Go.Proofs.YtbpphlmakmeoaaaGreatDoor
