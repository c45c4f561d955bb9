/- Two texts with a line's end between. -/
import Derived.Test.YtlllgndbcagkgaaPieces
namespace Go.Proofs.Ytlllgndbcagkgaa

theorem cut_shift {l : List UInt8} {i : Nat} {ts : List Tok} {rs : List (List UInt8)} (h : Cut l i ts rs) : ∀ j, ∃ ts', Cut l j ts' rs ∧ Pair ButAt ts ts' := by
  induction h with
  | nil i => intro j; exact ⟨[], .nil j, .nil⟩
  | blank hb _ ih => intro j; obtain ⟨ts', h1, h2⟩ := ih (j + 1); exact ⟨ts', .blank hb h1, h2⟩
  | @remark c r i ts rs h8 _ ih => intro j; obtain ⟨ts', h1, h2⟩ := ih (j + 1 + span noEnd r); exact ⟨ts', .remark h8 h1, h2⟩
  | @tok c r i ts rs hb h8 he _ ih =>
    intro j
    obtain ⟨ts', h1, h2⟩ := ih (j + (one (c :: r)).2.1)
    exact ⟨_, .tok hb h8 he h1, .cons ⟨rfl, rfl⟩ h2⟩

theorem Pair.append {α β : Type} {P : α → β → Prop} {a a' : List α} {b b' : List β} (h : Pair P a b) (h' : Pair P a' b') : Pair P (a ++ a') (b ++ b') := by
  refine ⟨by simp [h.len, h'.len], fun j x y hx hy => ?_⟩
  rcases Nat.lt_or_ge j a.length with hj | hj
  · rw [List.getElem?_append_left hj] at hx
    rw [List.getElem?_append_left (by rw [← h.len]; exact hj)] at hy
    exact h.at' j x y hx hy
  · rw [List.getElem?_append_right hj] at hx
    rw [List.getElem?_append_right (by rw [← h.len]; exact hj), ← h.len] at hy
    exact h'.at' _ x y hx hy

theorem Pair.rfl' (a : List Tok) : Pair ButAt a a := ⟨rfl, fun j x y hx hy => by rw [hx] at hy; simp only [Option.some.injEq] at hy; subst hy; exact ⟨rfl, rfl⟩⟩

theorem lex_two (a b : List UInt8) (hl : a.length + b.length + 1 ≤ 65536) :
    ((lexT a).err = 0 → (lexT b).err = 0 → (lexT (a ++ 10 :: b)).err = 0 ∧ Pair ButAt ((lexT a).tk ++ (lexT b).tk) (lexT (a ++ 10 :: b)).tk ∧ (lexT (a ++ 10 :: b)).rm = (lexT a).rm ++ (lexT b).rm) ∧
    (¬ ((lexT a).err = 0 ∧ (lexT b).err = 0) → (lexT (a ++ 10 :: b)).err ≠ 0) := by
  have ea : lexT a = W a 0 [] [] := by unfold lexT; rw [if_neg (by omega)]; rfl
  have eb : lexT b = W b 0 [] [] := by unfold lexT; rw [if_neg (by omega)]; rfl
  have el : lexT (a ++ 10 :: b) = W (a ++ 10 :: b) 0 [] [] := by unfold lexT; rw [if_neg (by simp; omega)]; rfl
  rw [ea, eb, el]
  rcases W_together b a.length a (Nat.le_refl _) 0 [] [] with ⟨h1, h2, h3, h4⟩ | ⟨tk, rm, h1, h2⟩
  · exact ⟨fun h => absurd h h1, fun _ => by rw [h4]; exact h1⟩
  · have fwd : (W b 0 [] []).err = 0 → (W b (0 + a.length + 1) tk rm).err = 0 ∧ Pair ButAt (tk ++ (W b 0 [] []).tk) (W b (0 + a.length + 1) tk rm).tk ∧ (W b (0 + a.length + 1) tk rm).rm = rm ++ (W b 0 [] []).rm := by
      intro hb
      obtain ⟨ts, rs, g1, g2, g3⟩ := cut_of_W _ _ (Nat.le_refl _) 0 [] [] hb
      obtain ⟨ts', g4, g5⟩ := cut_shift g3 (0 + a.length + 1)
      rw [W_of_cut g4 tk rm, g1, g2]
      exact ⟨rfl, (Pair.rfl' tk).append g5, by simp⟩
    rw [h2, h1]
    refine ⟨fun _ hb => fwd hb, fun hn hz => ?_⟩
    have hbn : ¬ (W b 0 [] []).err = 0 := fun h => hn ⟨rfl, h⟩
    obtain ⟨ts, rs, _, _, g3⟩ := cut_of_W _ _ (Nat.le_refl _) (0 + a.length + 1) tk rm hz
    obtain ⟨ts', g4, _⟩ := cut_shift g3 0
    exact hbn (by rw [W_of_cut g4 [] []])
end Go.Proofs.Ytlllgndbcagkgaa
