/- The phases of a stable sort by blocks. No Go in sight. -/
import Derived.Test.YthpbadnedhjncaaDoorSortPlain
namespace Go.Proofs.YthpbadnedhjncaaDoor

structure Ph1 (r f : Nat → Nat) (a N : Nat) : Prop where
  d : 20 ∣ a
  b : ∀ s, s < a → 20 ∣ s → Blk r f s (s + 20)
  i : ∀ i, a ≤ i → i < N → f i = i

theorem Ph1.step {r f g : Nat → Nat} {a N : Nat} (h : Ph1 r f a N) (ha : a + 20 ≤ N) (hg : SameOn f g a (a + 20)) (hs : Srt r g a (a + 20)) : Ph1 r g (a + 20) N := by
  have hd := h.d
  refine ⟨by omega, fun s h1 h2 => ?_, fun i h1 h2 => ?_⟩
  · by_cases e : s < a
    · exact blk_frame (h.b s e h2) hg (by omega)
    · have : s = a := by omega
      subst this
      exact blk_of_id (fun i i1 i2 => h.i i i1 (by omega)) hg hs
  · rw [hg.2.2 i (Or.inr (by omega))]; exact h.i i (by omega) h2

theorem Ph1.done {r f g : Nat → Nat} {a N : Nat} (h : Ph1 r f a N) (haN : a ≤ N) (ha : N < a + 20) (hg : SameOn f g a N) (hs : Srt r g a N) : Blks r g 20 N 0 := by
  have hd := h.d
  intro s _ h1 h2
  by_cases e : s < a
  · rw [Nat.min_eq_left (by omega)]
    exact blk_frame (h.b s e h2) hg (by omega)
  · have : s = a := by omega
    subst this
    rw [Nat.min_eq_right (by omega)]
    exact blk_of_id (fun i i1 i2 => h.i i i1 i2) hg hs

structure Ph2 (r f : Nat → Nat) (z a N : Nat) : Prop where
  d : 2 * z ∣ a
  b : ∀ s, s < a → 2 * z ∣ s → Blk r f s (s + 2 * z)
  i : ∀ s, a ≤ s → s < N → z ∣ s → Blk r f s (min (s + z) N)

theorem Ph2.start {r f : Nat → Nat} {z N : Nat} (h : Blks r f z N 0) : Ph2 r f z 0 N :=
  ⟨⟨0, by simp⟩, fun s h1 _ => absurd h1 (by omega), fun s _ h2 h3 => h s (Nat.zero_le _) h2 h3⟩

theorem dvd_half {z a : Nat} (h : 2 * z ∣ a) : z ∣ a := Nat.dvd_trans ⟨2, by omega⟩ h

/-- Of two multiples one is the other's, or a whole step off. -/
theorem mult_step {z s a : Nat} (hs : z ∣ s) (ha : z ∣ a) (h : s < a) : s + z ≤ a := by
  obtain ⟨x, rfl⟩ := hs
  obtain ⟨y, rfl⟩ := ha
  have : x < y := Nat.lt_of_mul_lt_mul_left h
  calc z * x + z = z * (x + 1) := by rw [Nat.mul_add, Nat.mul_one]
    _ ≤ z * y := Nat.mul_le_mul_left _ this

theorem Ph2.two {r f : Nat → Nat} {z a N : Nat} (h : Ph2 r f z a N) (h1 : a + z < N) (hz : 0 < z) : Blk r f a (a + z) ∧ Blk r f (a + z) (min (a + 2 * z) N) := by
  have x := h.i a (Nat.le_refl _) (by omega) (dvd_half h.d)
  have y := h.i (a + z) (by omega) h1 (Nat.dvd_add (dvd_half h.d) (Nat.dvd_refl z))
  rw [Nat.min_eq_left (by omega)] at x
  rw [show a + z + z = a + 2 * z by omega] at y
  exact ⟨x, y⟩

theorem Ph2.step {r f g : Nat → Nat} {z a N : Nat} (h : Ph2 r f z a N) (hz : 0 < z) (ha : a + 2 * z ≤ N) (hg : SameOn f g a (a + 2 * z)) (hs : Srt r g a (a + 2 * z)) : Ph2 r g z (a + 2 * z) N := by
  obtain ⟨x, y⟩ := h.two (by omega) hz
  rw [Nat.min_eq_left ha] at y
  refine ⟨Nat.dvd_add h.d (Nat.dvd_refl _), fun s h1 h2 => ?_, fun s h1 h2 h3 => blk_frame (h.i s (by omega) h2 h3) hg (Or.inr h1)⟩
  by_cases e : s < a
  · exact blk_frame (h.b s e h2) hg (Or.inl (mult_step h2 h.d e))
  · by_cases e2 : s = a
    · subst e2
      exact blk_merge x y (by omega) (by omega) hg hs
    · have := mult_step h.d h2 (by omega)
      omega

theorem Ph2.done {r f g : Nat → Nat} {z a N : Nat} (h : Ph2 r f z a N) (hz : 0 < z) (h1 : a + z < N) (ha : N < a + 2 * z) (hg : SameOn f g a N) (hs : Srt r g a N) : Blks r g (2 * z) N 0 := by
  obtain ⟨x, y⟩ := h.two h1 hz
  rw [Nat.min_eq_right (by omega)] at y
  intro s _ h3 h2
  by_cases e : s < a
  · have := mult_step h2 h.d e
    rw [Nat.min_eq_left (by omega)]
    exact blk_frame (h.b s e h2) hg (Or.inl this)
  · by_cases e2 : s = a
    · subst e2
      rw [Nat.min_eq_right (by omega)]
      exact blk_merge x y (by omega) (by omega) hg hs
    · have := mult_step h.d h2 (by omega)
      omega

theorem Ph2.done' {r f : Nat → Nat} {z a N : Nat} (h : Ph2 r f z a N) (haN : a ≤ N) (h1 : N ≤ a + z) : Blks r f (2 * z) N 0 := by
  intro s _ h3 h2
  by_cases e : s < a
  · have := mult_step h2 h.d e
    rw [Nat.min_eq_left (by omega)]
    exact h.b s e h2
  · by_cases e2 : s = a
    · subst e2
      have x := h.i s (Nat.le_refl _) h3 (dvd_half h.d)
      rw [Nat.min_eq_right h1] at x
      rw [Nat.min_eq_right (by omega)]
      exact x
    · have := mult_step h.d h2 (by omega)
      omega

end Go.Proofs.YthpbadnedhjncaaDoor
