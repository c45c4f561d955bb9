/- What lies behind the merge's rotation. No Go in sight. -/
import Derived.Test.YthpbadnedhjncaaDoorSortPlain
namespace Go.Proofs.YthpbadnedhjncaaDoor

structure CutFacts (r f' : Nat → Nat) (a b mid s e : Nat) : Prop where
  s1 : Srt r f' a s
  s2 : Srt r f' s mid
  l1 : ∀ i j, a ≤ i → i < s → s ≤ j → j < mid → f' i < f' j
  s3 : Srt r f' mid e
  s4 : Srt r f' e b
  l2 : ∀ i j, mid ≤ i → i < e → e ≤ j → j < b → f' i < f' j

theorem cut_facts {r f : Nat → Nat} {a m b mid s : Nat} (c : Cutt r f a m b mid s) (hs1 : Srt r f a m) (hs2 : Srt r f m b)
    (hl : ∀ i j, a ≤ i → i < m → m ≤ j → j < b → f i < f j) : CutFacts r (rot f s m (m + mid - s)) a b mid s (m + mid - s) := by
  obtain ⟨e1, e2, e3, e4⟩ := cut_halves c hs1 hs2 hl
  obtain ⟨h1, h2, h3, h4, h5, lo, hi⟩ := c
  refine ⟨fun i j a1 a2 a3 => ?_, fun i j a1 a2 a3 => ?_, fun i j a1 a2 a3 a4 => ?_, fun i j a1 a2 a3 => ?_, fun i j a1 a2 a3 => ?_, fun i j a1 a2 a3 a4 => ?_⟩
  · rw [e1 i a1 (by omega), e1 j (by omega) a3]; exact hs1 i j a1 a2 (by omega)
  · rw [e2 i a1 (by omega), e2 j (by omega) a3]; exact hs2 _ _ (by omega) (by omega) (by omega)
  · rw [e1 i a1 a2, e2 j a3 a4]; exact hl _ _ a1 (by omega) (by omega) (by omega)
  · rw [e3 i a1 (by omega), e3 j (by omega) a3]; exact hs1 _ _ (by omega) (by omega) (by omega)
  · rw [e4 i a1, e4 j (by omega)]; exact hs2 _ _ (by omega) a2 a3
  · rw [e3 i a1 a2, e4 j a3]; exact hl _ _ (by omega) (by omega) (by omega) a4

/-- The facts of the right half, after the left half was merged. -/
theorem CutFacts.right {r f' g : Nat → Nat} {a b mid s e : Nat} (h : CutFacts r f' a b mid s e) (hme : mid ≤ e) (hg : SameOn f' g a mid) :
    Srt r g mid e ∧ Srt r g e b ∧ (∀ i j, mid ≤ i → i < e → e ≤ j → j < b → g i < g j) := by
  refine ⟨h.s3.congr fun i a1 a2 => hg.2.2 i (Or.inr a1), h.s4.congr fun i a1 a2 => hg.2.2 i (Or.inr (by omega)), fun i j a1 a2 a3 a4 => ?_⟩
  rw [hg.2.2 i (Or.inr a1), hg.2.2 j (Or.inr (by omega))]
  exact h.l2 i j a1 a2 a3 a4

end Go.Proofs.YthpbadnedhjncaaDoor
