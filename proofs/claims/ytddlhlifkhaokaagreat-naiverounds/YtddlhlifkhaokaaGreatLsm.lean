/- Which round is the last. PLAIN. -/
import Derived.Test.YtddlhlifkhaokaaGreatNvC
namespace Go.Proofs.YtddlhlifkhaokaaGreat

/-- No round ahead of this one brings nothing. -/
def Lst (T : Th) (F : List Int) (i : Nat) : Prop := ∀ j, j < i → roundM T F (Mk T F j) ≠ Mk T F j
theorem Lst.zero {T : Th} {F : List Int} : Lst T F 0 := fun j hj => absurd hj (by omega)
theorem Lst.next {T : Th} {F : List Int} {i : Nat} (h : Lst T F i) (hn : roundM T F (Mk T F i) ≠ Mk T F i) : Lst T F (i + 1) := fun j hj => by
  by_cases e : j = i
  · subst e; exact hn
  · exact h j (by omega)
theorem lst_one {T : Th} {F m m' : List Int} {i i' : Nat} (h : Sol T F m i) (hl : Lst T F i) (h' : Sol T F m' i') (hl' : Lst T F i') : i = i' := by
  have a : ∀ {m : List Int} {k : Nat}, Sol T F m k → roundM T F (Mk T F k) = Mk T F k := fun {m k} ⟨e1, e2⟩ => by
    have : m = Mk T F k := e1
    rw [← this]; exact e2
  rcases Nat.lt_trichotomy i i' with hlt | e | hlt
  · exact absurd (a h) (hl' i hlt)
  · exact e
  · exact absurd (a h') (hl i' hlt)
end Go.Proofs.YtddlhlifkhaokaaGreat
