/- The reader: rules, beats. -/
import Derived.Test.YtdmnoeooljofcaaRdf
namespace Go.Proofs.Ytdmnoeooljofcaa
open Go.RowKit

/-- A row of things that grows; its things' own lists lie beside it; all from B on. -/
structure Gy {α : Type} (T k : Nat) (c : (Nat → Prop) → World → α → List Value → Prop) (B : Nat) (l : List α) (n : Nat) (mv : Value) (wr : World) : Prop where
  len : l.length = n
  body : ∃ (Z : Nat → Prop) (xs : List Value), wr.ownsRow B T k mv n xs ∧ (∀ g, Z g → B ≤ g ∧ g < wr.heap.size ∧ mv.ownBlock ≠ some g) ∧ ∀ i x, l[i]? = some x → c Z wr x ((xs.drop (i * k)).take k)
theorem Gy.nil {α : Type} {T k B : Nat} {c : (Nat → Prop) → World → α → List Value → Prop} {w : World} : Gy T k c B ([] : List α) 0 (.slice none 0 0) w :=
  ⟨rfl, fun _ => False, [], ⟨by simp, .inl ⟨rfl, rfl⟩⟩, fun _ h => h.elim, fun i x hi => by simp at hi⟩
theorem Gy.call {α : Type} {T k R B n : Nat} {c : (Nat → Prop) → World → α → List Value → Prop} {l : List α} {mv : Value} {wr wd : World} (hc : ∀ Z Z' w w' x xs, Ag Z Z' w w' → c Z w x xs → c Z' w' x xs) (h : Gy T k c B l n mv wr) (hb : Fr (fun k => k = R) wr wd) (hR : R < B) : Gy T k c B l n mv wd := by
  obtain ⟨h1, Z, xs, h2, h3, h4⟩ := h
  exact ⟨h1, Z, xs, owns_keep h2 fun g hg => hb.block g (h2.lt g hg).2 (by have := (h2.lt g hg).1; omega), fun g hg => ⟨(h3 g hg).1, Nat.lt_of_lt_of_le (h3 g hg).2.1 hb.size, (h3 g hg).2.2⟩, fun i x hi => hc _ _ _ _ _ _ (fun g hg => ⟨hg, hb.block g (h3 g hg).2.1 (by have := (h3 g hg).1; omega)⟩) (h4 i x hi)⟩
theorem Gy.grow {α : Type} {T k R B : Nat} {c : (Nat → Prop) → World → α → List Value → Prop} {l : List α} {n : Nat} {mv : Value} {wr wd w4 : World} {Z : Nat → Prop} {xs ys : List Value} {x : α} {ob : Obj} {g4 cap4 : Nat}
    (hc : ∀ Z Z' w w' x xs, Ag Z Z' w w' → c Z w x xs → c Z' w' x xs) (hR : R < B) (hBr : B ≤ wr.heap.size) (hlen : l.length = n) (hrow : wr.ownsRow B T k mv n xs) (hz : ∀ g, Z g → B ≤ g ∧ g < wr.heap.size ∧ mv.ownBlock ≠ some g) (hold : ∀ i x, l[i]? = some x → c Z wr x ((xs.drop (i * k)).take k))
    (hb : Fr (fun k => k = R) wr wd) (hnew : c (Nw wr wd) wd x ys) (hk : ys.length = k) (hown : w4.ownsRow B T k (.slice (some ⟨g4, 0, none⟩) (n + 1) cap4) (n + 1) (xs ++ ys))
    (hg : (mv.ownBlock = some g4 ∧ (wd.alloc ob).grownBy w4 (some g4)) ∨ (g4 = wd.heap.size + 1 ∧ (wd.alloc ob).grownBy w4 none)) : Gy T k c B (l ++ [x]) (n + 1) (.slice (some ⟨g4, 0, none⟩) (n + 1) cap4) w4 := by
  have hs := hb.size
  have hmv : ∀ g, mv.ownBlock = some g → B ≤ g ∧ g < wr.heap.size := fun g e => hrow.lt g e
  have hf : Fr (fun k => B ≤ k) wd w4 := grown_fr rfl hg fun g e => (hmv g e).1
  have hs4 := hf.size
  have hx : xs.length = n * k := hrow.1
  have ag1 : Ag Z (fun g => Z g ∨ Nw wr wd g) wr w4 := fun g hZ => ⟨.inl hZ, by
    obtain ⟨h1, h2, h3⟩ := hz g hZ
    rw [grown_old rfl hg (by omega) h3, hb.block g h2 (by omega)]⟩
  have ag2 : Ag (Nw wr wd) (fun g => Z g ∨ Nw wr wd g) wd w4 := fun g hZ => ⟨.inr hZ, grown_old rfl hg hZ.2 fun e => by have := (hmv g e).2; have := hZ.1; omega⟩
  refine ⟨by simp [hlen], fun g => Z g ∨ Nw wr wd g, xs ++ ys, hown, ?_, ?_⟩
  · intro g hZ
    simp only [Value.ownBlock, ne_eq, Option.some.injEq]
    rcases hZ with hZ | hZ
    · obtain ⟨h1, h2, h3⟩ := hz g hZ
      refine ⟨h1, by omega, fun e => ?_⟩
      rcases hg with ⟨h4, _⟩ | ⟨h4, _⟩
      · exact h3 (by rw [h4, e])
      · omega
    · obtain ⟨h1, h2⟩ := hZ
      refine ⟨by omega, by omega, fun e => ?_⟩
      rcases hg with ⟨h4, _⟩ | ⟨h4, _⟩
      · have := (hmv _ h4).2; omega
      · omega
  · intro i y hi
    by_cases hin : i < n
    · rw [List.getElem?_append_left (by omega)] at hi
      have h1 : (i + 1) * k ≤ n * k := Nat.mul_le_mul_right k hin
      rw [Nat.add_mul] at h1
      rw [List.drop_append_of_le_length (by omega), List.take_append_of_le_length (by simp; omega)]
      exact hc _ _ _ _ _ _ ag1 (hold i y hi)
    · have hil : i = n := by
        have : i < (l ++ [x]).length := by
          apply Classical.byContradiction
          intro hn
          rw [List.getElem?_eq_none (by omega)] at hi
          cases hi
        simp at this
        omega
      subst hil
      rw [List.getElem?_append_right (by omega)] at hi
      simp [hlen] at hi
      subst hi
      rw [← hx, List.drop_left, ← hk, List.take_length]
      exact hc _ _ _ _ _ _ ag2 hnew
theorem Gy.done {α : Type} {T k B n : Nat} {c : (Nat → Prop) → World → α → List Value → Prop} {l : List α} {mv : Value} {wr : World} (hc : ∀ Z Z' w w' x xs, Ag Z Z' w w' → c Z w x xs → c Z' w' x xs) (h : Gy T k c B l n mv wr) (hl : l.length ≤ 140737488351232) : RZ (Fr0 B wr) k (c (Fr0 B wr)) wr l mv := by
  obtain ⟨hlen, Z, xs, hrow, hz, hold⟩ := h
  subst hlen
  exact RZ.of_owns hrow (fun g e => hrow.lt g e) hl fun i x hi => hc _ _ _ _ _ _ (fun g hZ => ⟨⟨(hz g hZ).1, (hz g hZ).2.1⟩, rfl⟩) (hold i x hi)
end Go.Proofs.Ytdmnoeooljofcaa
