/- The law's both: two rising lists, merged. -/
import Derived.Test.YtanonjggegibkaaCone
namespace Go.Proofs.Ytanonjggegibkaa
open Go.RowKit

def mrg : List Int → List Int → List Int
  | [], b => b
  | x :: a, [] => x :: a
  | x :: a, y :: b => if x < y then x :: mrg a (y :: b) else if y < x then y :: mrg (x :: a) b else x :: mrg a b
termination_by a b => a.length + b.length
theorem mrg_nil {a : List Int} : mrg a [] = a := by cases a <;> simp [mrg]
theorem mrg_nil2 {b : List Int} : mrg [] b = b := by simp [mrg]
theorem mrg_lt {x y : Int} {a b : List Int} (h : x < y) : mrg (x :: a) (y :: b) = x :: mrg a (y :: b) := by rw [mrg, if_pos h]
theorem mrg_gt {x y : Int} {a b : List Int} (h : y < x) : mrg (x :: a) (y :: b) = y :: mrg (x :: a) b := by rw [mrg, if_neg (by omega), if_pos h]
theorem mrg_eq {x : Int} {a b : List Int} : mrg (x :: a) (x :: b) = x :: mrg a b := by rw [mrg, if_neg (by omega), if_neg (by omega)]
theorem mrg_mem {z : Int} : ∀ {a b : List Int}, z ∈ mrg a b ↔ z ∈ a ∨ z ∈ b
  | [], b => by simp [mrg]
  | x :: a, [] => by simp [mrg]
  | x :: a, y :: b => by
    by_cases h : x < y
    · rw [mrg_lt h]
      simp only [List.mem_cons, mrg_mem (a := a) (b := y :: b), or_assoc]
    · by_cases h2 : y < x
      · rw [mrg_gt h2]
        simp only [List.mem_cons, mrg_mem (a := x :: a) (b := b)]
        constructor
        · rintro (h | (h | h) | h)
          · exact .inr (.inl h)
          · exact .inl (.inl h)
          · exact .inl (.inr h)
          · exact .inr (.inr h)
        · rintro ((h | h) | h | h)
          · exact .inr (.inl (.inl h))
          · exact .inr (.inl (.inr h))
          · exact .inl h
          · exact .inr (.inr h)
      · have e : y = x := by omega
        subst e
        rw [mrg_eq]
        simp only [List.mem_cons, mrg_mem (a := a) (b := b)]
        constructor
        · rintro (h | h | h)
          · exact .inl (.inl h)
          · exact .inl (.inr h)
          · exact .inr (.inr h)
        · rintro ((h | h) | h | h)
          · exact .inl h
          · exact .inr (.inl h)
          · exact .inl h
          · exact .inr (.inr h)
termination_by a b => a.length + b.length
theorem mrg_rise : ∀ {a b : List Int}, a.Pairwise (· < ·) → b.Pairwise (· < ·) → (mrg a b).Pairwise (· < ·)
  | [], b, _, hb => by rw [mrg_nil2]; exact hb
  | x :: a, [], ha, _ => by rw [mrg_nil]; exact ha
  | x :: a, y :: b, ha, hb => by
    have a1 := List.pairwise_cons.1 ha
    have b1 := List.pairwise_cons.1 hb
    by_cases h : x < y
    · rw [mrg_lt h]
      refine List.pairwise_cons.2 ⟨fun z hz => ?_, mrg_rise a1.2 hb⟩
      rcases mrg_mem.1 hz with h1 | h1
      · exact a1.1 z h1
      · rcases List.mem_cons.1 h1 with rfl | h1
        · exact h
        · have := b1.1 z h1; omega
    · by_cases h2 : y < x
      · rw [mrg_gt h2]
        refine List.pairwise_cons.2 ⟨fun z hz => ?_, mrg_rise ha b1.2⟩
        rcases mrg_mem.1 hz with h1 | h1
        · rcases List.mem_cons.1 h1 with rfl | h1
          · exact h2
          · have := a1.1 z h1; omega
        · exact b1.1 z h1
      · have e : y = x := by omega
        subst e
        rw [mrg_eq]
        refine List.pairwise_cons.2 ⟨fun z hz => ?_, mrg_rise a1.2 b1.2⟩
        rcases mrg_mem.1 hz with h1 | h1
        · exact a1.1 z h1
        · exact b1.1 z h1
termination_by a b => a.length + b.length
/-- Rising lists with the same members are one. -/
theorem rise_ext : ∀ {a b : List Int}, a.Pairwise (· < ·) → b.Pairwise (· < ·) → (∀ z, z ∈ a ↔ z ∈ b) → a = b
  | [], [], _, _, _ => rfl
  | [], y :: b, _, _, h => by have := (h y).2 (by simp); cases this
  | x :: a, [], _, _, h => by have := (h x).1 (by simp); cases this
  | x :: a, y :: b, ha, hb, h => by
    have a1 := List.pairwise_cons.1 ha
    have b1 := List.pairwise_cons.1 hb
    have e : x = y := by
      rcases List.mem_cons.1 ((h x).1 (by simp)) with e | e
      · exact e
      · rcases List.mem_cons.1 ((h y).2 (by simp)) with e2 | e2
        · exact e2.symm
        · have := b1.1 x e; have := a1.1 y e2; omega
    subst e
    rw [rise_ext a1.2 b1.2 fun z => ⟨fun hz => ?_, fun hz => ?_⟩]
    · rcases List.mem_cons.1 ((h z).1 (List.mem_cons_of_mem _ hz)) with e | e
      · have := a1.1 z hz; omega
      · exact e
    · rcases List.mem_cons.1 ((h z).2 (List.mem_cons_of_mem _ hz)) with e | e
      · have := b1.1 z hz; omega
      · exact e
theorem placesK_rise {R : List Bool} {k : Nat} : (placesK R k).Pairwise (· < ·) := by
  unfold placesK
  rw [List.pairwise_map]
  refine List.Pairwise.imp (R := (· < ·)) (fun {a b} h => by show (a : Int) < (b : Int); omega) ?_
  exact List.Pairwise.filter _ List.pairwise_lt_range
theorem placesM_mem {R : List Bool} {z : Int} : z ∈ placesM R ↔ 0 ≤ z ∧ hit R z = true := by
  unfold placesM placesK
  rw [List.mem_map]
  constructor
  · rintro ⟨i, hi, rfl⟩
    have := List.mem_filter.1 hi
    exact ⟨Int.natCast_nonneg i, by simpa using this.2⟩
  · rintro ⟨h0, h⟩
    refine ⟨z.toNat, List.mem_filter.2 ⟨List.mem_range.2 ?_, h⟩, Int.toNat_of_nonneg h0⟩
    apply Classical.byContradiction
    intro hn
    unfold hit at h
    rw [List.getD_eq_getElem?_getD, List.getElem?_eq_none (by omega)] at h
    cases h
/-- Places of the same. -/
theorem places_ext {R S : List Bool} (h : ∀ z, 0 ≤ z → (hit R z = true ↔ hit S z = true)) : placesM R = placesM S := rise_ext placesK_rise placesK_rise fun z => by
  rw [placesM_mem, placesM_mem]
  exact ⟨fun ⟨a, b⟩ => ⟨a, (h z a).1 b⟩, fun ⟨a, b⟩ => ⟨a, (h z a).2 b⟩⟩
/-- A cone is its own. -/
theorem rch_own {T : Th} {a p : List Int} (hp : ∀ z, z ∈ p ↔ Rch T a z) {y : Int} : Rch T p y ↔ Rch T a y := by
  constructor
  · intro h
    induction h with
    | base e => exact (hp _).1 e
    | step _ e ih => exact .step ih e
  · intro h
    exact .base ((hp y).2 h)
/-- Of two lists together it is both. -/
theorem rch_both {T : Th} {a b : List Int} {y : Int} : Rch T (a ++ b) y ↔ Rch T a y ∨ Rch T b y := by
  constructor
  · intro h
    induction h with
    | base e =>
      rcases List.mem_append.1 e with e | e
      · exact .inl (.base e)
      · exact .inr (.base e)
    | step _ e ih =>
      rcases ih with h | h
      · exact .inl (.step h e)
      · exact .inr (.step h e)
  · rintro (h | h)
    · induction h with
      | base e => exact .base (List.mem_append_left _ e)
      | step _ e ih => exact .step ih e
    · induction h with
      | base e => exact .base (List.mem_append_right _ e)
      | step _ e ih => exact .step ih e
end Go.Proofs.Ytanonjggegibkaa
