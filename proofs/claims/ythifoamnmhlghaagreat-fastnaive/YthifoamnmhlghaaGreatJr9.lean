/- A drawn region that appends: what is laid once, what stands ahead of the append, what behind it. -/
import Derived.Test.YthifoamnmhlghaaGreatInj9
import Derived.Test.YthifoamnmhlghaaGreatMem
namespace Go.Proofs.YthifoamnmhlghaaGreat
open Go.RowKit
open Rg

theorem more_ne {L : Nat → Bool} {i j : Nat} (h : more L i j = true) (hj : j ≠ i) : L j = true := by simpa [more, hj] using h
theorem more_of {L : Nat → Bool} {i j : Nat} (h : L j = true) : more L i j = true := by simp [more, h]
theorem more_at {L : Nat → Bool} {i : Nat} : more L i i = true := by simp [more]
theorem more_off {L : Nat → Bool} {i j : Nat} (hj : j ≠ i) : more L i j = L j := by simp [more, hj]
theorem laid_ne {σ : Nat → Value} {d : Option Nat} {v : Value} {s : Nat} (h : d ≠ some s) : laid σ d v s = σ s := if_neg h
theorem laid_eq {σ : Nat → Value} {v : Value} {s : Nat} : laid σ (some s) v s = v := if_pos rfl
theorem does_skip {P : Program} {E : List PanicEntry → World → Prop} {ρ : Operand → Value} {o : Oper} {w w' : World} {R : Value → World → Prop} (h : (execOp ρ o).run P w = .ok .skip w') (hr : R undef w') : Does P E ρ o w R := by
  unfold Does; rw [h]; exact hr
/-- tab: the values that do not hang on the order; base: slots that nobody writes. -/
structure Jr (tab : Nat → Option (Nat × Value)) (base : List (Nat × Value)) (ai : Nat) (A B : (Nat → Bool) → (Nat → Value) → World → Prop) (L : Nat → Bool) (σ : Nat → Value) (W : World) : Prop where
  base : ∀ p ∈ base, σ p.1 = p.2
  vals : ∀ j d v, tab j = some (d, v) → L j = true → σ d = v
  ahead : L ai = false → A L σ W
  behind : L ai = true → B L σ W
section
variable {tab : Nat → Option (Nat × Value)} {base : List (Nat × Value)} {ai : Nat} {A B : (Nat → Bool) → (Nat → Value) → World → Prop} {L : Nat → Bool} {σ : Nat → Value} {W W' : World} {i d : Nat} {v : Value}
/-- An operation whose value does not hang on the order. -/
theorem Jr.pure (h : Jr tab base ai A B L σ W) (hi : tab i = some (d, v)) (hinj : ∀ j d' v', tab j = some (d', v') → d' = d → j = i) (hb : ∀ p ∈ base, p.1 ≠ d) (hia : i ≠ ai) (hA : A L σ W → A (more L i) (laid σ (some d) v) W) (hB : B L σ W → B (more L i) (laid σ (some d) v) W) : Jr tab base ai A B (more L i) (laid σ (some d) v) W := by
  refine ⟨fun p hp => ?_, fun j d' v' hj hL => ?_, fun e => ?_, fun e => ?_⟩
  · rw [laid_ne (by intro e; cases e; exact hb p hp rfl)]
    exact h.base p hp
  · by_cases hd : d' = d
    · subst hd
      have hji := hinj j d' v' hj rfl
      subst hji
      rw [hi] at hj
      cases hj
      exact laid_eq
    · rw [laid_ne (by intro e; cases e; exact hd rfl)]
      refine h.vals j d' v' hj (more_ne hL fun e => ?_)
      subst e
      rw [hi] at hj
      cases hj
      exact hd rfl
  · rw [more_off (Ne.symm hia)] at e
    exact hA (h.ahead e)
  · rw [more_off (Ne.symm hia)] at e
    exact hB (h.behind e)
/-- An operation with a value of its own, that is not among the table's. -/
theorem Jr.other (h : Jr tab base ai A B L σ W) {d : Option Nat} (hi : tab i = none) (hinj : ∀ j d' v', tab j = some (d', v') → d ≠ some d') (hb : ∀ p ∈ base, d ≠ some p.1) (hA : more L i ai = false → A (more L i) (laid σ d v) W') (hB : more L i ai = true → B (more L i) (laid σ d v) W') : Jr tab base ai A B (more L i) (laid σ d v) W' := by
  refine ⟨fun p hp => ?_, fun j d' v' hj hL => ?_, hA, hB⟩
  · rw [laid_ne (hb p hp)]
    exact h.base p hp
  · rw [laid_ne (hinj j d' v' hj)]
    refine h.vals j d' v' hj (more_ne hL fun e => ?_)
    subst e
    rw [hi] at hj
    cases hj
end
end Go.Proofs.YthifoamnmhlghaaGreat
