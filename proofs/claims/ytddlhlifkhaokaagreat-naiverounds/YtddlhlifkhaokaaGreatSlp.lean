/- solve, Solve. -/
import Derived.Test.YtddlhlifkhaokaaGreatNvC
namespace Go.Proofs.YtddlhlifkhaokaaGreat.Fa
open Go.RowKit

/-! How many tags there are. -/
def b2n (b : Bool) : Nat := if b then 1 else 0
def cntT (m : List Int) (q : Nat) : Nat := b2n (hs m q 1) + b2n (hs m q 2) + b2n (hs m q 3) + b2n (hs m q 4)
def cntF (m : List Int) : Nat → Nat
  | 0 => 0
  | k + 1 => cntF m k + cntT m k
theorem b2n_le (b : Bool) : b2n b ≤ 1 := by cases b <;> simp [b2n]
theorem b2n_mono {a b : Bool} (h : a = true → b = true) : b2n a ≤ b2n b := by cases a <;> cases b <;> simp_all [b2n]
theorem cntT_le {m : List Int} {q : Nat} : cntT m q ≤ 4 := by
  unfold cntT
  have := b2n_le (hs m q 1)
  have := b2n_le (hs m q 2)
  have := b2n_le (hs m q 3)
  have := b2n_le (hs m q 4)
  omega
theorem cntF_le {m : List Int} : ∀ {k : Nat}, cntF m k ≤ 4 * k
  | 0 => by simp [cntF]
  | k + 1 => by
    have := cntF_le (m := m) (k := k)
    have := cntT_le (m := m) (q := k)
    unfold cntF
    omega
theorem cntT_mono {m m' : List Int} (h : Le m m') {q : Nat} : cntT m q ≤ cntT m' q := by
  unfold cntT
  have h1 := b2n_mono (h q 1 (by omega) tag1)
  have h2 := b2n_mono (h q 2 (by omega) tag2)
  have h3 := b2n_mono (h q 3 (by omega) tag3)
  have h4 := b2n_mono (h q 4 (by omega) tag4)
  omega
theorem cntF_mono {m m' : List Int} (h : Le m m') : ∀ {k : Nat}, cntF m k ≤ cntF m' k
  | 0 => Nat.le_refl _
  | k + 1 => by
    have := cntF_mono h (k := k)
    have := cntT_mono h (q := k)
    unfold cntF
    omega
theorem cntF_lt {m m' : List Int} (h : Le m m') {q : Nat} (hq : cntT m q < cntT m' q) : ∀ {k : Nat}, q < k → cntF m k < cntF m' k
  | 0, hk => by omega
  | k + 1, hk => by
    have h1 := cntT_mono h (q := k)
    unfold cntF
    by_cases e : q = k
    · subst e
      have := cntF_mono h (k := q)
      omega
    · have := cntF_lt h hq (k := k) (by omega)
      omega
theorem b2n_lt {a b : Bool} (h1 : a = false) (h2 : b = true) : b2n a < b2n b := by rw [h1, h2]; decide
theorem cntT_lt {m m' : List Int} (h : Le m m') {q : Nat} {t : Int} (ht : isTag t) (h1 : hs m q t = false) (h2 : hs m' q t = true) : cntT m q < cntT m' q := by
  unfold cntT
  have g1 := b2n_mono (h q 1 (by omega) tag1)
  have g2 := b2n_mono (h q 2 (by omega) tag2)
  have g3 := b2n_mono (h q 3 (by omega) tag3)
  have g4 := b2n_mono (h q 4 (by omega) tag4)
  have g5 := b2n_lt h1 h2
  rcases ht with rfl | rfl | rfl | rfl <;> omega
/-- A round that brings nothing new leaves all as it is. -/
theorem round_fix {T : Th} {F m : List Int} (h : ∀ (q : Nat) (t : Int), q < m.length → isTag t → (!hs m q t && condM T F m t q) = false) : roundM T F m = m := by
  apply List.ext_getElem?
  intro q
  by_cases hq : q < m.length
  · unfold roundM
    rw [List.getElem?_map, List.getElem?_range hq, List.getElem?_eq_getElem hq]
    have e : m.getD q 0 = m[q] := by rw [List.getD_eq_getElem?_getD, List.getElem?_eq_getElem hq]; rfl
    show some (addM T F m q 4 (addM T F m q 3 (addM T F m q 2 (addM T F m q 1 (m.getD q 0))))) = _
    have a : ∀ (t x : Int), isTag t → addM T F m q t x = x := fun t x ht => by unfold addM; rw [h q t hq ht]; rfl
    rw [a 1 _ tag1, a 2 _ tag2, a 3 _ tag3, a 4 _ tag4, e]
  · rw [List.getElem?_eq_none (by rw [round_len]; omega), List.getElem?_eq_none (by omega)]
theorem round_more {T : Th} {F m : List Int} (hb : Bys m) (hne : roundM T F m ≠ m) : cntF m m.length < cntF (roundM T F m) m.length := by
  apply Classical.byContradiction
  intro hn
  apply hne
  refine round_fix fun q t hq ht => ?_
  cases e : (!hs m q t && condM T F m t q) with
  | false => rfl
  | true =>
    exfalso
    simp only [Bool.and_eq_true, Bool.not_eq_true'] at e
    refine hn (cntF_lt (round_le hb) (cntT_lt (round_le hb) ht e.1 ?_) hq)
    rw [hs_round hb (by omega) (by omega) ht, e.2]
    simp
end Go.Proofs.YtddlhlifkhaokaaGreat.Fa
