/- The document's May, Check, Compare, Clamp and Sum: what they answer. -/
import Derived.Test.YthpbadnedhjncabGreatDoorInts
namespace Go.Proofs.YthpbadnedhjncabGreatDoor
open Go.RowKit

/-- May an amount be? -/
def may (m : Int) : Bool := decide (-1000000000000000 ≤ m ∧ m ≤ 1000000000000000)

theorem may_yes {m : Int} (h : may m = true) : -1000000000000000 ≤ m ∧ m ≤ 1000000000000000 := of_decide_eq_true h
theorem may_no {m : Int} (h : may m = false) : m < -1000000000000000 ∨ 1000000000000000 < m := by have := of_decide_eq_false h; omega
theorem may_mk {m : Int} (h : -1000000000000000 ≤ m ∧ m ≤ 1000000000000000) : may m = true := decide_eq_true h
theorem may_not {m : Int} (h : m < -1000000000000000 ∨ 1000000000000000 < m) : may m = false := decide_eq_false (by omega)

/-- An amount and an error. -/
def pairV (r : Int × Int) : Value := .tuple #[.int .i64 r.1, .int .i64 r.2]

theorem ret_pair {x e : Int} {r : Int × Int} (h : r = (x, e)) : Ending.returned (.tuple #[.int .i64 x, .int .i64 e]) = .returned (pairV r) := by rw [h]; rfl

/-- P2.2: the exact sum. -/
def sumM (l : List Int) : Int × Int := if (∀ z ∈ l, may z = true) ∧ may l.sum = true then (l.sum, 0) else (0, 22)

theorem sumM_bad {l : List Int} {c : Int} (hc : c ∈ l) (h : may c = false) : sumM l = (0, 22) := by
  unfold sumM; rw [if_neg (fun hh => by rw [hh.1 c hc] at h; cases h)]

theorem sumM_over {l : List Int} (h : may l.sum = false) : sumM l = (0, 22) := by
  unfold sumM; rw [if_neg (fun hh => by rw [hh.2] at h; cases h)]

theorem sumM_ok {l : List Int} (h0 : ∀ z ∈ l, may z = true) (h : may l.sum = true) : sumM l = (l.sum, 0) := by
  unfold sumM; rw [if_pos ⟨h0, h⟩]

theorem tdiv_parts (c B : Int) (h : -B ≤ c ∧ c ≤ B) : ∃ p q : Int, c.tdiv 1000000000 = p ∧ c.tmod 1000000000 = q ∧ p * 1000000000 + q = c ∧ -(B / 1000000000) ≤ p ∧ p ≤ B / 1000000000 ∧ -999999999 ≤ q ∧ q ≤ 999999999 := by
  rcases Int.le_total 0 c with hc | hc
  · have e1 : c.tdiv 1000000000 = c / 1000000000 := Int.tdiv_eq_ediv_of_nonneg hc
    have e2 : c.tmod 1000000000 = c % 1000000000 := Int.tmod_eq_emod_of_nonneg hc
    exact ⟨_, _, e1, e2, by omega, by omega, by omega, by omega, by omega⟩
  · have e1 : c.tdiv 1000000000 = -((-c) / 1000000000) := by
      have h1 : (-(-c)).tdiv 1000000000 = -((-c).tdiv 1000000000) := Int.neg_tdiv _ _
      rwa [Int.neg_neg, Int.tdiv_eq_ediv_of_nonneg (a := -c) (by omega)] at h1
    have e2 : c.tmod 1000000000 = -((-c) % 1000000000) := by
      have h1 : (-(-c)).tmod 1000000000 = -((-c).tmod 1000000000) := Int.neg_tmod _ _
      rwa [Int.neg_neg, Int.tmod_eq_emod_of_nonneg (a := -c) (by omega)] at h1
    exact ⟨_, _, e1, e2, by omega, by omega, by omega, by omega, by omega⟩

theorem sum_take_snoc {zs : List Int} {k : Nat} {c : Int} (h : zs.take (k + 1) = zs.take k ++ [c]) : (zs.take (k + 1)).sum = (zs.take k).sum + c := by
  rw [h, List.sum_append]; simp

end Go.Proofs.YthpbadnedhjncabGreatDoor
