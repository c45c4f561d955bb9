/- The plain mathematics of Scale: a product by parts, divided digit by digit; roundings. No Go in sight. -/
import Derived.Test.YthpbadnedhjncaaDoorSums
namespace Go.Proofs.YthpbadnedhjncaaDoor

/-- The rest behind k digits. -/
def ldRest (den : Int) (p : Nat → Int) : Nat → Int
  | 0 => 0
  | k + 1 => (ldRest den p k * 1000000000 + p k) % den

def ldQ (den : Int) (p : Nat → Int) (k : Nat) : Int := (ldRest den p k * 1000000000 + p k) / den

theorem ldRest_bd (den : Int) (p : Nat → Int) (h : 1 ≤ den) (k : Nat) : 0 ≤ ldRest den p k ∧ ldRest den p k < den := by
  cases k with
  | zero => exact ⟨by simp [ldRest], by simp [ldRest]; omega⟩
  | succ k => exact ⟨Int.emod_nonneg _ (by omega), Int.emod_lt_of_pos _ (by omega)⟩

theorem ld_eq (den : Int) (p : Nat → Int) (k : Nat) : ldQ den p k * den + ldRest den p (k + 1) = ldRest den p k * 1000000000 + p k := by
  have := Int.mul_ediv_add_emod (ldRest den p k * 1000000000 + p k) den
  unfold ldQ
  rw [Int.mul_comm]
  exact this

/-- Three digits divided: the quotient and the rest. -/
theorem ld_three (den : Int) (p : Nat → Int) (h : 1 ≤ den) :
    ((ldQ den p 0 * 1000000000 + ldQ den p 1) * 1000000000 + ldQ den p 2) = ((p 0 * 1000000000 + p 1) * 1000000000 + p 2) / den ∧ ldRest den p 3 = ((p 0 * 1000000000 + p 1) * 1000000000 + p 2) % den := by
  have e0 := ld_eq den p 0
  have e1 := ld_eq den p 1
  have e2 := ld_eq den p 2
  have z : ldRest den p 0 = 0 := rfl
  have hb := ldRest_bd den p h 3
  generalize ldQ den p 0 = q0 at *
  generalize ldQ den p 1 = q1 at *
  generalize ldQ den p 2 = q2 at *
  generalize ldRest den p 1 = r1 at *
  generalize ldRest den p 2 = r2 at *
  generalize ldRest den p 3 = r3 at *
  rw [z] at e0
  have key : ((p 0 * 1000000000 + p 1) * 1000000000 + p 2) = ((q0 * 1000000000 + q1) * 1000000000 + q2) * den + r3 := by
    have x : ((q0 * 1000000000 + q1) * 1000000000 + q2) * den = (q0 * den) * 1000000000000000000 + (q1 * den) * 1000000000 + q2 * den := by
      rw [Int.add_mul, Int.mul_right_comm, Int.add_mul, Int.mul_right_comm q0]
      generalize q0 * den = a
      generalize q1 * den = b
      omega
    rw [x]
    generalize q0 * den = a at *
    generalize q1 * den = b at *
    generalize q2 * den = c at *
    omega
  have hdm : den ≠ 0 := by omega
  constructor
  · rw [key]
    generalize (q0 * 1000000000 + q1) * 1000000000 + q2 = q
    rw [Int.add_comm, Int.add_mul_ediv_right _ _ hdm, Int.ediv_eq_zero_of_lt hb.1 hb.2]; omega
  · rw [key]
    generalize (q0 * 1000000000 + q1) * 1000000000 + q2 = q
    rw [Int.add_comm, Int.add_mul_emod_self_right, Int.emod_eq_of_lt hb.1 hb.2]

/-- A product by parts. -/
theorem parts_product (a b : Int) (_ha : 0 ≤ a) (_hb : 0 ≤ b) :
    (((a / 1000000000 * b + (a % 1000000000 * b) / 1000000000) / 1000000000 * 1000000000 + (a / 1000000000 * b + (a % 1000000000 * b) / 1000000000) % 1000000000) * 1000000000 + (a % 1000000000 * b) % 1000000000) = a * b := by
  have h : a * b = (a / 1000000000 * b) * 1000000000 + a % 1000000000 * b := by
    have e : a = a / 1000000000 * 1000000000 + a % 1000000000 := by omega
    conv => lhs; rw [e, Int.add_mul, Int.mul_right_comm]
  rw [h]
  generalize a / 1000000000 * b = x
  generalize a % 1000000000 * b = y
  omega

/-- Is the nearest cent downwards raised? -/
def upM (r : Int) (below : Bool) (n rest den : Int) : Bool :=
  if r = 2 then decide (0 < rest)
  else if r = 3 then decide (0 < rest) && below
  else if r = 4 then decide (0 < rest) && !below
  else if r = 5 then decide (den ≤ 2 * rest)
  else if r = 6 then decide (den < 2 * rest) || (decide (2 * rest = den) && decide (n % 2 = 1))
  else false

def tailM (up below : Bool) (n : Int) : Int × Int :=
  let n' := if up then n + 1 else n
  if 1000000000000000 < n' then (0, 22) else (if below then -n' else n', 0)

/-- P2.3. -/
def scaleM (m num den r : Int) : Int × Int :=
  if may m = false then (0, 22)
  else if den < 1 ∨ 1000000000 < den ∨ num < -1000000000 ∨ 1000000000 < num then (0, 4)
  else if r < 1 ∨ 6 < r then (0, 1)
  else
    let below := decide ((m < 0 ∧ 0 < num) ∨ (0 < m ∧ num < 0))
    let n := (m.natAbs : Int) * num.natAbs / den
    let rest := (m.natAbs : Int) * num.natAbs % den
    tailM (upM r below n rest den) below n

end Go.Proofs.YthpbadnedhjncaaDoor
