/- Days, months, years: plain mathematics, no program in sight. A day's number, which days there are, that each number has just one, and the day behind. -/
import Derived.WalkKit
namespace Go.Proofs.Ytnafhjmeofddoaa

def leapB (y : Int) : Bool := decide (y % 4 = 0) && (!decide (y % 100 = 0) || decide (y % 400 = 0))

theorem leapB_iff (y : Int) : leapB y = true ↔ (y % 4 = 0 ∧ (y % 100 ≠ 0 ∨ y % 400 = 0)) := by simp [leapB]

/-- A month's days. -/
def mlen (y m : Int) : Int := if m = 2 then (if leapB y then 29 else 28) else if m = 4 ∨ m = 6 ∨ m = 9 ∨ m = 11 then 30 else 31

/-- A year's days. -/
def ylen (y : Int) : Int := if leapB y then 366 else 365

/-- The days of all years ahead of one. -/
def aheadY (y : Int) : Int := (y - 1) * 365 + (y - 1) / 4 - (y - 1) / 100 + (y - 1) / 400

/-- The days of the first k months. -/
def before (y : Int) : Nat → Int
  | 0 => 0
  | k + 1 => before y k + mlen y (k + 1 : Nat)

/-- There is such a day. -/
structure Day (y m d : Int) : Prop where
  y1 : 1 ≤ y
  y2 : y ≤ 9999
  m1 : 1 ≤ m
  m2 : m ≤ 12
  d1 : 1 ≤ d
  d2 : d ≤ mlen y m

/-- A day's number. -/
def numOf (y m d : Int) : Int := aheadY y + before y (m - 1).toNat + d

theorem mlen_pos (y m : Int) : 28 ≤ mlen y m ∧ mlen y m ≤ 31 := by
  unfold mlen; split
  · split <;> omega
  · split <;> omega

theorem ylen_pos (y : Int) : 365 ≤ ylen y ∧ ylen y ≤ 366 := by unfold ylen; split <;> omega

theorem before_step (y : Int) (k : Nat) : before y (k + 1) = before y k + mlen y (k + 1 : Nat) := rfl

theorem before_up (y : Int) : ∀ (j k : Nat), j ≤ k → before y j ≤ before y k := by
  intro j k h
  induction k with
  | zero => have : j = 0 := by omega
            subst this; exact Int.le_refl _
  | succ k ih =>
    rcases Nat.lt_or_ge k j with h1 | h1
    · have : j = k + 1 := by omega
      subst this; exact Int.le_refl _
    · have := ih h1
      have := mlen_pos y (k + 1 : Nat)
      rw [before_step]; omega

theorem before_nonneg (y : Int) (k : Nat) : 0 ≤ before y k := before_up y 0 k (Nat.zero_le _)

theorem before_twelve (y : Int) : before y 12 = ylen y := by
  simp only [before, mlen, ylen]
  cases leapB y <;> decide

theorem before_le (y : Int) (k : Nat) (h : k ≤ 12) : before y k ≤ ylen y := by
  rw [← before_twelve]; exact before_up y _ _ h

theorem ahead_step (y : Int) (_h : 1 ≤ y) : aheadY (y + 1) = aheadY y + ylen y := by
  unfold aheadY ylen
  cases hl : leapB y with
  | true => have := (leapB_iff y).1 hl
            simp only [if_true]; omega
  | false =>
    have : ¬ (y % 4 = 0 ∧ (y % 100 ≠ 0 ∨ y % 400 = 0)) := fun h' => by simp [(leapB_iff y).2 h'] at hl
    simp only [Bool.false_eq_true, if_false]; omega

theorem ahead_up (y : Int) (k : Nat) (h : 1 ≤ y) : aheadY y ≤ aheadY (y + k) := by
  induction k with
  | zero => simp
  | succ k ih =>
    have e := ahead_step (y + k) (by omega)
    have := ylen_pos (y + k)
    rw [show y + ((k + 1 : Nat) : Int) = y + k + 1 by omega, e]; omega

theorem ahead_mono {y z : Int} (h : 1 ≤ y) (hz : y ≤ z) : aheadY y ≤ aheadY z := by
  have := ahead_up y (z - y).toNat h
  rwa [show y + ((z - y).toNat : Int) = z by omega] at this

theorem ahead_next {y z : Int} (h : 1 ≤ y) (hz : y < z) : aheadY y + ylen y ≤ aheadY z := by
  rw [← ahead_step y h]; exact ahead_mono (by omega) (by omega)

theorem aheadY_nonneg {y : Int} (h : 1 ≤ y) : 0 ≤ aheadY y := by unfold aheadY; omega

theorem Day.before_d {y m d : Int} (h : Day y m d) : before y (m - 1).toNat + d ≤ before y m.toNat := by
  have := h.m1; have := h.d2
  rw [show m.toNat = (m - 1).toNat + 1 by omega, before_step, show (((m - 1).toNat + 1 : Nat) : Int) = m by omega]
  omega

theorem Day.inYear {y m d : Int} (h : Day y m d) : 1 ≤ before y (m - 1).toNat + d ∧ before y (m - 1).toNat + d ≤ ylen y := by
  have := h.m2; have := h.d1
  have := before_nonneg y (m - 1).toNat
  have := h.before_d
  have := before_le y m.toNat (by omega)
  omega

theorem Day.num_pos {y m d : Int} (h : Day y m d) : 1 ≤ numOf y m d ∧ numOf y m d ≤ 3652059 := by
  have := h.inYear
  have := aheadY_nonneg h.y1
  have e : aheadY 10000 = 3652059 := by decide
  have := ahead_next h.y1 (show y < 10000 by have := h.y2; omega)
  unfold numOf; omega

/-- Days go by year, month and day. -/
theorem Day.lt {y m d z k f : Int} (h : Day y m d) (h' : Day z k f) (hlt : y < z ∨ (y = z ∧ (m < k ∨ (m = k ∧ d < f)))) : numOf y m d < numOf z k f := by
  have a := h.inYear
  have b := h'.inYear
  have h1 := h.m1
  have h1' := h'.m1
  rcases hlt with hy | ⟨rfl, hm | ⟨rfl, hd⟩⟩
  · have := ahead_next h.y1 hy
    unfold numOf; omega
  · have := h.before_d
    have := before_up y m.toNat (k - 1).toNat (by omega)
    have := h'.d1
    unfold numOf; omega
  · unfold numOf; omega

theorem Day.only {y m d z k f : Int} (h : Day y m d) (h' : Day z k f) (he : numOf y m d = numOf z k f) : y = z ∧ m = k ∧ d = f := by
  by_cases hc : y = z ∧ m = k ∧ d = f
  · exact hc
  · exfalso
    have : (y < z ∨ (y = z ∧ (m < k ∨ (m = k ∧ d < f)))) ∨ (z < y ∨ (z = y ∧ (k < m ∨ (k = m ∧ f < d)))) := by omega
    rcases this with c | c
    · have := h.lt h' c; omega
    · have := h'.lt h c; omega

theorem Day.le_iff {y m d z k f : Int} (h : Day y m d) (h' : Day z k f) : numOf y m d ≤ numOf z k f ↔ ¬ (z < y ∨ (z = y ∧ (k < m ∨ (k = m ∧ f < d)))) := by
  constructor
  · intro hle hc
    have := h'.lt h hc; omega
  · intro hc
    by_cases he : y = z ∧ m = k ∧ d = f
    · obtain ⟨rfl, rfl, rfl⟩ := he; exact Int.le_refl _
    · have := h.lt h' (by omega); omega

/-- The day behind. -/
def nextD (y m d : Int) : Int × Int × Int := if d < mlen y m then (y, m, d + 1) else if m < 12 then (y, m + 1, 1) else (y + 1, 1, 1)

theorem last_num : numOf 9999 12 31 = 3652059 := by decide

theorem mlen_dec (y : Int) : mlen y 12 = 31 := by simp [mlen]

theorem next_num {y m d : Int} (h : Day y m d) (hx : numOf y m d < 3652059) : Day (nextD y m d).1 (nextD y m d).2.1 (nextD y m d).2.2 ∧ numOf (nextD y m d).1 (nextD y m d).2.1 (nextD y m d).2.2 = numOf y m d + 1 := by
  obtain ⟨y1, y2, m1, m2, d1, d2⟩ := h
  unfold nextD
  by_cases hd : d < mlen y m
  · rw [if_pos hd]
    exact ⟨⟨y1, y2, m1, m2, by simp only; omega, by simp only; omega⟩, by simp only [numOf]; omega⟩
  · rw [if_neg hd]
    have hd' : d = mlen y m := by omega
    by_cases hm : m < 12
    · rw [if_pos hm]
      have := mlen_pos y (m + 1)
      refine ⟨⟨y1, y2, by simp only; omega, by simp only; omega, by simp, by simp only; omega⟩, ?_⟩
      simp only [numOf]
      rw [show (m + 1 - 1).toNat = (m - 1).toNat + 1 by omega, before_step, show (((m - 1).toNat + 1 : Nat) : Int) = m by omega]
      omega
    · rw [if_neg hm]
      have hm' : m = 12 := by omega
      subst hm'
      have h31 := mlen_dec y
      have hy : y < 9999 := by
        rcases Int.lt_or_le y 9999 with h | h
        · exact h
        · have : y = 9999 := by omega
          subst this
          rw [hd', h31, last_num] at hx; omega
      have := mlen_pos (y + 1) 1
      refine ⟨⟨by simp only; omega, by simp only; omega, by simp, by simp, by simp, by simp only; omega⟩, ?_⟩
      simp only [numOf]
      rw [ahead_step y y1, ← before_twelve]
      rw [show ((1 : Int) - 1).toNat = 0 by rfl, show ((12 : Int) - 1).toNat = 11 by rfl]
      rw [before_step y 11, show (((11 + 1 : Nat)) : Int) = 12 by rfl, hd']
      simp only [before]; omega

/-- Each number of a day has one. -/
theorem day_of (x : Int) (h1 : 1 ≤ x) (h2 : x ≤ 3652059) : ∃ y m d, Day y m d ∧ numOf y m d = x := by
  have : ∀ n : Nat, (n : Int) + 1 ≤ 3652059 → ∃ y m d, Day y m d ∧ numOf y m d = (n : Int) + 1 := by
    intro n
    induction n with
    | zero => intro _; exact ⟨1, 1, 1, ⟨by omega, by omega, by omega, by omega, by omega, by decide⟩, by decide⟩
    | succ n ih =>
      intro hn
      obtain ⟨y, m, d, hd, he⟩ := ih (by omega)
      have := next_num hd (by omega)
      exact ⟨_, _, _, this.1, by rw [this.2, he]; omega⟩
  have := this (x - 1).toNat (by omega)
  rwa [show (((x - 1).toNat : Nat) : Int) + 1 = x by omega] at this

theorem leap_400 (y : Int) : leapB (y + 400) = leapB y := by
  have a := leapB_iff y
  have b := leapB_iff (y + 400)
  cases h : leapB y <;> cases h' : leapB (y + 400) <;> simp_all <;> omega

theorem mlen_400 (y m : Int) : mlen (y + 400) m = mlen y m := by unfold mlen; rw [leap_400]

theorem before_400 (y : Int) : ∀ k, before (y + 400) k = before y k := by
  intro k
  induction k with
  | zero => rfl
  | succ k ih => rw [before_step, before_step, ih, mlen_400]

theorem num_400 {y m d : Int} : numOf (y + 400) m d = numOf y m d + 146097 := by
  unfold numOf
  rw [before_400]
  have : aheadY (y + 400) = aheadY y + 146097 := by unfold aheadY; omega
  omega

end Go.Proofs.Ytnafhjmeofddoaa
