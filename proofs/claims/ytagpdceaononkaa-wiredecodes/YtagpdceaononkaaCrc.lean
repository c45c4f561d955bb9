/- The plain mathematics of the sum: one bit's step is linear; four bits' step by a table is four steps; the sum is a fold. No Go in sight. -/
import Derived.Laws.BitsAllLaws
namespace Go.Proofs.Ytagpdceaononkaa

/-- One bit is shifted out. -/
def bitStep (s : Nat) : Nat := if s % 2 = 1 then s / 2 ^^^ 2197175160 else s / 2

def bitSteps : Nat → Nat → Nat
  | 0, s => s
  | n + 1, s => bitSteps n (bitStep s)

theorem bitSteps_succ (n : Nat) : ∀ s, bitSteps (n + 1) s = bitStep (bitSteps n s) := by
  induction n with
  | zero => intro s; rfl
  | succ n ih => intro s; show bitSteps (n + 1) (bitStep s) = _; rw [ih]; rfl

theorem bitSteps_add (m n : Nat) : ∀ s, bitSteps (m + n) s = bitSteps n (bitSteps m s) := by
  induction m with
  | zero => intro s; simp [bitSteps]
  | succ m ih => intro s; rw [Nat.add_right_comm]; show bitSteps (m + n) (bitStep s) = _; rw [ih]; rfl

theorem bitStep_lt {s : Nat} (h : s < 4294967296) : bitStep s < 4294967296 := by
  unfold bitStep
  split
  · exact Nat.xor_lt_two_pow (n := 32) (by omega) (by decide)
  · omega

theorem bitSteps_lt (n : Nat) : ∀ {s : Nat}, s < 4294967296 → bitSteps n s < 4294967296 := by
  induction n with
  | zero => intro s h; exact h
  | succ n ih => intro s h; exact ih (bitStep_lt h)

theorem bitStep_xor (a b : Nat) : bitStep (a ^^^ b) = bitStep a ^^^ bitStep b := by
  have h1 : (a ^^^ b) / 2 = a / 2 ^^^ b / 2 := Nat.xor_div_two
  have h2 : (a ^^^ b) % 2 = (a + b) % 2 := by rw [show (a ^^^ b) % 2 = a % 2 ^^^ b % 2 from Nat.xor_mod_two_pow (n := 1)]; rcases Nat.mod_two_eq_zero_or_one a with ha | ha <;> rcases Nat.mod_two_eq_zero_or_one b with hb | hb <;> simp [ha, hb, Nat.add_mod]
  unfold bitStep
  rw [h1, h2]
  rcases Nat.mod_two_eq_zero_or_one a with ha | ha <;> rcases Nat.mod_two_eq_zero_or_one b with hb | hb
  · rw [if_neg (by omega), if_neg (by omega), if_neg (by omega)]
  · rw [if_pos (by omega), if_neg (by omega), if_pos (by omega), Nat.xor_assoc]
  · rw [if_pos (by omega), if_pos (by omega), if_neg (by omega), Nat.xor_assoc, Nat.xor_assoc, Nat.xor_comm (b / 2)]
  · rw [if_neg (by omega), if_pos (by omega), if_pos (by omega)]
    rw [Nat.xor_assoc, Nat.xor_comm (2197175160), Nat.xor_assoc, Nat.xor_self, Nat.xor_zero]

theorem bitSteps_xor (n : Nat) : ∀ a b : Nat, bitSteps n (a ^^^ b) = bitSteps n a ^^^ bitSteps n b := by
  induction n with
  | zero => intro a b; rfl
  | succ n ih => intro a b; show bitSteps n (bitStep (a ^^^ b)) = _; rw [bitStep_xor, ih]; rfl

theorem bitSteps_shift (n : Nat) : ∀ x : Nat, bitSteps n (x * 2 ^ n) = x := by
  induction n with
  | zero => intro x; simp [bitSteps]
  | succ n ih =>
    intro x
    have : bitStep (x * 2 ^ (n + 1)) = x * 2 ^ n := by
      unfold bitStep
      rw [Nat.pow_succ, ← Nat.mul_assoc, if_neg (by omega)]
      omega
    show bitSteps n (bitStep (x * 2 ^ (n + 1))) = x
    rw [this, ih]

theorem split_low (n s : Nat) : s = s / 2 ^ n * 2 ^ n ^^^ s % 2 ^ n := by
  have h1 : s / 2 ^ n * 2 ^ n ||| s % 2 ^ n = s / 2 ^ n * 2 ^ n + s % 2 ^ n := nat_join n _ _ (by simp) (Nat.mod_lt _ (Nat.two_pow_pos n))
  have h2 : s / 2 ^ n * 2 ^ n ^^^ s % 2 ^ n = s / 2 ^ n * 2 ^ n ||| s % 2 ^ n := by
    apply Nat.eq_of_testBit_eq
    intro i
    rw [Nat.testBit_xor, Nat.testBit_or, Nat.testBit_mod_two_pow, Nat.testBit_mul_two_pow]
    by_cases h : i < n
    · simp [h, show ¬ n ≤ i by omega]
    · simp [h]
  rw [h2, h1, Nat.mul_comm]
  exact (Nat.div_add_mod s (2 ^ n)).symm

/-- n bits at once: what is above goes down, what is below leaves its steps behind. -/
theorem bitSteps_table (n s : Nat) : bitSteps n s = s / 2 ^ n ^^^ bitSteps n (s % 2 ^ n) := by
  have h := bitSteps_xor n (s / 2 ^ n * 2 ^ n) (s % 2 ^ n)
  rw [← split_low n s, bitSteps_shift] at h
  exact h

/-- The sum from a state on. -/
def sumFrom : Nat → List Int → Nat
  | s, [] => s
  | s, c :: r => sumFrom (bitSteps 8 (s ^^^ c.toNat)) r

theorem sumFrom_append (a b : List Int) : ∀ s, sumFrom s (a ++ b) = sumFrom (sumFrom s a) b := by
  induction a with
  | nil => intro s; rfl
  | cons c r ih => intro s; exact ih _

theorem sumFrom_lt : ∀ (l : List Int) (s : Nat), s < 4294967296 → (∀ z ∈ l, 0 ≤ z ∧ z ≤ 255) → sumFrom s l < 4294967296 := by
  intro l
  induction l with
  | nil => intro s h _; exact h
  | cons c r ih =>
    intro s h hb
    refine ih _ (bitSteps_lt 8 (Nat.xor_lt_two_pow (n := 32) h ?_)) (fun z hz => hb z (by simp [hz]))
    have := hb c (by simp)
    omega

/-- CRC-32C. -/
def crc (l : List Int) : Int := (4294967295 ^^^ sumFrom 4294967295 l : Nat)

theorem crc_nine : crc [49, 50, 51, 52, 53, 54, 55, 56, 57] = 3808858755 := by decide +kernel

end Go.Proofs.Ytagpdceaononkaa
