/- The plain mathematics of turned bits: bytes of which a run of at most 32 bits is turned have another sum. No Go in sight. -/
import Derived.Test.YtagpdceaononkaaCrc
namespace Go.Proofs.Ytagpdceaononkaa

/-! One bit's step forgets nothing: the polynomial has its highest bit. -/

theorem bitStep_zero {s : Nat} (hs : s < 4294967296) (h : bitStep s = 0) : s = 0 := by
  unfold bitStep at h
  by_cases ho : s % 2 = 1
  · rw [if_pos ho] at h
    have e : s / 2 = 2197175160 := by
      have := congrArg (· ^^^ 2197175160) h
      simp only [Nat.xor_assoc, Nat.xor_self, Nat.xor_zero, Nat.zero_xor] at this
      exact this
    omega
  · rw [if_neg ho] at h
    omega

theorem bitSteps_zero (n : Nat) : ∀ {s : Nat}, s < 4294967296 → bitSteps n s = 0 → s = 0 := by
  induction n with
  | zero => intro s _ h; exact h
  | succ n ih => intro s hs h; exact bitStep_zero hs (ih (bitStep_lt hs) h)

theorem bitSteps_none (n : Nat) : bitSteps n 0 = 0 := by
  have := bitSteps_shift n 0
  simpa using this

theorem xor_mul_pow (a b n : Nat) : (a ^^^ b) * 2 ^ n = a * 2 ^ n ^^^ b * 2 ^ n := by
  apply Nat.eq_of_testBit_eq
  intro i
  rw [Nat.testBit_xor, Nat.testBit_mul_two_pow, Nat.testBit_mul_two_pow, Nat.testBit_mul_two_pow, Nat.testBit_xor]
  by_cases h : n ≤ i <;> simp [h]

/-- Bytes as one great number, the first byte lowest. -/
def val : List Int → Nat
  | [] => 0
  | c :: r => c.toNat ^^^ val r * 2 ^ 8

/-- The sum is as many steps as there are bits, over the great number. -/
theorem sumFrom_val : ∀ (l : List Int) (s : Nat), sumFrom s l = bitSteps (8 * l.length) (s ^^^ val l) := by
  intro l
  induction l with
  | nil => intro s; show s = s ^^^ 0; rw [Nat.xor_zero]
  | cons c r ih =>
    intro s
    show sumFrom (bitSteps 8 (s ^^^ c.toNat)) r = bitSteps (8 * (r.length + 1)) (s ^^^ (c.toNat ^^^ val r * 2 ^ 8))
    have h1 : 8 * (r.length + 1) = 8 + 8 * r.length := by omega
    have h2 := bitSteps_xor 8 (s ^^^ c.toNat) (val r * 2 ^ 8)
    rw [bitSteps_shift 8 (val r), Nat.xor_assoc] at h2
    rw [ih, h1, bitSteps_add 8 (8 * r.length) (s ^^^ (c.toNat ^^^ val r * 2 ^ 8)), h2]

theorem sumFrom_diff (a b : List Int) (s T f : Nat) (hl : a.length = b.length) (hv : val a = val b ^^^ T * 2 ^ f) (hf : f ≤ 8 * b.length) : sumFrom s a ^^^ sumFrom s b = bitSteps (8 * b.length - f) T := by
  rw [sumFrom_val, sumFrom_val, hl, ← bitSteps_xor]
  have e : s ^^^ val a ^^^ (s ^^^ val b) = T * 2 ^ f := by
    rw [hv, ← Nat.xor_assoc s, Nat.xor_comm (s ^^^ val b), Nat.xor_assoc, Nat.xor_self, Nat.xor_zero]
  rw [e]
  have h := bitSteps_add f (8 * b.length - f) (T * 2 ^ f)
  rw [bitSteps_shift, show f + (8 * b.length - f) = 8 * b.length by omega] at h
  exact h

theorem xor_zero_iff {a b : Nat} (h : a ^^^ b = 0) : a = b := by
  have := congrArg (· ^^^ b) h
  simpa [Nat.xor_assoc] using this

/-- A run of at most 32 bits that is turned: another sum just if a bit of it is turned. -/
theorem crc_turned (a b : List Int) (T f : Nat) (hl : a.length = b.length) (hv : val a = val b ^^^ T * 2 ^ f) (hf : f ≤ 8 * b.length) (hT : T < 4294967296) : crc a = crc b ↔ T = 0 := by
  have hd := sumFrom_diff a b 4294967295 T f hl hv hf
  constructor
  · intro h
    have h1 : 4294967295 ^^^ sumFrom 4294967295 a = 4294967295 ^^^ sumFrom 4294967295 b := by unfold crc at h; exact Int.ofNat.inj h
    have h2 : sumFrom 4294967295 a = sumFrom 4294967295 b := by
      have := congrArg (4294967295 ^^^ ·) h1
      simpa [← Nat.xor_assoc] using this
    rw [h2, Nat.xor_self] at hd
    exact bitSteps_zero _ hT hd.symm
  · intro h
    subst h
    rw [bitSteps_none] at hd
    unfold crc
    rw [xor_zero_iff hd]

/-- A byte of which bits are turned. -/
theorem val_set : ∀ (l : List Int) (j x : Nat), j < l.length → val (l.set j (((l.getD j 0).toNat ^^^ x : Nat) : Int)) = val l ^^^ x * 2 ^ (8 * j) := by
  intro l
  induction l with
  | nil => intro j x h; simp at h
  | cons c r ih =>
    intro j x h
    cases j with
    | zero =>
      show (((c.toNat ^^^ x : Nat) : Int)).toNat ^^^ val r * 2 ^ 8 = c.toNat ^^^ val r * 2 ^ 8 ^^^ x * 2 ^ (8 * 0)
      rw [Int.toNat_natCast, Nat.mul_zero, Nat.pow_zero, Nat.mul_one, Nat.xor_assoc, Nat.xor_assoc, Nat.xor_comm x]
    | succ j =>
      have h' : j < r.length := by simpa using h
      show c.toNat ^^^ val (r.set j (((r.getD j 0).toNat ^^^ x : Nat) : Int)) * 2 ^ 8 = c.toNat ^^^ val r * 2 ^ 8 ^^^ x * 2 ^ (8 * (j + 1))
      rw [ih j x h', xor_mul_pow, Nat.xor_assoc, Nat.mul_assoc, ← Nat.pow_add, Nat.mul_add]

theorem mod_step (t i : Nat) : t % 2 ^ (i + 1) = if t / 2 ^ i % 2 = 1 then t % 2 ^ i ^^^ 2 ^ i else t % 2 ^ i := by
  have hb : (t.testBit i) = decide (t / 2 ^ i % 2 = 1) := by rw [Nat.testBit_eq_decide_div_mod_eq]
  apply Nat.eq_of_testBit_eq
  intro k
  by_cases hk : t / 2 ^ i % 2 = 1
  · rw [if_pos hk]
    rw [Nat.testBit_mod_two_pow, Nat.testBit_xor, Nat.testBit_mod_two_pow, Nat.testBit_two_pow]
    by_cases e : k = i
    · subst e; simp [hb, hk]
    · by_cases h1 : k < i
      · simp [h1, show k < i + 1 by omega, show ¬ i = k by omega]
      · simp [h1, show ¬ k < i + 1 by omega, show ¬ i = k by omega]
  · rw [if_neg hk]
    rw [Nat.testBit_mod_two_pow, Nat.testBit_mod_two_pow]
    by_cases e : k = i
    · subst e; simp [hb, hk]
    · by_cases h1 : k < i
      · simp [h1, show k < i + 1 by omega]
      · simp [h1, show ¬ k < i + 1 by omega]

/-- One bit more is turned. -/
theorem turn_step {c b : List Int} {t f i : Nat} (hv : val c = val b ^^^ t % 2 ^ i * 2 ^ f) (hj : (f + i) / 8 < c.length) (hbit : t / 2 ^ i % 2 = 1) :
    val (c.set ((f + i) / 8) (((c.getD ((f + i) / 8) 0).toNat ^^^ 2 ^ ((f + i) % 8) : Nat) : Int)) = val b ^^^ t % 2 ^ (i + 1) * 2 ^ f := by
  rw [val_set _ _ _ hj, hv, mod_step, if_pos hbit, xor_mul_pow, ← Nat.pow_add, ← Nat.pow_add, Nat.xor_assoc]
  congr 3
  omega

theorem turn_keep {c b : List Int} {t f i : Nat} (hv : val c = val b ^^^ t % 2 ^ i * 2 ^ f) (hbit : ¬ t / 2 ^ i % 2 = 1) : val c = val b ^^^ t % 2 ^ (i + 1) * 2 ^ f := by
  rw [mod_step, if_neg hbit]; exact hv

theorem turn_some {t i : Nat} (hbit : t / 2 ^ i % 2 = 1) : t % 2 ^ (i + 1) ≠ 0 := by
  intro h
  rw [mod_step, if_pos hbit] at h
  have h1 := xor_zero_iff h
  have := Nat.mod_lt t (Nat.two_pow_pos i)
  omega

theorem turn_same {t i : Nat} (hbit : ¬ t / 2 ^ i % 2 = 1) : t % 2 ^ (i + 1) = t % 2 ^ i := by rw [mod_step, if_neg hbit]

end Go.Proofs.Ytagpdceaononkaa
