/- Numbers as bytes: laid, read, there and back. No Go in sight. -/
import Derived.Test.YtagpdceaononkaaONums
namespace Go.Proofs.Ytagpdceaononkaa
open Go.RowKit

/-- A number's bytes: seven bits a byte, the lowest first. -/
def uintB : Nat → Int → List Int
  | 0, n => [n]
  | f + 1, n => if n < 128 then [n] else (n % 128 + 128) :: uintB f (n / 128)

theorem wrap8 (m : Int) : IntKind.u8.wrap m = m % 256 := IntKind.wrap_u8' m

theorem or_byte (m : Int) : bits .or .u8 (IntKind.u8.wrap m) 128 = m % 128 + 128 := by
  rw [wrap8, or128 _ (by omega) (by omega)]
  omega

theorem uintB_more {f : Nat} {n m : Int} {fuel : Nat} {pre : List Int} (h : uintB fuel n = pre ++ uintB (f + 1) m) (hm : 128 ≤ m) :
    uintB fuel n = (pre ++ [m % 128 + 128]) ++ uintB f (m / 128) := by
  rw [h, uintB, if_neg (by omega)]; simp

theorem uintB_last {f : Nat} {n m : Int} {fuel : Nat} {pre : List Int} (h : uintB fuel n = pre ++ uintB f m) (hm : m < 128) :
    uintB fuel n = pre ++ [m] := by
  rw [h]; cases f with
  | zero => rw [uintB]
  | succ f => rw [uintB, if_pos hm]

theorem fuel_more {k : Nat} {m : Int} (hk : k ≤ 9) (hb : m < 128 ^ (10 - k)) (hm : 128 ≤ m) : k < 9 ∧ m / 128 < 128 ^ (10 - (k + 1)) := by
  have h9 : k < 9 := by
    rcases Nat.lt_or_ge k 9 with h | h
    · exact h
    · have : k = 9 := by omega
      subst this
      simp at hb
      omega
  refine ⟨h9, ?_⟩
  have e : 10 - k = (10 - (k + 1)) + 1 := by omega
  rw [e, Int.pow_succ] at hb
  exact Int.ediv_lt_of_lt_mul (by decide) hb

theorem uintB_byte : ∀ (f : Nat) (n : Int), 0 ≤ n → n < 128 ^ (f + 1) → ∀ z ∈ uintB f n, 0 ≤ z ∧ z ≤ 255 := by
  intro f
  induction f with
  | zero => intro n h0 h1 z hz; simp [uintB] at hz; simp at h1; omega
  | succ f ih =>
    intro n h0 h1 z hz
    rw [uintB] at hz
    split at hz
    · simp at hz; omega
    · rcases List.mem_cons.1 hz with h | h
      · omega
      · exact ih (n / 128) (by omega) (by rw [Int.pow_succ] at h1; exact Int.ediv_lt_of_lt_mul (by decide) h1) z h

theorem uintB_pos (f : Nat) (n : Int) : (uintB f n).length ≠ 0 := by
  cases f with
  | zero => simp [uintB]
  | succ f => rw [uintB]; split <;> simp

theorem uintB_len : ∀ (f : Nat) (n : Int), (uintB f n).length ≤ f + 1 := by
  intro f
  induction f with
  | zero => intro n; simp [uintB]
  | succ f ih => intro n; rw [uintB]; split
                 · simp
                 · have := ih (n / 128); simp; omega

theorem pow_next (k : Nat) : (2 : Int) ^ (7 * (k + 1)) = 128 * 2 ^ (7 * k) := by
  rw [Nat.mul_add, Int.pow_add]; omega

theorem pow_pos7 (k : Nat) : (0 : Int) < 2 ^ (7 * k) := Int.pow_pos (by decide)

/-- The last byte of a number. -/
theorem rd_last (len p : Int) (k : Nat) (acc m : Int) (rest : List Int) (h0 : 0 ≤ m) (h1 : m < 128) (hk : 0 < k → 0 < m) (h9 : k = 9 → m ≤ 1) : rd len p k acc (m :: rest) = (acc + m * 2 ^ (7 * k), p + k + 1, 0) := by
  rw [rd, if_neg (by omega), if_neg (by omega), if_neg (by omega), show m % 128 = m by omega]

/-- A number that was laid is read. -/
theorem rd_uint : ∀ (f : Nat) (len p : Int) (k : Nat) (acc m : Int) (rest : List Int), k + f = 9 → 0 ≤ m → m * 2 ^ (7 * k) < 18446744073709551616 → (0 < k → 0 < m) →
    rd len p k acc (uintB f m ++ rest) = (acc + m * 2 ^ (7 * k), p + k + (uintB f m).length, 0) := by
  intro f
  induction f with
  | zero =>
    intro len p k acc m rest hkf h0 hb hk
    have hk9 : k = 9 := by omega
    subst hk9
    have hm : m ≤ 1 := by
      have e : (2 : Int) ^ (7 * 9) = 9223372036854775808 := by decide
      rw [e] at hb
      omega
    have h := rd_last len p 9 acc m rest h0 (by omega) hk (fun _ => hm)
    rw [uintB]
    exact h
  | succ f ih =>
    intro len p k acc m rest hkf h0 hb hk
    rw [uintB]
    by_cases hm : m < 128
    · rw [if_pos hm]
      exact rd_last len p k acc m rest h0 hm hk (by omega)
    · rw [if_neg hm, List.cons_append, rd, if_neg (by omega), if_pos (by omega)]
      have hp := pow_pos7 k
      have hb2 : m / 128 * 2 ^ (7 * (k + 1)) < 18446744073709551616 := by
        rw [pow_next]
        have e : m / 128 * (128 * 2 ^ (7 * k)) = (m / 128 * 128) * 2 ^ (7 * k) := by rw [Int.mul_assoc]
        have le : (m / 128 * 128) * 2 ^ (7 * k) ≤ m * 2 ^ (7 * k) := Int.mul_le_mul_of_nonneg_right (by omega) (by omega)
        rw [e]; omega
      rw [ih len p (k + 1) _ (m / 128) rest (by omega) (by omega) hb2 (fun _ => by omega)]
      have e1 : (m % 128 + 128) % 128 = m % 128 := by omega
      have e2 : acc + m % 128 * 2 ^ (7 * k) + m / 128 * 2 ^ (7 * (k + 1)) = acc + m * 2 ^ (7 * k) := by
        rw [pow_next, show m / 128 * (128 * 2 ^ (7 * k)) = (m / 128 * 128) * 2 ^ (7 * k) by rw [Int.mul_assoc], Int.add_assoc, ← Int.add_mul]
        congr 2
        omega
      rw [e1, e2, List.length_cons]
      congr 2
      omega

theorem readU_uint (ahead rest : List Int) (n : Int) (h0 : 0 ≤ n) (h1 : n < 18446744073709551616) : readU (ahead ++ (uintB 9 n ++ rest)) ahead.length = (n, (ahead.length : Int) + (uintB 9 n).length, 0) := by
  unfold readU
  rw [if_neg (by simp; omega)]
  have e : ((ahead.length : Int)).toNat = ahead.length := by omega
  rw [e, List.drop_left, rd_uint 9 _ _ 0 0 n rest rfl h0 (by simpa using h1) (by omega)]
  simp

/-- What is read is laid so. -/
theorem rd_laid : ∀ (l : List Int) (len p : Int) (k : Nat) (acc n to : Int), rd len p k acc l = (n, to, 0) → k ≤ 9 → (∀ z ∈ l, 0 ≤ z ∧ z ≤ 255) →
    ∃ (m : Int) (j : Nat), 0 ≤ m ∧ (0 < k → 0 < m) ∧ n = acc + m * 2 ^ (7 * k) ∧ to = p + k + j ∧ uintB (9 - k) m = l.take j := by
  intro l
  induction l with
  | nil => intro len p k acc n to h; simp [rd] at h
  | cons c r ih =>
    intro len p k acc n to h hk hb
    have hc := hb c (by simp)
    rw [rd] at h
    by_cases c1 : k = 9 ∧ 1 < c
    · rw [if_pos c1] at h; simp at h
    · rw [if_neg c1] at h
      by_cases c2 : 128 ≤ c
      · rw [if_pos c2] at h
        have hk9 : k < 9 := by omega
        obtain ⟨m, j, hm0, hmk, hn, ht, hu⟩ := ih len p (k + 1) _ n to h (by omega) (fun z hz => hb z (by simp [hz]))
        have hm := hmk (by omega)
        refine ⟨c % 128 + 128 * m, j + 1, by omega, fun _ => by omega, ?_, by omega, ?_⟩
        · rw [hn, pow_next, show m * (128 * 2 ^ (7 * k)) = (128 * m) * 2 ^ (7 * k) by rw [← Int.mul_assoc, Int.mul_comm m], Int.add_assoc, ← Int.add_mul]
        · rw [show 9 - k = (9 - (k + 1)) + 1 by omega, uintB, if_neg (by omega), show (c % 128 + 128 * m) / 128 = m by omega, hu, List.take_succ_cons]
          congr 1
          omega
      · rw [if_neg c2] at h
        by_cases c3 : c = 0 ∧ 0 < k
        · rw [if_pos c3] at h; simp at h
        · rw [if_neg c3] at h
          simp only [Prod.mk.injEq] at h
          obtain ⟨hn, ht, _⟩ := h
          refine ⟨c, 1, hc.1, fun _ => by omega, ?_, by omega, ?_⟩
          · rw [← hn, show c % 128 = c by omega]
          · simp only [List.take_succ_cons, List.take_zero]
            cases h9 : 9 - k with
            | zero => rw [uintB]
            | succ f => rw [uintB, if_pos (by omega)]

theorem readU_laid {zs : List Int} {n to : Int} (h : readU zs 0 = (n, to, 0)) (hb : ∀ z ∈ zs, 0 ≤ z ∧ z ≤ 255) : uintB 9 n = zs.take to.toNat := by
  unfold readU at h
  rw [if_neg (by omega)] at h
  obtain ⟨m, j, _, _, hn, ht, hu⟩ := rd_laid _ _ _ 0 0 n to h (by omega) (fun z hz => hb z (by simpa using hz))
  have e1 : n = m := by rw [hn]; simp
  have e2 : to.toNat = j := by omega
  rw [e1, e2]
  simpa using hu

end Go.Proofs.Ytagpdceaononkaa
