/- The document's Digits and Text: a number in decimal; the one form of a number of cents. -/
import Derived.Test.YthpbadnedhjncabGreatDoorSmall
import Derived.Laws.BytesArg
namespace Go.Proofs.YthpbadnedhjncabGreatDoor
open Go.RowKit

/-- A number in decimal, the highest digit first. -/
def decD : Nat → Int → List Int
  | 0, n => [48 + n]
  | f + 1, n => if n < 10 then [48 + n] else decD f (n / 10) ++ [48 + n % 10]

theorem str_join (a b : List Int) : strOfNums a ++ strOfNums b = strOfNums (a ++ b) := by
  unfold strOfNums
  apply ByteArray.ext
  rw [ByteArray.data_append]
  simp

/-- What is still to come ahead. -/
def decAhead (f : Nat) (m : Int) : List Int := if m = 0 then [] else decD f m

theorem dec_step {k : Nat} {n m : Int} {l : List Int} (h : decD 20 n = decAhead (20 - k) m ++ l) (hk : k < 14) (hm : 0 < m) : decD 20 n = decAhead (20 - (k + 1)) (m / 10) ++ ([48 + m % 10] ++ l) := by
  rw [h, decAhead, if_neg (by omega), show 20 - k = (20 - (k + 1)) + 1 by omega, decD]
  by_cases h10 : m < 10
  · rw [if_pos h10, decAhead, if_pos (by omega), show m % 10 = m by omega]; rfl
  · rw [if_neg h10, decAhead, if_neg (by omega), List.append_assoc]

theorem dec_first (n : Int) (h0 : 0 ≤ n) : decD 20 n = decAhead (20 - 1) (n / 10) ++ [48 + n % 10] := by
  rw [decD]
  by_cases h10 : n < 10
  · rw [if_pos h10, decAhead, if_pos (by omega), show n % 10 = n by omega]; rfl
  · rw [if_neg h10, decAhead, if_neg (by omega)]

theorem ten_next {k : Nat} {m : Int} (hk : k ≤ 14) (hb : m < 10 ^ (14 - k)) (hm : 0 < m) : k < 14 ∧ m / 10 < 10 ^ (14 - (k + 1)) := by
  have h9 : k < 14 := by
    rcases Nat.lt_or_ge k 14 with h | h
    · exact h
    · have : k = 14 := by omega
      subst this
      simp at hb
      omega
  refine ⟨h9, ?_⟩
  rw [show 14 - k = (14 - (k + 1)) + 1 by omega, Int.pow_succ] at hb
  exact Int.ediv_lt_of_lt_mul (by decide) hb

end Go.Proofs.YthpbadnedhjncabGreatDoor
