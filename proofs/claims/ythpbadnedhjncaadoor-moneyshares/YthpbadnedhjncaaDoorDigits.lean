/- The document's Digits and Text: a number in decimal; the one form of a number of cents. -/
import Derived.Test.YthpbadnedhjncaaDoorSmall
import Derived.Laws.BytesArg
namespace Go.Proofs.YthpbadnedhjncaaDoor
open Go.RowKit

/-- A number in decimal, the highest digit first. -/
def decD : Nat → Int → List Int
  | 0, n => [48 + n]
  | f + 1, n => if n < 10 then [48 + n] else decD f (n / 10) ++ [48 + n % 10]

theorem conv_one (W : World) (c : Int) : (convert 87 9 (.slice (some ⟨W.heap.size, 0, none⟩) 1 1)).run Tryd.prog (W.alloc (.cells #[.int .u8 c] 5)) = .ok (.string (strOfNums [c])) (W.alloc (.cells #[.int .u8 c] 5)) :=
  run_convert_bytes_arg (P := Tryd.prog) _ 87 5 Tryd.underlying87 Tryd.underlying5 W.heap.size 0 1 1 [c] rfl (fun i hi => by
    have : i = 0 := by omega
    subst this
    rw [cell_of_row _ _ _ _ _ _ (heap_alloc_new W _)]; rfl) 9 Tryd.underlying9

theorem str_join (a b : List Int) : strOfNums a ++ strOfNums b = strOfNums (a ++ b) := by
  unfold strOfNums
  apply ByteArray.ext
  rw [ByteArray.data_append]
  simp

/-- What is still to come ahead. -/
def decAhead (f : Nat) (m : Int) : List Int := if m = 0 then [] else decD f m

theorem dec_step {k : Nat} {n m : Int} {l : List Int} (h : decD 20 n = decAhead (20 - k) m ++ l) (hk : k < 14) (hm : 0 < m) : decD 20 n = decAhead (20 - (k + 1)) (m / 10) ++ ([48 + m % 10] ++ l) := by
  rw [h, decAhead, if_neg (by omega), show 20 - k = (20 - (k + 1)) + 1 by omega, decD]
  by_cases h10 : m < 10
  · rw [if_pos h10, decAhead, if_pos (by omega), show m % 10 = m by omega]; rfl
  · rw [if_neg h10, decAhead, if_neg (by omega), List.append_assoc]

theorem dec_first (n : Int) (h0 : 0 ≤ n) : decD 20 n = decAhead (20 - 1) (n / 10) ++ [48 + n % 10] := by
  rw [decD]
  by_cases h10 : n < 10
  · rw [if_pos h10, decAhead, if_pos (by omega), show n % 10 = n by omega]; rfl
  · rw [if_neg h10, decAhead, if_neg (by omega)]

theorem ten_next {k : Nat} {m : Int} (hk : k ≤ 14) (hb : m < 10 ^ (14 - k)) (hm : 0 < m) : k < 14 ∧ m / 10 < 10 ^ (14 - (k + 1)) := by
  have h9 : k < 14 := by
    rcases Nat.lt_or_ge k 14 with h | h
    · exact h
    · have : k = 14 := by omega
      subst this
      simp at hb
      omega
  refine ⟨h9, ?_⟩
  rw [show 14 - k = (14 - (k + 1)) + 1 by omega, Int.pow_succ] at hb
  exact Int.ediv_lt_of_lt_mul (by decide) hb

set_option maxHeartbeats 400000 in
theorem refDigits_any (n : Int) (w : World) (h0 : 0 ≤ n) (h1 : n ≤ 10000000000000) :
    Calls Tryd.prog 50 #[.int .i64 n] w fun e w' => e = .returned (.string (strOfNums (decD 20 n))) ∧ Below w.heap.size w w' := by
  have kc := conv_one
  have ks := strOfNums_size
  go_enter Tryd.func50, Tryd.ntmps50
  go_wp2_with fail
  go_loopw [0, 3] (fun x s wr => ∃ (k : Nat) (m : Int) (l : List Int), k ≤ 14 ∧ 0 ≤ m ∧ m ≤ 10000000000000 ∧ x = .int .i64 m ∧ s = .string (strOfNums l) ∧ l.length ≤ 14 ∧ Hid (l.length = k) ∧ Hid (m < 10 ^ (14 - k)) ∧ Hid (decD 20 n = decAhead (20 - k) m ++ l) ∧ Below w.heap.size w wr) (fun x _ _ => (intOf x).toNat)
  case atStart => exact ⟨1, n / 10, [48 + n % 10], by omega, by omega, by omega, rfl, rfl, by simp, rfl, by unfold Hid; simp; omega, dec_first n h0, (Below.refl _ _).alloc (Nat.le_refl _) _⟩
  case round =>
    obtain ⟨k, m, l, hk, hm0, hm1, rfl, rfl, hll, HK, HT, HE, hbel⟩ := hrel
    by_cases hm : 0 < m
    · obtain ⟨hk13, hnx⟩ := ten_next hk HT.out hm
      have HNX := hide hnx
      have HS := hide (dec_step HE.out hk13 hm)
      clear hnx HE
      go_wp2_with fail
      go_roundw
      case rel => exact ⟨k + 1, m / 10, [48 + m % 10] ++ l, by omega, by omega, by omega, rfl, by rw [str_join], by have := HK.out; simp; omega, by have := HK.out; unfold Hid; simp; omega, HNX, HS, hbel.alloc hbel.size _⟩
      case measure => simp [intOf]; omega
    · have HF : Hid (decD 20 n = l) := by have := HE.out; rwa [decAhead, if_pos (by omega), List.nil_append] at this
      go_wp2_with fail
      go_ret
      rw [HF.out]
      exact ⟨rfl, hbel⟩

end Go.Proofs.YthpbadnedhjncaaDoor
