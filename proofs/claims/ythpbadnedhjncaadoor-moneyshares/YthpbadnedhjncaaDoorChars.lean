/- The program's areDigits, number, isWhole, isCents. -/
import Derived.Test.YthpbadnedhjncaaDoorOwn2
import Derived.Test.YthpbadnedhjncaaDoorParse
namespace Go.Proofs.YthpbadnedhjncaaDoor
open Go.RowKit

def allDig (l : List Int) : Bool := l.all isDig

theorem all_of {l : List Int} (h : ∀ i, i < l.length → isDig (l.getD i 0) = true) : allDig l = true := by
  unfold allDig
  rw [List.all_eq_true]
  intro x hx
  obtain ⟨i, hi, rfl⟩ := List.getElem_of_mem hx
  have := h i hi
  simpa [List.getD, hi] using this

theorem of_all {l : List Int} (h : allDig l = true) : ∀ i, i < l.length → isDig (l.getD i 0) = true := by
  intro i hi
  unfold allDig at h
  rw [List.all_eq_true] at h
  exact h _ (by simp [List.getD, hi])

theorem not_all {l : List Int} {k : Nat} (hk : k < l.length) (h : isDig (l.getD k 0) = false) : allDig l = false := by
  cases ha : allDig l with
  | false => rfl
  | true => have := of_all ha k hk; rw [h] at this; cases this

set_option maxHeartbeats 400000 in
theorem areDigits_any (s : ByteArray) (w : World) (hs : s.size ≤ 140737488355328) : Calls Tryd.prog 48 #[.string s] w fun e w' => e = .returned (.bool (allDig (strB s))) ∧ w' = w := by
  have HLL := hide (strB_len s)
  have HAT := hide (strB_at s)
  generalize hl : strB s = l at *
  have HS := hide hl
  clear hl
  go_enter Tryd.func48, Tryd.ntmps48
  go_wp2
  go_loop [6] (fun i => ∃ k : Nat, k ≤ s.size ∧ i = .int .i64 k ∧ Hid (∀ i, i < k → isDig (l.getD i 0) = true)) (fun i => s.size - (intOf i).toNat)
  case atStart => exact ⟨0, by omega, rfl, fun i h => by omega⟩
  case round =>
    obtain ⟨k, hk, rfl, HD⟩ := hrel
    by_cases hlt : k < s.size
    · have hcb := byte_lt s k hlt
      have HK := hide (HAT.out k hlt)
      by_cases h1 : ((s[k]'hlt).toNat : Int) < 48
      · have HV : Hid (allDig l = false) := not_all (k := k) (by rw [HLL.out]; exact hlt) (by rw [HK.out]; exact decide_eq_false (by omega))
        go_wp2_with fail
        go_ret
        exact ⟨ret_bool HV.out.symm, rfl⟩
      · have h1b : decide (((s[k]'hlt).toNat : Int) < 48) = false := decide_eq_false h1
        by_cases h2 : (57 : Int) < (s[k]'hlt).toNat
        · have HV : Hid (allDig l = false) := not_all (k := k) (by rw [HLL.out]; exact hlt) (by rw [HK.out]; exact decide_eq_false (by omega))
          go_wp2_with fail
          go_ret
          exact ⟨ret_bool HV.out.symm, rfl⟩
        · have h2b : decide ((57 : Int) < (s[k]'hlt).toNat) = false := decide_eq_false h2
          have HDN : Hid (∀ i, i < k + 1 → isDig (l.getD i 0) = true) := by
            intro i hi
            rcases (show i < k ∨ i = k by omega) with h | rfl
            · exact HD.out i h
            · rw [HK.out]; exact decide_eq_true (by omega)
          go_wp2_with fail
          go_round
          case rel => exact ⟨k + 1, by omega, by go_num, HDN⟩
          case measure => simp [intOf]; omega
    · have HV : Hid (allDig l = true) := all_of (fun i hi => HD.out i (by rw [HLL.out] at hi; omega))
      go_wp2_with fail
      go_ret
      exact ⟨ret_bool HV.out.symm, rfl⟩

theorem val_snoc (l : List Int) (c : Int) : valM (l ++ [c]) = valM l * 10 + (c - 48) := by unfold valM; simp

theorem take_snoc {l : List Int} {k : Nat} (hk : k < l.length) : l.take (k + 1) = l.take k ++ [l.getD k 0] := by
  rw [List.take_add_one]; simp [List.getD, hk]

theorem ten_pow_le {k : Nat} (h : k ≤ 14) : (10 : Int) ^ k ≤ 100000000000000 := by
  have : (10 : Nat) ^ k ≤ 10 ^ 14 := Nat.pow_le_pow_right (by decide) h
  have e : ((10 ^ k : Nat) : Int) = (10 : Int) ^ k := by simp
  have e2 : (10 : Nat) ^ 14 = 100000000000000 := by decide
  omega

set_option maxHeartbeats 400000 in
theorem number_any (s : ByteArray) (w : World) (hs : s.size ≤ 14) (hd : allDig (strB s) = true) : Calls Tryd.prog 33 #[.string s] w fun e w' => e = .returned (.int .i64 (valM (strB s))) ∧ w' = w := by
  have HLL := hide (strB_len s)
  have HAT := hide (strB_at s)
  have HD := hide (of_all hd)
  clear hd
  generalize hl : strB s = l at *
  have HS := hide hl
  clear hl
  go_enter Tryd.func33, Tryd.ntmps33
  go_wp2
  go_loop [3, 7] (fun x i => ∃ (k : Nat) (n : Int), k ≤ s.size ∧ i = .int .i64 k ∧ x = .int .i64 n ∧ 0 ≤ n ∧ n ≤ 100000000000000 ∧ Hid (n < 10 ^ k) ∧ Hid (n = valM (l.take k))) (fun _ i => s.size - (intOf i).toNat)
  case atStart => exact ⟨0, 0, by omega, rfl, rfl, by omega, by omega, by simp [Hid], by simp [Hid, valM]⟩
  case round =>
    obtain ⟨k, n, hk, rfl, rfl, hn0, hn1, HP, HN⟩ := hrel
    by_cases hlt : k < s.size
    · have hcb := byte_lt s k hlt
      have HK := hide (HAT.out k hlt)
      have hdg : 48 ≤ ((s[k]'hlt).toNat : Int) ∧ ((s[k]'hlt).toNat : Int) ≤ 57 := by
        have := HD.out k (by rw [HLL.out]; exact hlt)
        rw [HK.out] at this
        exact of_decide_eq_true this
      have hp := HP.out
      have hp13 := ten_pow_le (k := k + 1) (by omega)
      have hpe : (10 : Int) ^ (k + 1) = 10 ^ k * 10 := Int.pow_succ _ _
      have HNN : Hid (n * 10 + (((s[k]'hlt).toNat : Int) - 48) = valM (l.take (k + 1))) := by
        unfold Hid; rw [take_snoc (by rw [HLL.out]; exact hlt), val_snoc, ← HN.out, HK.out]
      have HPN : Hid (n * 10 + (((s[k]'hlt).toNat : Int) - 48) < 10 ^ (k + 1)) := by unfold Hid; omega
      have hle : n * 10 + (((s[k]'hlt).toNat : Int) - 48) ≤ 100000000000000 := by omega
      clear hp hp13 hpe
      go_wp2_with fail
      go_round
      case rel => exact ⟨k + 1, n * 10 + (((s[k]'hlt).toNat : Int) - 48), by omega, by go_num, by go_num, by omega, by omega, HPN, HNN⟩
      case measure => simp [intOf]; omega
    · have HV : Hid (n = valM l) := by have := HN.out; rwa [List.take_of_length_le (by rw [HLL.out]; omega)] at this
      go_wp2_with fail
      go_ret
      exact ⟨ret_i64 HV.out, rfl⟩

theorem bytes_map (s : ByteArray) : strB s = s.toList.map fun b => (b.toNat : Int) := by unfold strB; rw [ByteArray.toList_eq]

theorem eq_const (s : ByteArray) (cs : List UInt8) : (s.toList == cs) = decide (strB s = cs.map fun b => (b.toNat : Int)) := by
  rw [bytes_map]
  by_cases h : s.toList = cs
  · rw [h]; simp
  · rw [decide_eq_false]
    · simpa using h
    · intro hh
      apply h
      exact (List.map_inj_right (fun a b hab => by
        have : a.toNat = b.toNat := Int.ofNat_inj.1 hab
        exact UInt8.toNat_inj.mp this)).1 hh

def wholeB (l : List Int) : Bool := decide (l = [48]) || (decide (l ≠ []) && (decide (l.getD 0 0 ≠ 48) && allDig l))
def centsOk (l : List Int) : Bool := decide (l.length = 2) && (decide (l ≠ [48, 48]) && allDig l)

set_option maxHeartbeats 400000 in
theorem isWhole_any (s : ByteArray) (w : World) (hs : s.size ≤ 140737488355328) : Calls Tryd.prog 31 #[.string s] w fun e w' => e = .returned (.bool (wholeB (strB s))) ∧ w' = w := by
  have CD := hide (fun w => areDigits_any s w hs)
  have HLL := hide (strB_len s)
  have HAT := hide (strB_at s)
  have he := eq_const s [48]
  obtain ⟨z, hz⟩ : ∃ z, z = decide (strB s = [48]) := ⟨_, rfl⟩
  have he' : (s.toList == [48]) = z := by rw [hz]; exact he
  clear he
  generalize hl : strB s = l at *
  clear hl
  cases z with
  | true =>
    have HV : Hid (wholeB l = true) := by unfold Hid wholeB; rw [← hz]; rfl
    clear hz
    go_enter Tryd.func31, Tryd.ntmps31
    go_wp2_with fail
    go_ret
    exact ⟨ret_bool HV.out.symm, rfl⟩
  | false =>
    by_cases h0 : s.size = 0
    · have hem := emp_yes h0
      have HV : Hid (wholeB l = false) := by unfold Hid wholeB; rw [← hz, List.eq_nil_of_length_eq_zero (HLL.out.trans h0)]; rfl
      clear hz
      go_enter Tryd.func31, Tryd.ntmps31
      go_wp2_with fail
      go_ret
      exact ⟨ret_bool HV.out.symm, rfl⟩
    · have hem := emp_no h0
      have h0' : 0 < s.size := by omega
      have hb0 := byte_lt s 0 h0'
      have HNE : Hid (l ≠ []) := by intro h; have := HLL.out; rw [h] at this; simp at this; omega
      cases hm : (((s[0]'h0').toNat : Int) != 48) with
      | false =>
        have HV : Hid (wholeB l = false) := by unfold Hid wholeB; rw [← hz, HAT.out 0 h0']; simp at hm; simp [hm]
        clear hz
        go_enter Tryd.func31, Tryd.ntmps31
        go_wp2_with fail
        go_ret
        exact ⟨ret_bool HV.out.symm, rfl⟩
      | true =>
        have HV : Hid (wholeB l = allDig l) := by unfold Hid wholeB; rw [← hz, HAT.out 0 h0', decide_eq_true HNE.out]; simp at hm; simp [hm]
        clear hz
        go_enter Tryd.func31, Tryd.ntmps31
        go_wp2_with (go_at_call 48; refine (CD.out _).mono ?_; rintro e w' ⟨rfl, hww⟩; subst w')
        go_ret
        exact ⟨ret_bool HV.out.symm, rfl⟩

set_option maxHeartbeats 400000 in
theorem isCents_any (s : ByteArray) (w : World) (hs : s.size ≤ 140737488355328) : Calls Tryd.prog 32 #[.string s] w fun e w' => e = .returned (.bool (centsOk (strB s))) ∧ w' = w := by
  have CD := hide (fun w => areDigits_any s w hs)
  have HLL := hide (strB_len s)
  have he := eq_const s [48, 48]
  obtain ⟨z, hz⟩ : ∃ z, z = decide (strB s = [48, 48]) := ⟨_, rfl⟩
  have he' : (s.toList == [48, 48]) = z := by rw [hz]; exact he
  clear he
  generalize hl : strB s = l at *
  clear hl
  by_cases h2 : s.size = 2
  · have h2b : ((s.size : Int) == 2) = true := by simp [h2]
    cases z with
    | true =>
      have HV : Hid (centsOk l = false) := by unfold Hid centsOk; have := of_decide_eq_true hz.symm; rw [this]; rfl
      clear hz h2
      go_enter Tryd.func32, Tryd.ntmps32
      go_wp2_with fail
      go_ret
      exact ⟨ret_bool HV.out.symm, rfl⟩
    | false =>
      have HV : Hid (centsOk l = allDig l) := by unfold Hid centsOk; have := of_decide_eq_false hz.symm; rw [decide_eq_true (HLL.out.trans h2), decide_eq_true this]; rfl
      clear hz h2
      go_enter Tryd.func32, Tryd.ntmps32
      go_wp2_with (go_at_call 48; refine (CD.out _).mono ?_; rintro e w' ⟨rfl, hww⟩; subst w')
      go_ret
      exact ⟨ret_bool HV.out.symm, rfl⟩
  · have h2b : ((s.size : Int) == 2) = false := by simp; omega
    have HV : Hid (centsOk l = false) := by unfold Hid centsOk; rw [HLL.out, decide_eq_false h2]; rfl
    clear h2
    go_enter Tryd.func32, Tryd.ntmps32
    go_wp2_with fail
    go_ret
    exact ⟨ret_bool HV.out.symm, rfl⟩

end Go.Proofs.YthpbadnedhjncaaDoor
