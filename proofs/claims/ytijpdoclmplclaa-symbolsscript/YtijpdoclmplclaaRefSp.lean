/- The document's words for a name and a variable. -/
import Derived.Test.YtijpdoclmplclaaSp
namespace Go.Proofs.Ytijpdoclmplclaa
open Go.RowKit Go.Shelf

set_option maxHeartbeats 800000 in
theorem rsmall_any (c : UInt8) (w : World) : Calls Try.prog 30 #[.int .u8 c.toNat] w fun e w' => e = .returned (.bool (smallB c)) ∧ w' = w := by
  unfold smallB
  go_enter Try.func30, Try.ntmps30
  go_wp2
  all_goals go_ret
  all_goals refine ⟨ret_bool ?_, rfl⟩
  all_goals simp
  all_goals omega

set_option maxHeartbeats 800000 in
theorem rcapital_any (c : UInt8) (w : World) : Calls Try.prog 34 #[.int .u8 c.toNat] w fun e w' => e = .returned (.bool (capB c)) ∧ w' = w := by
  unfold capB
  go_enter Try.func34, Try.ntmps34
  go_wp2
  all_goals go_ret
  all_goals refine ⟨ret_bool ?_, rfl⟩
  all_goals simp
  all_goals omega

set_option maxHeartbeats 800000 in
theorem rest_any (c : UInt8) (w : World) : Calls Try.prog 31 #[.int .u8 c.toNat] w fun e w' => e = .returned (.bool (nameB c)) ∧ w' = w := by
  have C := hide (rsmall_any c w)
  unfold nameB
  cases hb : smallB c with
  | true =>
    rw [hb] at C
    clear hb
    go_enter Try.func31, Try.ntmps31
    go_wp2_with (first | (go_at_call 30; refine C.out.mono ?_; rintro _ w1 ⟨rfl, hw1⟩; subst w1))
    go_ret
    exact ⟨ret_bool (by simp), rfl⟩
  | false =>
    rw [hb] at C
    clear hb
    go_enter Try.func31, Try.ntmps31
    go_wp2_with (first | (go_at_call 30; refine C.out.mono ?_; rintro _ w1 ⟨rfl, hw1⟩; subst w1))
    all_goals go_ret
    all_goals refine ⟨ret_bool ?_, rfl⟩
    all_goals rw [Bool.eq_iff_iff]
    all_goals simp
    all_goals omega

theorem all_first {g : UInt8 → Bool} {s : ByteArray} (h : 0 < s.size) (hg : g s[0] = true) : (s.data.toList.take 1).all g = true := all_step (k := 0) h (by simp) hg
theorem ne_empty {s : ByteArray} (h : 1 ≤ s.size) : (s.toList == []) = false := by
  rw [beq_eq_false_iff_ne]
  intro e
  rw [ByteArray.toList_eq] at e
  have e2 := congrArg List.length e
  have h2 : s.data.toList.length = s.size := by simp
  rw [h2, List.length_nil] at e2
  omega
theorem small_name {c : UInt8} (h : smallB c = true) : nameB c = true := by unfold nameB; rw [h]; rfl
theorem cap_var {c : UInt8} (h : capB c = true) : varB c = true := by unfold varB; rw [h]; simp

set_option maxRecDepth 100000 in
set_option maxHeartbeats 1600000 in
theorem risName_any (s : ByteArray) (w : World) : Calls Try.prog 10 #[.string s] w fun e w' => e = .returned (.bool (speltB smallB nameB s.data.toList)) ∧ w' = w := by
  have hl : s.data.toList.length = s.size := by simp
  by_cases h1 : 1 ≤ s.size
  rotate_left 1
  · have hr : Hid (speltB smallB nameB s.data.toList = false) := by unfold Hid speltB; rw [hl, decide_eq_false h1]; rfl
    obtain rfl : s = ⟨#[]⟩ := by
      apply ByteArray.ext
      apply Array.eq_empty_of_size_eq_zero
      have : s.data.size = s.size := rfl
      omega
    clear hl
    go_enter Try.func10, Try.ntmps10
    go_wp2_with fail
    go_ret
    exact ⟨ret_bool hr.out.symm, rfl⟩
  have hne := ne_empty h1
  by_cases h2 : s.size ≤ 32
  rotate_left 1
  · have hr : Hid (speltB smallB nameB s.data.toList = false) := by unfold Hid speltB; rw [hl, decide_eq_false h2]; simp
    clear hl
    go_enter Try.func10, Try.ntmps10
    go_wp2_with fail
    go_ret
    exact ⟨ret_bool hr.out.symm, rfl⟩
  have C0 := hide (rsmall_any s[0] w)
  cases hb : smallB s[0] with
  | false =>
    have hr : Hid (speltB smallB nameB s.data.toList = false) := by unfold Hid speltB; rw [getD_at s 0 (by omega), hb]; simp
    rw [hb] at C0
    clear hl hb
    go_enter Try.func10, Try.ntmps10
    go_wp2_with (first | (refine C0.out.mono ?_; rintro _ w1 ⟨rfl, hw1⟩; subst w1))
    go_ret
    exact ⟨ret_bool hr.out.symm, rfl⟩
  | true =>
    have hr : Hid (speltB smallB nameB s.data.toList = s.data.toList.all nameB) := by unfold Hid speltB; rw [getD_at s 0 (by omega), hb, hl, decide_eq_true h1, decide_eq_true h2]; simp
    have HB := hide (small_name hb)
    rw [hb] at C0
    clear hl hb
    go_enter Try.func10, Try.ntmps10
    go_wp2_with (first | (refine C0.out.mono ?_; rintro _ w1 ⟨rfl, hw1⟩; subst w1))
    go_loop [3] (fun x => ∃ k : Nat, 1 ≤ k ∧ k ≤ s.size ∧ x = .int .i64 k ∧ Hid ((s.data.toList.take k).all nameB = true)) (fun x => s.size - (intOf x).toNat)
    case atStart => exact ⟨1, by omega, by omega, rfl, hide (all_first (by omega) HB.out)⟩
    case round =>
      obtain ⟨k, hk1, hk, rfl, HK⟩ := hrel
      by_cases hlt : k < s.size
      · have C1 := hide (rest_any s[k] w)
        cases hb : nameB s[k] with
        | true =>
          have HN := hide (all_step hlt HK.out hb)
          rw [hb] at C1
          clear hb
          go_wp2_with (first | (refine C1.out.mono ?_; rintro _ w1 ⟨rfl, hw1⟩; subst w1))
          go_round
          case rel => exact ⟨k + 1, by omega, by omega, by go_num, HN⟩
          case measure => simp [intOf]; omega
        | false =>
          have HN := hide (all_no hlt hb)
          rw [hb] at C1
          clear hb
          go_wp2_with (first | (refine C1.out.mono ?_; rintro _ w1 ⟨rfl, hw1⟩; subst w1))
          go_ret
          exact ⟨ret_bool ((hr.out.trans HN.out).symm), rfl⟩
      · have HN : Hid (s.data.toList.all nameB = true) := by
          have := HK.out
          rw [List.take_of_length_le (by simp; have : s.data.size = s.size := rfl; omega)] at this
          exact this
        go_wp2_with fail
        go_ret
        exact ⟨ret_bool ((hr.out.trans HN.out).symm), rfl⟩

set_option maxRecDepth 100000 in
set_option maxHeartbeats 1600000 in
theorem risVar_any (s : ByteArray) (w : World) : Calls Try.prog 12 #[.string s] w fun e w' => e = .returned (.bool (speltB capB varB s.data.toList)) ∧ w' = w := by
  have hl : s.data.toList.length = s.size := by simp
  by_cases h1 : 1 ≤ s.size
  rotate_left 1
  · have hr : Hid (speltB capB varB s.data.toList = false) := by unfold Hid speltB; rw [hl, decide_eq_false h1]; rfl
    obtain rfl : s = ⟨#[]⟩ := by
      apply ByteArray.ext
      apply Array.eq_empty_of_size_eq_zero
      have : s.data.size = s.size := rfl
      omega
    clear hl
    go_enter Try.func12, Try.ntmps12
    go_wp2_with fail
    go_ret
    exact ⟨ret_bool hr.out.symm, rfl⟩
  have hne := ne_empty h1
  by_cases h2 : s.size ≤ 32
  rotate_left 1
  · have hr : Hid (speltB capB varB s.data.toList = false) := by unfold Hid speltB; rw [hl, decide_eq_false h2]; simp
    clear hl
    go_enter Try.func12, Try.ntmps12
    go_wp2_with fail
    go_ret
    exact ⟨ret_bool hr.out.symm, rfl⟩
  have C0 := hide (rcapital_any s[0] w)
  cases hb : capB s[0] with
  | false =>
    have hr : Hid (speltB capB varB s.data.toList = false) := by unfold Hid speltB; rw [getD_at s 0 (by omega), hb]; simp
    rw [hb] at C0
    clear hl hb
    go_enter Try.func12, Try.ntmps12
    go_wp2_with (first | (refine C0.out.mono ?_; rintro _ w1 ⟨rfl, hw1⟩; subst w1))
    go_ret
    exact ⟨ret_bool hr.out.symm, rfl⟩
  | true =>
    have hr : Hid (speltB capB varB s.data.toList = s.data.toList.all varB) := by unfold Hid speltB; rw [getD_at s 0 (by omega), hb, hl, decide_eq_true h1, decide_eq_true h2]; simp
    have HB := hide (cap_var hb)
    rw [hb] at C0
    clear hl hb
    go_enter Try.func12, Try.ntmps12
    go_wp2_with (first | (refine C0.out.mono ?_; rintro _ w1 ⟨rfl, hw1⟩; subst w1))
    go_loop [3] (fun x => ∃ k : Nat, 1 ≤ k ∧ k ≤ s.size ∧ x = .int .i64 k ∧ Hid ((s.data.toList.take k).all varB = true)) (fun x => s.size - (intOf x).toNat)
    case atStart => exact ⟨1, by omega, by omega, rfl, hide (all_first (by omega) HB.out)⟩
    case round =>
      obtain ⟨k, hk1, hk, rfl, HK⟩ := hrel
      by_cases hlt : k < s.size
      · have C1 := hide (rest_any s[k] w)
        have C2 := hide (rcapital_any s[k] w)
        cases hb : varB s[k] with
        | true =>
          have HN := hide (all_step hlt HK.out hb)
          cases hn : nameB s[k] with
          | true =>
            rw [hn] at C1
            clear hb hn
            go_wp2_with (first | (go_at_call 31; refine C1.out.mono ?_; rintro _ w1 ⟨rfl, hw1⟩; subst w1) | (go_at_call 34; refine C2.out.mono ?_; rintro _ w1 ⟨rfl, hw1⟩; subst w1))
            go_round
            case rel => exact ⟨k + 1, by omega, by omega, by go_num, HN⟩
            case measure => simp [intOf]; omega
          | false =>
            have hc : capB s[k] = true := by unfold varB at hb; rw [hn] at hb; simpa using hb
            rw [hn] at C1
            rw [hc] at C2
            clear hb hn hc
            go_wp2_with (first | (go_at_call 31; refine C1.out.mono ?_; rintro _ w1 ⟨rfl, hw1⟩; subst w1) | (go_at_call 34; refine C2.out.mono ?_; rintro _ w1 ⟨rfl, hw1⟩; subst w1))
            go_round
            case rel => exact ⟨k + 1, by omega, by omega, by go_num, HN⟩
            case measure => simp [intOf]; omega
        | false =>
          have HN := hide (all_no hlt hb)
          have hn : nameB s[k] = false := by unfold varB at hb; simp at hb; exact hb.1
          have hc : capB s[k] = false := by unfold varB at hb; simp at hb; exact hb.2
          rw [hn] at C1
          rw [hc] at C2
          clear hb hn hc
          go_wp2_with (first | (go_at_call 31; refine C1.out.mono ?_; rintro _ w1 ⟨rfl, hw1⟩; subst w1) | (go_at_call 34; refine C2.out.mono ?_; rintro _ w1 ⟨rfl, hw1⟩; subst w1))
          go_ret
          exact ⟨ret_bool ((hr.out.trans HN.out).symm), rfl⟩
      · have HN : Hid (s.data.toList.all varB = true) := by
          have := HK.out
          rw [List.take_of_length_le (by simp; have : s.data.size = s.size := rfl; omega)] at this
          exact this
        go_wp2_with fail
        go_ret
        exact ⟨ret_bool ((hr.out.trans HN.out).symm), rfl⟩

end Go.Proofs.Ytijpdoclmplclaa
