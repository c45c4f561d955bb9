/- The page's examples (alive): they are as the page says. -/
import Derived.Test.YtnafhjmeofddoaaText
namespace Go.Proofs.Ytnafhjmeofddoaa
open Go.RowKit

theorem alive_of : ofP 2000 2 29 = (730179, 0) := by decide +kernel
theorem alive_no : ofP 1900 2 29 = (0, 31) := by decide +kernel
theorem alive_week : weekP 730179 = (2, 0) := by decide +kernel
theorem day_one : Day 1 1 1 := ⟨by omega, by omega, by omega, by omega, by omega, by decide⟩
theorem alive_print : printP 1 = (⟨#[48, 48, 48, 49, 45, 48, 49, 45, 48, 49]⟩, 0) := by
  have h := printP_of day_one
  rw [show numOf 1 1 1 = 1 by decide, show strOfNums (dateB 1 1 1) = ⟨#[48, 48, 48, 49, 45, 48, 49, 45, 48, 49]⟩ by decide +kernel] at h
  exact h

set_option maxHeartbeats 400000 in
theorem alive_any (w : World) : Calls Try.prog 16 #[] w fun e w' => e = .returned (.bool true) ∧ Below w.heap.size w w' := by
  go_enter Try.func16, Try.ntmps16
  go_wp2_with fail
  refine (of_any _ _ _ _).mono ?_
  rintro e w1 ⟨rfl, hb1⟩
  rw [alive_of, duo]
  go_wp2_with fail
  refine (of_any _ _ _ _).mono ?_
  rintro e w2 ⟨rfl, hb2⟩
  rw [alive_no, duo]
  have hb12 : Below w.heap.size w w2 := hb1.trans (hb2.mono hb1.size)
  clear hb1 hb2
  go_wp2_with fail
  refine (print_any _ _).mono ?_
  rintro e w3 ⟨rfl, hb3⟩
  rw [alive_print, duoS]
  have hb13 : Below w.heap.size w w3 := hb12.trans (hb3.mono hb12.size)
  clear hb12 hb3
  go_wp2_with fail
  refine (week_any _ _).mono ?_
  rintro e w4 ⟨rfl, rfl⟩
  rw [alive_week, duo]
  go_wp2_with (go_at_call 15; refine (num_any _ _).mono ?_; rintro e w' ⟨rfl, rfl⟩)
  go_ret
  exact ⟨rfl, hb13⟩

end Go.Proofs.Ytnafhjmeofddoaa
