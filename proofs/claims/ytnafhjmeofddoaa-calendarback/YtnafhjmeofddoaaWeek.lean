/- Weekdays, and the page's examples but for its text. -/
import Derived.Test.YtnafhjmeofddoaaParts
namespace Go.Proofs.Ytnafhjmeofddoaa
open Go.RowKit

/-- What Weekday answers. -/
def weekP (x : Int) : Int × Int := if 1 ≤ x ∧ x ≤ 3652059 then ((x - 1) % 7 + 1, 0) else (0, 31)

set_option maxHeartbeats 400000 in
theorem week_any (x : Int) (w : World) :
    Calls Try.prog 21 #[.int .i64 x] w fun e w' => e = .returned (duo (weekP x)) ∧ w' = w := by
  by_cases hx : 1 ≤ x ∧ x ≤ 3652059
  · have HW := hide (show weekP x = ((x - 1) % 7 + 1, 0) by simp [weekP, hx])
    obtain ⟨h1, h2⟩ := hx
    go_enter Try.func21, Try.ntmps21
    go_wp2_with (go_at_call 33; refine (isDay_yes _ _ h1 h2).mono ?_; rintro e w1 ⟨rfl, rfl⟩)
    go_ret2
    exact ⟨by rw [HW.out]; rfl, rfl⟩
  · have HW := hide (show weekP x = (0, 31) by simp [weekP, hx])
    have HX := hide hx
    clear hx
    go_enter Try.func21, Try.ntmps21
    go_wp2_with (go_at_call 33; refine (isDay_no _ _ HX.out).mono ?_; rintro e w1 ⟨rfl, rfl⟩)
    go_ret2
    exact ⟨by rw [HW.out]; rfl, rfl⟩

set_option maxHeartbeats 400000 in
theorem refWeek_any (x : Int) (w : World) :
    Calls Try.prog 22 #[.int .i64 x] w fun e w' => e = .returned (duo (weekP x)) ∧ w' = w := by
  by_cases hx : 1 ≤ x ∧ x ≤ 3652059
  · have HW := hide (show weekP x = ((x - 1) % 7 + 1, 0) by simp [weekP, hx])
    obtain ⟨h1, h2⟩ := hx
    go_enter Try.func22, Try.ntmps22
    go_wp2
    go_ret2
    exact ⟨by rw [HW.out]; rfl, rfl⟩
  · have HW := hide (show weekP x = (0, 31) by simp [weekP, hx])
    by_cases h1 : 1 ≤ x
    · have h2 : 3652059 < x := by omega
      clear hx
      go_enter Try.func22, Try.ntmps22
      go_wp2
      go_ret2
      exact ⟨by rw [HW.out]; rfl, rfl⟩
    · clear hx
      go_enter Try.func22, Try.ntmps22
      go_wp2
      go_ret2
      exact ⟨by rw [HW.out]; rfl, rfl⟩

end Go.Proofs.Ytnafhjmeofddoaa
