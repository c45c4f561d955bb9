/- CalendarGoes, walked: whatever days and whatever number of months, it returns true. -/
import Derived.Test.YtnafhjmeofddoaaMonthsP
import Derived.Test.YtnafhjmeofddoaaAge
namespace Go.Proofs.Ytnafhjmeofddoaa
open Go.RowKit

set_option maxHeartbeats 400000 in
theorem goes_walk (x v n : Int) (w : World) :
    Calls Try.prog 5 #[.int .i64 x, .int .i64 v, .int .i64 n] w fun e w' => e = .returned (.bool true) ∧ Below w.heap.size w w' := by
  generalize hr : weekP x = r
  obtain ⟨r1, r2⟩ := r
  have HO := hide hr
  clear hr
  generalize hs : monthsQ x n = s
  obtain ⟨s1, s2⟩ := s
  have HS := hide hs
  clear hs
  generalize ht : ageQ x v = t
  obtain ⟨t1, t2⟩ := t
  have HT := hide ht
  clear ht
  go_enter Try.func5, Try.ntmps5
  go_wp2_with fail
  refine (week_any _ _).mono ?_
  rintro e w1 ⟨rfl, rfl⟩
  rw [HO.out, duo]
  go_wp2_with fail
  refine (refWeek_any _ _).mono ?_
  rintro e w2 ⟨rfl, rfl⟩
  rw [HO.out, duo]
  go_wp2_with fail
  refine (monthsQ_any _ _ _).mono ?_
  rintro e w3 ⟨rfl, hb3⟩
  rw [HS.out, duo]
  go_wp2_with fail
  refine (refMonths_any _ _ _).mono ?_
  rintro e w4 ⟨rfl, rfl⟩
  rw [HS.out, duo]
  go_wp2_with fail
  refine (age_any _ _ _).mono ?_
  rintro e w5 ⟨rfl, hb5⟩
  rw [HT.out, duo]
  have hb15 := hb3.trans (hb5.mono hb3.size)
  clear hb3 hb5
  go_wp2_with fail
  refine (refAge_any _ _ _).mono ?_
  rintro e w6 ⟨rfl, rfl⟩
  rw [HT.out, duo]
  go_wp2_with (go_at_call 15; refine (num_any _ _).mono ?_; rintro e w' ⟨rfl, rfl⟩)
  refine (alive_any _).mono ?_
  rintro e w8 ⟨rfl, hb8⟩
  have hb18 := hb15.trans (hb8.mono hb15.size)
  clear hb15 hb8
  go_wp2
  go_ret
  exact ⟨rfl, hb18⟩

end Go.Proofs.Ytnafhjmeofddoaa
