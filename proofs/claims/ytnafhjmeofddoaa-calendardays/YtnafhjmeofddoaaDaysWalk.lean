/- CalendarDays, walked: whatever numbers and whatever day, it returns true. -/
import Derived.Test.YtnafhjmeofddoaaAlive
namespace Go.Proofs.Ytnafhjmeofddoaa
open Go.RowKit

set_option maxHeartbeats 400000 in
theorem days_walk (y m d x : Int) (w : World) :
    Calls Try.prog 3 #[.int .i64 y, .int .i64 m, .int .i64 d, .int .i64 x] w fun e w' => e = .returned (.bool true) ∧ Below w.heap.size w w' := by
  generalize hr : ofP y m d = r
  obtain ⟨r1, r2⟩ := r
  have HO := hide hr
  clear hr
  generalize hs : daysP y m = s
  obtain ⟨s1, s2⟩ := s
  have HS := hide hs
  clear hs
  generalize ht : partsP x = t
  obtain ⟨t1, t2, t3, t4⟩ := t
  have HT := hide ht
  clear ht
  go_enter Try.func3, Try.ntmps3
  go_wp2_with fail
  refine (of_any _ _ _ _).mono ?_
  rintro e w1 ⟨rfl, hb1⟩
  rw [HO.out, duo]
  go_wp2_with fail
  refine (refOf_any _ _ _ _).mono ?_
  rintro e w2 ⟨rfl, rfl⟩
  rw [HO.out, duo]
  go_wp2_with fail
  refine (daysOf_any _ _ _).mono ?_
  rintro e w3 ⟨rfl, hb3⟩
  rw [HS.out, duo]
  have hb13 : Below w.heap.size w w3 := hb1.trans (hb3.mono hb1.size)
  clear hb1 hb3
  go_wp2_with fail
  refine (refDays_any _ _ _).mono ?_
  rintro e w4 ⟨rfl, rfl⟩
  rw [HS.out, duo]
  go_wp2_with fail
  refine (parts_any _ _).mono ?_
  rintro e w5 ⟨rfl, hb5⟩
  rw [HT.out, quad]
  have hb15 : Below w.heap.size w w5 := hb13.trans (hb5.mono hb13.size)
  clear hb13 hb5
  go_wp2_with fail
  refine (refParts_any _ _).mono ?_
  rintro e w6 ⟨rfl, rfl⟩
  rw [HT.out, quad]
  go_wp2_with (go_at_call 15; refine (num_any _ _).mono ?_; rintro e w' ⟨rfl, rfl⟩)
  refine (alive_any _).mono ?_
  rintro e w8 ⟨rfl, hb8⟩
  have hb18 : Below w.heap.size w w8 := hb15.trans (hb8.mono hb15.size)
  clear hb15 hb8
  go_wp2
  go_ret
  exact ⟨rfl, hb18⟩

end Go.Proofs.Ytnafhjmeofddoaa
