/- CalendarTexts, walked: whatever text and whatever day, it returns true. -/
import Derived.Test.YtnafhjmeofddoaaParse
import Derived.Test.YtnafhjmeofddoaaPrint
import Derived.Test.YtnafhjmeofddoaaAlive
namespace Go.Proofs.Ytnafhjmeofddoaa
open Go.RowKit

set_option maxHeartbeats 400000 in
theorem texts_walk (t : ByteArray) (x : Int) (w : World) :
    Calls Try.prog 4 #[.string t, .int .i64 x] w fun e w' => e = .returned (.bool true) ∧ Below w.heap.size w w' := by
  generalize hr : parseQ t = r
  obtain ⟨r1, r2⟩ := r
  have HO := hide hr
  clear hr
  generalize hs : printP x = s
  obtain ⟨s1, s2⟩ := s
  have HS := hide hs
  clear hs
  go_enter Try.func4, Try.ntmps4
  go_wp2_with fail
  refine (parse_any _ _).mono ?_
  rintro e w1 ⟨rfl, hb1⟩
  rw [HO.out, duo]
  go_wp2_with fail
  refine (refParse_any _ _).mono ?_
  rintro e w2 ⟨rfl, n, rfl⟩
  rw [HO.out, duo]
  have hb2 := hb1.trans (drewN_below w1 n _)
  clear hb1
  go_wp2_with fail
  refine (print_any _ _).mono ?_
  rintro e w3 ⟨rfl, hb3⟩
  rw [HS.out, duoS]
  have hb13 := hb2.trans (hb3.mono hb2.size)
  clear hb2 hb3
  go_wp2_with fail
  refine (refPrint_any _ _).mono ?_
  rintro e w4 ⟨rfl, hb4⟩
  rw [HS.out, duoS]
  have hb14 := hb13.trans (hb4.mono hb13.size)
  clear hb13 hb4
  go_wp2_with (go_at_call 15; refine (num_any _ _).mono ?_; rintro e w' ⟨rfl, rfl⟩)
  refine (alive_any _).mono ?_
  rintro e w8 ⟨rfl, hb8⟩
  have hb18 := hb14.trans (hb8.mono hb14.size)
  clear hb14 hb8
  go_wp2
  go_ret
  exact ⟨rfl, hb18⟩

end Go.Proofs.Ytnafhjmeofddoaa
