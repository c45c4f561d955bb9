/- CalendarRound, walked: whatever day, it returns true. -/
import Derived.Test.YtnafhjmeofddoaaAlive
namespace Go.Proofs.Ytnafhjmeofddoaa
open Go.RowKit

theorem weekP_in {x : Int} (h1 : 1 ≤ x) (h2 : x ≤ 3652059) : weekP x = ((x - 1) % 7 + 1, 0) := by simp [weekP, h1, h2]
theorem weekP_no {x : Int} (h : ¬ (1 ≤ x ∧ x ≤ 3652059)) : weekP x = (0, 31) := by rw [weekP, if_neg h]

theorem day_400 {y m d : Int} (h : Day y m d) (hx : numOf y m d + 146097 ≤ 3652059) : Day (y + 400) m d := by
  have hy : y + 400 ≤ 9999 := by
    rcases Int.lt_or_le y 9600 with h1 | h1
    · omega
    · have e : aheadY 9600 = 3505962 := by decide
      have := ahead_mono (y := 9600) (z := y) (by omega) h1
      have := h.inYear
      unfold numOf at hx
      omega
  exact ⟨by have := h.y1; omega, hy, h.m1, h.m2, h.d1, by rw [mlen_400]; exact h.d2⟩

set_option maxHeartbeats 800000 in
theorem round_walk (x : Int) (w : World) :
    Calls Try.prog 7 #[.int .i64 x] w fun e w' => e = .returned (.bool true) ∧ Below w.heap.size w w' := by
  by_cases hx : 1 ≤ x ∧ x ≤ 3652059
  · obtain ⟨h1, h2⟩ := hx
    have HW := hide (weekP_in h1 h2)
    generalize ha : (x - 1) % 7 + 1 = a at HW
    have ha1 : 1 ≤ a := by omega
    have ha7 : a ≤ 7 := by omega
    have HA := hide ha
    clear ha
    by_cases hl : x < 3652059
    · have HW1 := hide (weekP_in (x := x + 1) (by omega) (by omega))
      have hb : (x + 1 - 1) % 7 + 1 = a % 7 + 1 := by have := HA.out; omega
      rw [hb] at HW1
      clear hb
      by_cases hm : 3505962 < x
      · go_enter Try.func7, Try.ntmps7
        go_wp2_with fail
        refine (alive_any _).mono ?_
        rintro e w1 ⟨rfl, hb1⟩
        go_wp2_with fail
        refine (week_any _ _).mono ?_
        rintro e w2 ⟨rfl, rfl⟩
        rw [HW.out, duo]
        go_wp2_with (go_at_call 15; refine (num_any _ _).mono ?_; rintro e w' ⟨rfl, rfl⟩)
        refine (week_any _ _).mono ?_
        rintro e w3 ⟨rfl, rfl⟩
        rw [HW1.out, duo]
        go_wp2_with (go_at_call 15; refine (num_any _ _).mono ?_; rintro e w' ⟨rfl, rfl⟩)
        go_ret
        exact ⟨rfl, hb1⟩
      · obtain ⟨y, m, d, hd, he⟩ := day_of x h1 h2
        have HP := hide (partsP_of hd)
        have HP4 := hide (partsP_of (day_400 hd (by omega)))
        rw [num_400, he] at HP4
        rw [he] at HP
        have hy1 := hd.y1
        have hy2 := hd.y2
        have HW4 := hide (weekP_in (x := x + 146097) (by omega) (by omega))
        rw [show (x + 146097 - 1) % 7 + 1 = a by have := HA.out; omega] at HW4
        clear hd he
        go_enter Try.func7, Try.ntmps7
        go_wp2_with fail
        refine (alive_any _).mono ?_
        rintro e w1 ⟨rfl, hb1⟩
        go_wp2_with fail
        refine (week_any _ _).mono ?_
        rintro e w2 ⟨rfl, rfl⟩
        rw [HW.out, duo]
        go_wp2_with (go_at_call 15; refine (num_any _ _).mono ?_; rintro e w' ⟨rfl, rfl⟩)
        refine (week_any _ _).mono ?_
        rintro e w3 ⟨rfl, rfl⟩
        rw [HW1.out, duo]
        go_wp2_with (go_at_call 15; refine (num_any _ _).mono ?_; rintro e w' ⟨rfl, rfl⟩)
        refine (parts_any _ _).mono ?_
        rintro e w4 ⟨rfl, hb4⟩
        rw [HP.out, quad]
        have hb14 : Below w.heap.size w w4 := hb1.trans (hb4.mono hb1.size)
        clear hb1 hb4
        go_wp2_with fail
        refine (parts_any _ _).mono ?_
        rintro e w5 ⟨rfl, hb5⟩
        rw [HP4.out, quad]
        have hb15 : Below w.heap.size w w5 := hb14.trans (hb5.mono hb14.size)
        clear hb14 hb5
        go_wp2_with fail
        refine (week_any _ _).mono ?_
        rintro e w6 ⟨rfl, rfl⟩
        rw [HW4.out, duo]
        go_wp2
        go_ret
        exact ⟨rfl, hb15⟩
    · have hm : 3505962 < x := by omega
      go_enter Try.func7, Try.ntmps7
      go_wp2_with fail
      refine (alive_any _).mono ?_
      rintro e w1 ⟨rfl, hb1⟩
      go_wp2_with fail
      refine (week_any _ _).mono ?_
      rintro e w2 ⟨rfl, rfl⟩
      rw [HW.out, duo]
      go_wp2_with (go_at_call 15; refine (num_any _ _).mono ?_; rintro e w' ⟨rfl, rfl⟩)
      go_ret
      exact ⟨rfl, hb1⟩
  · have HW := hide (weekP_no hx)
    clear hx
    go_enter Try.func7, Try.ntmps7
    go_wp2_with fail
    refine (alive_any _).mono ?_
    rintro e w1 ⟨rfl, hb1⟩
    go_wp2_with fail
    refine (week_any _ _).mono ?_
    rintro e w2 ⟨rfl, rfl⟩
    rw [HW.out, duo]
    go_wp2_with (go_at_call 15; refine (num_any _ _).mono ?_; rintro e w' ⟨rfl, rfl⟩)
    go_ret
    exact ⟨rfl, hb1⟩

end Go.Proofs.Ytnafhjmeofddoaa
