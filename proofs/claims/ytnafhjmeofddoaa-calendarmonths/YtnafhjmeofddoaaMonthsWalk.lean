/- CalendarMonths, walked: whatever day and whatever numbers, it returns true. -/
import Derived.Test.YtnafhjmeofddoaaMonthsP
namespace Go.Proofs.Ytnafhjmeofddoaa
open Go.RowKit

theorem months_none {y m d : Int} (h : Day y m d) : monthsP y m d 0 = (numOf y m d, 0) := by
  obtain ⟨h1, h2, h3, h4, h5, h6⟩ := h
  unfold monthsP
  rw [if_pos (by omega), show ((y - 1) * 12 + m - 1 + 0) / 12 + 1 = y by omega, show ((y - 1) * 12 + m - 1 + 0) % 12 + 1 = m by omega]
  rw [show cutD y m d = d by unfold cutD; rw [if_neg (by omega)]]

theorem cut_small {Y M d : Int} (h : d ≤ 28) : cutD Y M d = d := by
  have := mlen_pos Y M
  unfold cutD; rw [if_neg (by omega)]

/-- By one number and then by another is by both. -/
theorem months_twice {y m d a : Int} (h : Day y m d) (hd : d ≤ 28) : (monthsP y m d a = (0, 4)) ∨ (∃ p, monthsP y m d a = (p, 0) ∧ ∀ b, monthsQ p b = monthsP y m d (a + b)) := by
  by_cases hr : 0 ≤ (y - 1) * 12 + m - 1 + a ∧ (y - 1) * 12 + m - 1 + a < 119988
  · right
    have hD := cut_day (N := (y - 1) * 12 + m - 1 + a) h hr.1 hr.2
    refine ⟨_, by unfold monthsP; rw [if_pos hr], fun b => ?_⟩
    rw [monthsQ_of hD]
    rw [cut_small hd]
    unfold monthsP
    rw [cut_small hd, cut_small hd]
    generalize hN : (y - 1) * 12 + m - 1 + a = N
    rw [show (N / 12 + 1 - 1) * 12 + (N % 12 + 1) - 1 + b = N + b by omega, show (y - 1) * 12 + m - 1 + (a + b) = N + b by omega]
  · left
    unfold monthsP; rw [if_neg hr]

set_option maxHeartbeats 800000 in
theorem months_walk (x a b : Int) (w : World) :
    Calls Try.prog 8 #[.int .i64 x, .int .i64 a, .int .i64 b] w fun e w' => e = .returned (.bool true) ∧ Below w.heap.size w w' := by
  by_cases hx : 1 ≤ x ∧ x ≤ 3652059
  · obtain ⟨y, m, d, hd, he⟩ := day_of x hx.1 hx.2
    have HP := hide (partsP_of hd)
    have HM0 := hide ((monthsQ_of hd 0).trans (months_none hd))
    have HMa := hide (monthsQ_of hd a)
    have HMab := hide (monthsQ_of hd (a + b))
    have HT : Hid (d ≤ 28 → (monthsP y m d a = (0, 4)) ∨ (∃ p, monthsP y m d a = (p, 0) ∧ ∀ b, monthsQ p b = monthsP y m d (a + b))) := fun h => months_twice hd h
    rw [he] at HP HM0 HMa HMab
    clear hd he hx
    by_cases hc : d ≤ 28 ∧ -200000 ≤ a ∧ a ≤ 200000 ∧ -200000 ≤ b ∧ b ≤ 200000
    · obtain ⟨h1, h2, h3, h4, h5⟩ := hc
      rcases HT.out h1 with ht | ⟨p, ht, htb⟩
      · have HA := hide (HMa.out.trans ht)
        clear HT ht HMa HMab
        go_enter Try.func8, Try.ntmps8
        go_wp2_with fail
        refine (alive_any _).mono ?_
        rintro e w1 ⟨rfl, hb1⟩
        go_wp2_with fail
        refine (parts_any _ _).mono ?_
        rintro e w2 ⟨rfl, hb2⟩
        rw [HP.out, quad]
        have hb12 : Below w.heap.size w w2 := hb1.trans (hb2.mono hb1.size)
        clear hb1 hb2
        go_wp2_with (go_at_call 15; refine (num_any _ _).mono ?_; rintro e w' ⟨rfl, rfl⟩)
        refine (monthsQ_any _ _ _).mono ?_
        rintro e w3 ⟨rfl, hb3⟩
        rw [HM0.out, duo]
        have hb13 := hb12.trans (hb3.mono hb12.size)
        clear hb12 hb3
        go_wp2_with (go_at_call 15; refine (num_any _ _).mono ?_; rintro e w' ⟨rfl, rfl⟩)
        refine (monthsQ_any _ _ _).mono ?_
        rintro e w4 ⟨rfl, hb4⟩
        rw [HA.out, duo]
        have hb14 := hb13.trans (hb4.mono hb13.size)
        clear hb13 hb4
        go_wp2_with (go_at_call 15; refine (num_any _ _).mono ?_; rintro e w' ⟨rfl, rfl⟩)
        go_ret
        exact ⟨rfl, hb14⟩
      · have HA := hide (HMa.out.trans ht)
        obtain ⟨r1, r2, hr⟩ : ∃ r1 r2, monthsP y m d (a + b) = (r1, r2) := ⟨_, _, rfl⟩
        have HB := hide ((htb b).trans hr)
        have HC := hide (HMab.out.trans hr)
        clear HT ht HMa HMab htb hr
        go_enter Try.func8, Try.ntmps8
        go_wp2_with fail
        refine (alive_any _).mono ?_
        rintro e w1 ⟨rfl, hb1⟩
        go_wp2_with fail
        refine (parts_any _ _).mono ?_
        rintro e w2 ⟨rfl, hb2⟩
        rw [HP.out, quad]
        have hb12 : Below w.heap.size w w2 := hb1.trans (hb2.mono hb1.size)
        clear hb1 hb2
        go_wp2_with (go_at_call 15; refine (num_any _ _).mono ?_; rintro e w' ⟨rfl, rfl⟩)
        refine (monthsQ_any _ _ _).mono ?_
        rintro e w3 ⟨rfl, hb3⟩
        rw [HM0.out, duo]
        have hb13 := hb12.trans (hb3.mono hb12.size)
        clear hb12 hb3
        go_wp2_with (go_at_call 15; refine (num_any _ _).mono ?_; rintro e w' ⟨rfl, rfl⟩)
        refine (monthsQ_any _ _ _).mono ?_
        rintro e w4 ⟨rfl, hb4⟩
        rw [HA.out, duo]
        have hb14 := hb13.trans (hb4.mono hb13.size)
        clear hb13 hb4
        go_wp2_with (go_at_call 15; refine (num_any _ _).mono ?_; rintro e w' ⟨rfl, rfl⟩)
        refine (monthsQ_any _ _ _).mono ?_
        rintro e w5 ⟨rfl, hb5⟩
        rw [HB.out, duo]
        have hb15 := hb14.trans (hb5.mono hb14.size)
        clear hb14 hb5
        go_wp2_with fail
        refine (monthsQ_any _ _ _).mono ?_
        rintro e w6 ⟨rfl, hb6⟩
        rw [HC.out, duo]
        have hb16 := hb15.trans (hb6.mono hb15.size)
        clear hb15 hb6
        go_wp2
        go_ret
        exact ⟨rfl, hb16⟩
    · have hc5 : 28 < d ∨ (d ≤ 28 ∧ a < -200000) ∨ (d ≤ 28 ∧ -200000 ≤ a ∧ 200000 < a) ∨ (d ≤ 28 ∧ -200000 ≤ a ∧ a ≤ 200000 ∧ b < -200000) ∨ (d ≤ 28 ∧ -200000 ≤ a ∧ a ≤ 200000 ∧ -200000 ≤ b ∧ 200000 < b) := by omega
      clear hc HT HMa HMab
      rcases hc5 with h1 | ⟨h1, h2⟩ | ⟨h1, h2, h3⟩ | ⟨h1, h2, h3, h4⟩ | ⟨h1, h2, h3, h4, h5⟩
      all_goals
        go_enter Try.func8, Try.ntmps8
        go_wp2_with fail
        refine (alive_any _).mono ?_
        rintro e w1 ⟨rfl, hb1⟩
        go_wp2_with fail
        refine (parts_any _ _).mono ?_
        rintro e w2 ⟨rfl, hb2⟩
        rw [HP.out, quad]
        have hb12 : Below w.heap.size w w2 := hb1.trans (hb2.mono hb1.size)
        clear hb1 hb2
        go_wp2_with (go_at_call 15; refine (num_any _ _).mono ?_; rintro e w' ⟨rfl, rfl⟩)
        refine (monthsQ_any _ _ _).mono ?_
        rintro e w3 ⟨rfl, hb3⟩
        rw [HM0.out, duo]
        have hb13 := hb12.trans (hb3.mono hb12.size)
        clear hb12 hb3
        go_wp2_with (go_at_call 15; refine (num_any _ _).mono ?_; rintro e w' ⟨rfl, rfl⟩)
        go_ret
        exact ⟨rfl, hb13⟩
  · have HP := hide (partsP_no hx)
    clear hx
    go_enter Try.func8, Try.ntmps8
    go_wp2_with fail
    refine (alive_any _).mono ?_
    rintro e w1 ⟨rfl, hb1⟩
    go_wp2_with fail
    refine (parts_any _ _).mono ?_
    rintro e w2 ⟨rfl, hb2⟩
    rw [HP.out, quad]
    have hb12 : Below w.heap.size w w2 := hb1.trans (hb2.mono hb1.size)
    clear hb1 hb2
    go_wp2_with (go_at_call 15; refine (num_any _ _).mono ?_; rintro e w' ⟨rfl, rfl⟩)
    go_ret
    exact ⟨rfl, hb12⟩

end Go.Proofs.Ytnafhjmeofddoaa
