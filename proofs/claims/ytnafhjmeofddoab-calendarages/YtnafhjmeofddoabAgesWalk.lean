/- CalendarAges, walked: whatever two days, it returns true. -/
import Derived.Test.YtnafhjmeofddoabAlive
import Derived.Test.YtnafhjmeofddoabAge
namespace Go.Proofs.Ytnafhjmeofddoab
open Go.RowKit

theorem age_self {y m d : Int} : ageP y m d y m d = 0 := by simp [ageP, aheadB]

theorem ageQ_self {x : Int} (h1 : 1 ≤ x) (h2 : x ≤ 3652059) : ageQ x x = (0, 0) := by
  obtain ⟨y, m, d, hd, rfl⟩ := day_of x h1 h2
  rw [ageQ_of hd hd, if_neg (by omega), age_self]

/-- A day on the age is the same or one more; it is never below 0. -/
theorem ageQ_next {x v : Int} (h1 : 1 ≤ x) (h : x ≤ v) (h2 : v < 3652059) : ∃ a c : Int, ageQ x v = (a, 0) ∧ ageQ x (v + 1) = (c, 0) ∧ 0 ≤ a ∧ a ≤ 10000 ∧ (c = a ∨ c = a + 1) := by
  obtain ⟨y, m, d, hd, rfl⟩ := day_of x h1 (by omega)
  obtain ⟨z, k, f, hv, rfl⟩ := day_of v (by omega) (by omega)
  have hn := next_num hv h2
  refine ⟨ageP y m d z k f, ageP y m d (nextD z k f).1 (nextD z k f).2.1 (nextD z k f).2.2, ?_, ?_, ?_⟩
  · rw [ageQ_of hd hv, if_neg (by omega)]
  · rw [← hn.2, ageQ_of hd hn.1, if_neg (by rw [hn.2]; omega)]
  · have hle := (hd.le_iff hv).1 h
    have hy1 := hd.y1
    have hz2 := hv.y2
    have hdm := hd.m1
    have hdm2 := hd.m2
    have hdd := hd.d1
    have hk2 := hv.m2
    have hf := hv.d2
    have hfl := mlen_pos z k
    have hdl := hd.d2
    have hdl2 := mlen_pos y m
    clear hn h
    unfold nextD
    split
    · next hc =>
      simp only [ageP, aheadB, decide_eq_true_eq]
      split <;> split <;> omega
    · split
      · next hc hm =>
        simp only [ageP, aheadB, decide_eq_true_eq]
        split <;> split <;> omega
      · next hc hm =>
        have h12 : k = 12 := by omega
        subst h12
        have h31 : mlen z 12 = 31 := mlen_dec z
        simp only [ageP, aheadB, decide_eq_true_eq]
        split <;> split <;> omega

set_option maxRecDepth 100000 in
set_option maxHeartbeats 800000 in
theorem ages_walk (x v : Int) (w : World) :
    Calls Try.prog 3 #[.int .i64 x, .int .i64 v] w fun e w' => e = .returned (.bool true) ∧ Below w.heap.size w w' := by
  by_cases hx : 1 ≤ x ∧ x ≤ 3652059
  · obtain ⟨h1, h2⟩ := hx
    have HS := hide (ageQ_self h1 h2)
    by_cases hlt : v < x
    · go_enter Try.func3, Try.ntmps3
      go_wp2_with fail
      refine (alive_any _).mono ?_
      rintro e w1 ⟨rfl, hb1⟩
      go_wp2_with fail
      refine (age_any _ _ _).mono ?_
      rintro e w2 ⟨rfl, hb2⟩
      rw [HS.out, duo]
      have hb12 := hb1.trans (hb2.mono hb1.size)
      clear hb1 hb2
      go_wp2_with (go_at_call 6; refine (num_any _ _).mono ?_; rintro e w' ⟨rfl, rfl⟩)
      go_ret
      exact ⟨rfl, hb12⟩
    · by_cases hl : 3652059 ≤ v
      · go_enter Try.func3, Try.ntmps3
        go_wp2_with fail
        refine (alive_any _).mono ?_
        rintro e w1 ⟨rfl, hb1⟩
        go_wp2_with fail
        refine (age_any _ _ _).mono ?_
        rintro e w2 ⟨rfl, hb2⟩
        rw [HS.out, duo]
        have hb12 := hb1.trans (hb2.mono hb1.size)
        clear hb1 hb2
        go_wp2_with (go_at_call 6; refine (num_any _ _).mono ?_; rintro e w' ⟨rfl, rfl⟩)
        go_ret
        exact ⟨rfl, hb12⟩
      · obtain ⟨a, c, ha, hc, ha0, ha1, hac⟩ := ageQ_next h1 (by omega) (show v < 3652059 by omega)
        have HA := hide ha
        have HC := hide hc
        clear ha hc
        have hv0 : 1 ≤ v := by omega
        have hv1 : v ≤ 3652059 := by omega
        rcases hac with rfl | rfl
        all_goals
          go_enter Try.func3, Try.ntmps3
          go_wp2_with fail
          refine (alive_any _).mono ?_
          rintro e w1 ⟨rfl, hb1⟩
          go_wp2_with fail
          refine (age_any _ _ _).mono ?_
          rintro e w2 ⟨rfl, hb2⟩
          rw [HS.out, duo]
          have hb12 := hb1.trans (hb2.mono hb1.size)
          clear hb1 hb2
          go_wp2_with (go_at_call 6; refine (num_any _ _).mono ?_; rintro e w' ⟨rfl, rfl⟩)
          refine (age_any _ _ _).mono ?_
          rintro e w3 ⟨rfl, hb3⟩
          rw [HA.out, duo]
          have hb13 := hb12.trans (hb3.mono hb12.size)
          clear hb12 hb3
          go_wp2_with fail
          refine (age_any _ _ _).mono ?_
          rintro e w4 ⟨rfl, hb4⟩
          rw [HC.out, duo]
          have hb14 := hb13.trans (hb4.mono hb13.size)
          clear hb13 hb4
          go_wp2_with (go_at_call 6; refine (num_any _ _).mono ?_; rintro e w' ⟨rfl, rfl⟩)
          go_ret
          exact ⟨rfl, hb14⟩
  · have HS := hide (ageQ_no (v := x) (.inl hx))
    by_cases h1 : x < 1
    · clear hx
      go_enter Try.func3, Try.ntmps3
      go_wp2_with fail
      refine (alive_any _).mono ?_
      rintro e w1 ⟨rfl, hb1⟩
      go_wp2_with fail
      refine (age_any _ _ _).mono ?_
      rintro e w2 ⟨rfl, hb2⟩
      rw [HS.out, duo]
      have hb12 := hb1.trans (hb2.mono hb1.size)
      clear hb1 hb2
      go_wp2_with (go_at_call 6; refine (num_any _ _).mono ?_; rintro e w' ⟨rfl, rfl⟩)
      go_ret
      exact ⟨rfl, hb12⟩
    · have h2 : 3652059 < x := by omega
      clear hx
      go_enter Try.func3, Try.ntmps3
      go_wp2_with fail
      refine (alive_any _).mono ?_
      rintro e w1 ⟨rfl, hb1⟩
      go_wp2_with fail
      refine (age_any _ _ _).mono ?_
      rintro e w2 ⟨rfl, hb2⟩
      rw [HS.out, duo]
      have hb12 := hb1.trans (hb2.mono hb1.size)
      clear hb1 hb2
      go_wp2_with (go_at_call 6; refine (num_any _ _).mono ?_; rintro e w' ⟨rfl, rfl⟩)
      go_ret
      exact ⟨rfl, hb12⟩

end Go.Proofs.Ytnafhjmeofddoab
