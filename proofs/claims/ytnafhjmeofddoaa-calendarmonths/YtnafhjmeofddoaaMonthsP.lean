/- Months of a day, the program's. -/
import Derived.Test.YtnafhjmeofddoaaMonths
namespace Go.Proofs.Ytnafhjmeofddoaa
open Go.RowKit

/-- What Months answers of a day. -/
def monthsP (y m d n : Int) : Int × Int :=
  if 0 ≤ (y - 1) * 12 + m - 1 + n ∧ (y - 1) * 12 + m - 1 + n < 119988 then
    (numOf (((y - 1) * 12 + m - 1 + n) / 12 + 1) (((y - 1) * 12 + m - 1 + n) % 12 + 1) (cutD (((y - 1) * 12 + m - 1 + n) / 12 + 1) (((y - 1) * 12 + m - 1 + n) % 12 + 1) d), 0)
  else (0, 4)

theorem cut_day {y m d N : Int} (h : Day y m d) (h0 : 0 ≤ N) (h1 : N < 119988) : Day (N / 12 + 1) (N % 12 + 1) (cutD (N / 12 + 1) (N % 12 + 1) d) := by
  have := h.d1
  have := mlen_pos (N / 12 + 1) (N % 12 + 1)
  refine ⟨by omega, by omega, by omega, by omega, ?_, ?_⟩
  · unfold cutD; split <;> omega
  · unfold cutD; split <;> omega

set_option maxHeartbeats 800000 in
theorem monthsOf_any (y m d n : Int) (w : World) (h : Day y m d) :
    Calls Try.prog 23 #[.int .i64 (numOf y m d), .int .i64 n] w fun e w' => e = .returned (duo (monthsP y m d n)) ∧ Below w.heap.size w w' := by
  have hx := h.num_pos
  have HD := hide h
  have HC := hide (fun W => partsOf_any y m d W h)
  obtain ⟨h1, h2, h3, h4, h5, h6⟩ := h
  generalize numOf y m d = x at hx HC ⊢
  obtain ⟨hx1, hx2⟩ := hx
  have HM := hide (show monthsP y m d n = if 0 ≤ (y - 1) * 12 + m - 1 + n ∧ (y - 1) * 12 + m - 1 + n < 119988 then
    (numOf (((y - 1) * 12 + m - 1 + n) / 12 + 1) (((y - 1) * 12 + m - 1 + n) % 12 + 1) (cutD (((y - 1) * 12 + m - 1 + n) / 12 + 1) (((y - 1) * 12 + m - 1 + n) % 12 + 1) d), 0) else (0, 4) from rfl)
  generalize monthsP y m d n = r at HM ⊢
  obtain ⟨K, hK⟩ : ∃ K : Int, K = (y - 1) * 12 + m - 1 := ⟨_, rfl⟩
  rw [← hK] at HM
  have HK := hide hK.symm
  have hK0 : 0 ≤ K := by omega
  have hK1 : K ≤ 119987 := by omega
  have HMo := hide (fun W => months_any y m d W h1 h2 h3 h4)
  rw [HK.out] at HMo
  clear hK
  unfold aggD at HC HMo
  by_cases ha : n < -K
  · have HR : Hid (r = (0, 4)) := by unfold Hid; rw [HM.out, if_neg (by omega)]
    clear HM
    go_enter Try.func23, Try.ntmps23
    go_wp2_with fail
    refine (isDay_yes _ _ hx1 hx2).mono ?_
    rintro e w1 ⟨rfl, rfl⟩
    go_wp2_with fail
    refine (HC.out _).mono ?_
    rintro e w2 ⟨rfl, hb2⟩
    have HB := Box.mk (w := w2) (y := y) (m := m) (d := d)
    go_wp2_with fail
    have HB2 := hide hb2
    clear hb2
    generalize w2.alloc (.cells #[.int .i64 y, .int .i64 m, .int .i64 d] 53) = W at HB ⊢
    generalize hB : w2.heap.size = B at HB ⊢
    have HE := hide (show w1.heap.size ≤ B by rw [← hB]; exact HB2.out.size)
    clear hB
    refine (HMo.out _).mono ?_
    rintro e w3 ⟨rfl, hb3⟩
    have HB3 := hide (HB.below hb3)
    clear HB hb3
    have HB := HB3.out
    obtain ⟨c0, c1, c2, c3, c4⟩ := HB
    clear c3 c4
    go_wp2
    go_ret2
    exact ⟨by rw [HR.out]; rfl, HB2.out.trans (HB3.out.2.2.2.2.mono HE.out)⟩
  · by_cases hb : n < 119988 - K
    · have HR : Hid (r = (numOf ((K + n) / 12 + 1) ((K + n) % 12 + 1) (cutD ((K + n) / 12 + 1) ((K + n) % 12 + 1) d), 0)) := by unfold Hid; rw [HM.out, if_pos (by omega)]
      clear HM
      have HCD := hide (cut_day (N := K + n) HD.out (by omega) (by omega))
      have HSt := hide (fun W => stepped_any y m d n ((K + n) / 12 + 1) ((K + n) % 12 + 1) W HD.out (by rw [HK.out]; omega) (by rw [HK.out]; omega) (by rw [HK.out]) (by rw [HK.out]) (by omega) (by omega) (by omega) (by omega))
      generalize (K + n) / 12 + 1 = Y at *
      generalize (K + n) % 12 + 1 = M at *
      generalize cutD Y M d = E at *
      unfold aggD at HSt
      go_enter Try.func23, Try.ntmps23
      go_wp2_with fail
      refine (isDay_yes _ _ hx1 hx2).mono ?_
      rintro e w1 ⟨rfl, rfl⟩
      go_wp2_with fail
      refine (HC.out _).mono ?_
      rintro e w2 ⟨rfl, hb2⟩
      have HB := Box.mk (w := w2) (y := y) (m := m) (d := d)
      go_wp2_with fail
      have HB2 := hide hb2
      clear hb2
      generalize w2.alloc (.cells #[.int .i64 y, .int .i64 m, .int .i64 d] 53) = W at HB ⊢
      generalize hB : w2.heap.size = B at HB ⊢
      have HE := hide (show w1.heap.size ≤ B by rw [← hB]; exact HB2.out.size)
      clear hB
      refine (HMo.out _).mono ?_
      rintro e w3 ⟨rfl, hb3⟩
      have HB3 := hide (HB.below hb3)
      clear HB hb3
      have HB := HB3.out
      obtain ⟨c0, c1, c2, c3, c4⟩ := HB
      clear c3 c4
      go_wp2_with fail
      refine (HMo.out _).mono ?_
      rintro e w4 ⟨rfl, hb4⟩
      have HB4 := hide (HB3.out.below hb4)
      clear HB3 hb4 c0 c1 c2
      have HB := HB4.out
      obtain ⟨c0, c1, c2, c3, c4⟩ := HB
      clear c3 c4
      go_wp2_with fail
      refine (HSt.out _).mono ?_
      rintro e w5 ⟨rfl, hb5⟩
      have HB5 := hide (HB4.out.below hb5)
      clear HB4 hb5 c0 c1 c2
      go_wp2_with fail
      refine (date_any _ _ _ _ HCD.out).mono ?_
      rintro e w6 ⟨rfl, hb6⟩
      have HB6 := hide (HB5.out.below hb6)
      clear HB5 hb6
      go_wp2
      go_ret2
      exact ⟨by rw [HR.out]; rfl, HB2.out.trans (HB6.out.2.2.2.2.mono HE.out)⟩
    · have HR : Hid (r = (0, 4)) := by unfold Hid; rw [HM.out, if_neg (by omega)]
      clear HM
      go_enter Try.func23, Try.ntmps23
      go_wp2_with fail
      refine (isDay_yes _ _ hx1 hx2).mono ?_
      rintro e w1 ⟨rfl, rfl⟩
      go_wp2_with fail
      refine (HC.out _).mono ?_
      rintro e w2 ⟨rfl, hb2⟩
      have HB := Box.mk (w := w2) (y := y) (m := m) (d := d)
      go_wp2_with fail
      have HB2 := hide hb2
      clear hb2
      generalize w2.alloc (.cells #[.int .i64 y, .int .i64 m, .int .i64 d] 53) = W at HB ⊢
      generalize hB : w2.heap.size = B at HB ⊢
      have HE := hide (show w1.heap.size ≤ B by rw [← hB]; exact HB2.out.size)
      clear hB
      refine (HMo.out _).mono ?_
      rintro e w3 ⟨rfl, hb3⟩
      have HB3 := hide (HB.below hb3)
      clear HB hb3
      have HB := HB3.out
      obtain ⟨c0, c1, c2, c3, c4⟩ := HB
      clear c3 c4
      go_wp2_with fail
      refine (HMo.out _).mono ?_
      rintro e w4 ⟨rfl, hb4⟩
      have HB4 := hide (HB3.out.below hb4)
      clear HB3 hb4 c0 c1 c2
      have HB := HB4.out
      obtain ⟨c0, c1, c2, c3, c4⟩ := HB
      clear c3 c4
      go_wp2
      go_ret2
      exact ⟨by rw [HR.out]; rfl, HB2.out.trans (HB4.out.2.2.2.2.mono HE.out)⟩

/-- What Months answers. -/
noncomputable def monthsQ (x n : Int) : Int × Int := if (partsP x).2.2.2 = 0 then monthsP (partsP x).1 (partsP x).2.1 (partsP x).2.2.1 n else (0, 31)

theorem monthsQ_of {y m d : Int} (h : Day y m d) (n : Int) : monthsQ (numOf y m d) n = monthsP y m d n := by
  unfold monthsQ; rw [partsP_of h]; simp

theorem monthsQ_no {x : Int} (h : ¬ (1 ≤ x ∧ x ≤ 3652059)) (n : Int) : monthsQ x n = (0, 31) := by
  unfold monthsQ; rw [partsP_no h]; simp

set_option maxHeartbeats 400000 in
theorem monthsQ_any (x n : Int) (w : World) :
    Calls Try.prog 23 #[.int .i64 x, .int .i64 n] w fun e w' => e = .returned (duo (monthsQ x n)) ∧ Below w.heap.size w w' := by
  by_cases hx : 1 ≤ x ∧ x ≤ 3652059
  · obtain ⟨y, m, d, hd, he⟩ := day_of x hx.1 hx.2
    subst he
    rw [monthsQ_of hd]
    exact monthsOf_any y m d n w hd
  · have HP := hide (monthsQ_no hx n)
    have HX := hide hx
    clear hx
    go_enter Try.func23, Try.ntmps23
    go_wp2_with fail
    refine (isDay_no _ _ HX.out).mono ?_
    rintro e w1 ⟨rfl, rfl⟩
    go_wp2
    go_ret2
    exact ⟨by rw [HP.out]; rfl, Below.refl _ _⟩

theorem ofP_cut {y m d N : Int} (h : Day y m d) (h0 : 0 ≤ N) (h1 : N < 119988) : ofP (N / 12 + 1) (N % 12 + 1) (cutD (N / 12 + 1) (N % 12 + 1) d) = (numOf (N / 12 + 1) (N % 12 + 1) (cutD (N / 12 + 1) (N % 12 + 1) d), 0) := by
  rw [ofP, if_pos (cut_day h h0 h1)]

set_option maxHeartbeats 800000 in
theorem refMonths_any (x n : Int) (w : World) :
    Calls Try.prog 24 #[.int .i64 x, .int .i64 n] w fun e w' => e = .returned (duo (monthsQ x n)) ∧ w' = w := by
  by_cases hx : 1 ≤ x ∧ x ≤ 3652059
  · obtain ⟨y, m, d, hd, he⟩ := day_of x hx.1 hx.2
    have HP := hide (partsP_of hd)
    have HM := hide (show monthsQ (numOf y m d) n = if 0 ≤ (y - 1) * 12 + m - 1 + n ∧ (y - 1) * 12 + m - 1 + n < 119988 then
      (numOf (((y - 1) * 12 + m - 1 + n) / 12 + 1) (((y - 1) * 12 + m - 1 + n) % 12 + 1) (cutD (((y - 1) * 12 + m - 1 + n) / 12 + 1) (((y - 1) * 12 + m - 1 + n) % 12 + 1) d), 0) else (0, 4) from by rw [monthsQ_of hd]; rfl)
    rw [he] at HP HM
    have HD := hide hd
    obtain ⟨h1, h2, h3, h4, h5, h6⟩ := hd
    have hml := mlen_pos y m
    generalize monthsQ x n = r at HM ⊢
    clear he hx
    by_cases ha : n < -120000 ∨ 120000 < n
    · have HR : Hid (r = (0, 4)) := by unfold Hid; rw [HM.out, if_neg (by omega)]
      clear HM HD
      by_cases hb : n < -120000
      · clear ha
        go_enter Try.func24, Try.ntmps24
        go_wp2_with fail
        refine (refParts_any _ _).mono ?_
        rintro e w1 ⟨rfl, rfl⟩
        rw [HP.out, quad]
        go_wp2
        go_ret2
        exact ⟨by rw [HR.out]; rfl, rfl⟩
      · have hc : 120000 < n := by omega
        clear ha
        go_enter Try.func24, Try.ntmps24
        go_wp2_with fail
        refine (refParts_any _ _).mono ?_
        rintro e w1 ⟨rfl, rfl⟩
        rw [HP.out, quad]
        go_wp2
        go_ret2
        exact ⟨by rw [HR.out]; rfl, rfl⟩
    · have ha1 : -120000 ≤ n := by omega
      have ha2 : n ≤ 120000 := by omega
      clear ha
      by_cases hb : y * 12 + m - 1 + n < 12
      · have HR : Hid (r = (0, 4)) := by unfold Hid; rw [HM.out, if_neg (by omega)]
        clear HM HD
        go_enter Try.func24, Try.ntmps24
        go_wp2_with fail
        refine (refParts_any _ _).mono ?_
        rintro e w1 ⟨rfl, rfl⟩
        rw [HP.out, quad]
        go_wp2
        go_ret2
        exact ⟨by rw [HR.out]; rfl, rfl⟩
      · by_cases hc : 120000 ≤ y * 12 + m - 1 + n
        · have HR : Hid (r = (0, 4)) := by unfold Hid; rw [HM.out, if_neg (by omega)]
          clear HM HD
          go_enter Try.func24, Try.ntmps24
          go_wp2_with fail
          refine (refParts_any _ _).mono ?_
          rintro e w1 ⟨rfl, rfl⟩
          rw [HP.out, quad]
          go_wp2
          go_ret2
          exact ⟨by rw [HR.out]; rfl, rfl⟩
        · have e1 : (y * 12 + m - 1 + n) / 12 = ((y - 1) * 12 + m - 1 + n) / 12 + 1 := by omega
          have e2 : (y * 12 + m - 1 + n) % 12 + 1 = ((y - 1) * 12 + m - 1 + n) % 12 + 1 := by omega
          have HO := hide (ofP_cut (N := (y - 1) * 12 + m - 1 + n) HD.out (by omega) (by omega))
          have HR : Hid (r = ofP (((y - 1) * 12 + m - 1 + n) / 12 + 1) (((y - 1) * 12 + m - 1 + n) % 12 + 1) (cutD (((y - 1) * 12 + m - 1 + n) / 12 + 1) (((y - 1) * 12 + m - 1 + n) % 12 + 1) d)) := by unfold Hid; rw [HO.out, HM.out, if_pos (by omega)]
          clear HM HD HO
          have hY1 : 1 ≤ ((y - 1) * 12 + m - 1 + n) / 12 + 1 ∧ ((y - 1) * 12 + m - 1 + n) / 12 + 1 ≤ 9999 := by omega
          have hM1 : 1 ≤ ((y - 1) * 12 + m - 1 + n) % 12 + 1 ∧ ((y - 1) * 12 + m - 1 + n) % 12 + 1 ≤ 12 := by omega
          generalize ((y - 1) * 12 + m - 1 + n) / 12 + 1 = Y at *
          generalize ((y - 1) * 12 + m - 1 + n) % 12 + 1 = M at *
          have hml' := mlen_pos Y M
          have HE1 := hide e1
          have HE2 := hide e2
          clear e1 e2
          obtain ⟨a, b, hr⟩ : ∃ a b, r = (a, b) := ⟨_, _, rfl⟩
          rw [hr] at HR ⊢
          clear hr
          by_cases hcut : mlen Y M < d
          · have HC := hide (show cutD Y M d = mlen Y M by unfold cutD; rw [if_pos hcut])
            rw [HC.out] at HR
            go_enter Try.func24, Try.ntmps24
            go_wp2_with fail
            refine (refParts_any _ _).mono ?_
            rintro e w1 ⟨rfl, rfl⟩
            rw [HP.out, quad]
            have e1 := HE1.out
            have e2 := HE2.out
            go_wp2_with (go_at_call 30; refine (days_any _ _ _ (by omega) (by omega) (by omega) (by omega)).mono ?_; rintro e w' ⟨rfl, rfl⟩)
            refine (refOf_any _ _ _ _).mono ?_
            rintro e w2 ⟨rfl, rfl⟩
            rw [← HR.out, duo]
            go_wp2
            go_ret2
            exact ⟨rfl, rfl⟩
          · have HC := hide (show cutD Y M d = d by unfold cutD; rw [if_neg hcut])
            rw [HC.out] at HR
            go_enter Try.func24, Try.ntmps24
            go_wp2_with fail
            refine (refParts_any _ _).mono ?_
            rintro e w1 ⟨rfl, rfl⟩
            rw [HP.out, quad]
            have e1 := HE1.out
            have e2 := HE2.out
            go_wp2_with (go_at_call 30; refine (days_any _ _ _ (by omega) (by omega) (by omega) (by omega)).mono ?_; rintro e w' ⟨rfl, rfl⟩)
            refine (refOf_any _ _ _ _).mono ?_
            rintro e w2 ⟨rfl, rfl⟩
            rw [← HR.out, duo]
            go_wp2
            go_ret2
            exact ⟨rfl, rfl⟩
  · have HP := hide (monthsQ_no hx n)
    have HPP := hide (partsP_no hx)
    clear hx
    go_enter Try.func24, Try.ntmps24
    go_wp2_with fail
    refine (refParts_any _ _).mono ?_
    rintro e w1 ⟨rfl, rfl⟩
    rw [HPP.out, quad]
    go_wp2
    go_ret2
    exact ⟨by rw [HP.out]; rfl, rfl⟩

end Go.Proofs.Ytnafhjmeofddoaa
