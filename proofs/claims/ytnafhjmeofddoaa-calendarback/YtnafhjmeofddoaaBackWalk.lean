/- CalendarBack, walked: whatever day, it returns true. -/
import Derived.Test.YtnafhjmeofddoaaParse
import Derived.Test.YtnafhjmeofddoaaAlive
namespace Go.Proofs.Ytnafhjmeofddoaa
open Go.RowKit

theorem date_size (y m d : Int) : (strOfNums (dateB y m d)).size = 10 := by rw [strOfNums_size]; rfl

theorem u8_int (a : Int) (h0 : 0 ≤ a) (h1 : a ≤ 255) : ((UInt8.ofNat a.toNat).toNat : Int) = a := by
  rw [UInt8.toNat_ofNat']; omega

theorem isD_of (a : Int) (h0 : 0 ≤ a) (h1 : a ≤ 9) : isD (UInt8.ofNat (48 + a).toNat) := by
  unfold isD; rw [u8_int _ (by omega) (by omega)]; omega

theorem num_four (a b c d : Int) (ha : 0 ≤ a ∧ a ≤ 9) (hb : 0 ≤ b ∧ b ≤ 9) (hc : 0 ≤ c ∧ c ≤ 9) (hd : 0 ≤ d ∧ d ≤ 9) :
    numberP [UInt8.ofNat (48 + a).toNat, UInt8.ofNat (48 + b).toNat, UInt8.ofNat (48 + c).toNat, UInt8.ofNat (48 + d).toNat] = a * 1000 + b * 100 + c * 10 + d := by
  rw [numberP_all (by intro x hx; simp only [List.mem_cons, List.not_mem_nil, or_false] at hx; rcases hx with rfl | rfl | rfl | rfl <;> exact isD_of _ (by omega) (by omega))]
  simp only [valD, List.foldl]
  rw [u8_int _ (by omega) (by omega), u8_int _ (by omega) (by omega), u8_int _ (by omega) (by omega), u8_int _ (by omega) (by omega)]
  omega

theorem num_two (a b : Int) (ha : 0 ≤ a ∧ a ≤ 9) (hb : 0 ≤ b ∧ b ≤ 9) :
    numberP [UInt8.ofNat (48 + a).toNat, UInt8.ofNat (48 + b).toNat] = a * 10 + b := by
  rw [numberP_all (by intro x hx; simp only [List.mem_cons, List.not_mem_nil, or_false] at hx; rcases hx with rfl | rfl <;> exact isD_of _ (by omega) (by omega))]
  simp only [valD, List.foldl]
  rw [u8_int _ (by omega) (by omega), u8_int _ (by omega) (by omega)]
  omega

/-- A day's text is read as the day. -/
theorem parse_print {y m d : Int} (h : Day y m d) : parseQ (strOfNums (dateB y m d)) = (numOf y m d, 0) := by
  rw [← parse_plain _ (date_size y m d) rfl rfl]
  have h' := h
  obtain ⟨h1, h2, h3, h4, h5, h6⟩ := h
  have hml := mlen_pos y m
  have e1 : numberP (List.take 4 (strOfNums (dateB y m d)).data.toList) = y := by
    refine (num_four (y / 1000) (y / 100 % 10) (y / 10 % 10) (y % 10) ?_ ?_ ?_ ?_).trans ?_ <;> omega
  have e2 : numberP (List.take 2 (List.drop 5 (strOfNums (dateB y m d)).data.toList)) = m := by
    refine (num_two (m / 10) (m % 10) ?_ ?_).trans ?_ <;> omega
  have e3 : numberP (List.take 2 (List.drop 8 (strOfNums (dateB y m d)).data.toList)) = d := by
    refine (num_two (d / 10) (d % 10) ?_ ?_).trans ?_ <;> omega
  rw [e1, e2, e3]
  unfold ofP
  rw [if_pos h']

theorem ofP_of {y m d : Int} (h : Day y m d) : ofP y m d = (numOf y m d, 0) := by unfold ofP; rw [if_pos h]
theorem daysP_of {y m d : Int} (h : Day y m d) : daysP y m = (mlen y m, 0) := by unfold daysP; rw [if_pos ⟨h.y1, h.y2, h.m1, h.m2⟩]
theorem day_last : Day 9999 12 31 := ⟨by omega, by omega, by omega, by omega, by omega, by decide⟩

set_option maxRecDepth 100000 in
set_option maxHeartbeats 800000 in
theorem back_no (x : Int) (w : World) (hx : ¬ (1 ≤ x ∧ x ≤ 3652059)) :
    Calls Try.prog 6 #[.int .i64 x] w fun e w' => e = .returned (.bool true) ∧ Below w.heap.size w w' := by
  have HP := hide (partsP_no hx)
  have HS := hide (printP_no hx)
  by_cases h1 : x < 1
  · clear hx
    go_enter Try.func6, Try.ntmps6
    go_wp2_with fail
    refine (alive_any _).mono ?_
    rintro e w1 ⟨rfl, hb1⟩
    go_wp2_with fail
    refine (parts_any _ _).mono ?_
    rintro e w2 ⟨rfl, hb2⟩
    rw [HP.out, quad]
    have hb12 := hb1.trans (hb2.mono hb1.size)
    clear hb1 hb2
    go_wp2_with (go_at_call 15; refine (num_any _ _).mono ?_; rintro e w' ⟨rfl, rfl⟩)
    refine (print_any _ _).mono ?_
    rintro e w3 ⟨rfl, hb3⟩
    rw [HS.out, duoS]
    have hb13 := hb12.trans (hb3.mono hb12.size)
    clear hb12 hb3
    go_wp2_with (go_at_call 15; refine (num_any _ _).mono ?_; rintro e w' ⟨rfl, rfl⟩)
    go_ret
    exact ⟨rfl, hb13⟩
  · have h2 : 3652059 < x := by omega
    clear hx
    go_enter Try.func6, Try.ntmps6
    go_wp2_with fail
    refine (alive_any _).mono ?_
    rintro e w1 ⟨rfl, hb1⟩
    go_wp2_with fail
    refine (parts_any _ _).mono ?_
    rintro e w2 ⟨rfl, hb2⟩
    rw [HP.out, quad]
    have hb12 := hb1.trans (hb2.mono hb1.size)
    clear hb1 hb2
    go_wp2_with (go_at_call 15; refine (num_any _ _).mono ?_; rintro e w' ⟨rfl, rfl⟩)
    refine (print_any _ _).mono ?_
    rintro e w3 ⟨rfl, hb3⟩
    rw [HS.out, duoS]
    have hb13 := hb12.trans (hb3.mono hb12.size)
    clear hb12 hb3
    go_wp2_with (go_at_call 15; refine (num_any _ _).mono ?_; rintro e w' ⟨rfl, rfl⟩)
    go_ret
    exact ⟨rfl, hb13⟩

set_option maxRecDepth 100000 in
set_option maxHeartbeats 800000 in
theorem back_last (w : World) :
    Calls Try.prog 6 #[.int .i64 3652059] w fun e w' => e = .returned (.bool true) ∧ Below w.heap.size w w' := by
    have hd := day_last
    have HP := hide (partsP_of hd)
    have HO := hide (ofP_of hd)
    have HS := hide (printP_of hd)
    have HT := hide (parse_print hd)
    have hsz := date_size 9999 12 31
    rw [last_num] at HP HO HS HT
    clear hd
    generalize strOfNums (dateB 9999 12 31) = s at HS HT hsz
    go_enter Try.func6, Try.ntmps6
    go_wp2_with fail
    refine (alive_any _).mono ?_
    rintro e w1 ⟨rfl, hb1⟩
    go_wp2_with fail
    refine (parts_any _ _).mono ?_
    rintro e w2 ⟨rfl, hb2⟩
    rw [HP.out, quad]
    have hb12 := hb1.trans (hb2.mono hb1.size)
    clear hb1 hb2
    go_wp2_with (go_at_call 15; refine (num_any _ _).mono ?_; rintro e w' ⟨rfl, rfl⟩)
    refine (of_any _ _ _ _).mono ?_
    rintro e w3 ⟨rfl, hb3⟩
    rw [HO.out, duo]
    have hb13 := hb12.trans (hb3.mono hb12.size)
    clear hb12 hb3
    go_wp2_with fail
    refine (print_any _ _).mono ?_
    rintro e w4 ⟨rfl, hb4⟩
    rw [HS.out, duoS]
    have hb14 := hb13.trans (hb4.mono hb13.size)
    clear hb13 hb4
    go_wp2_with fail
    refine (parse_any _ _).mono ?_
    rintro e w5 ⟨rfl, hb5⟩
    rw [HT.out, duo]
    have hb15 := hb14.trans (hb5.mono hb14.size)
    clear hb14 hb5
    go_wp2_with (go_at_call 15; refine (num_any _ _).mono ?_; rintro e w' ⟨rfl, rfl⟩)
    go_ret
    exact ⟨rfl, hb15⟩

set_option maxRecDepth 100000 in
set_option maxHeartbeats 800000 in
theorem back_day (y m d x : Int) (w : World) (hd : Day y m d) (hx : numOf y m d = x) (hl : x < 3652059) (hc : d < mlen y m) :
    Calls Try.prog 6 #[.int .i64 x] w fun e w' => e = .returned (.bool true) ∧ Below w.heap.size w w' := by
    have HP := hide (partsP_of hd)
    have HO := hide (ofP_of hd)
    have HS := hide (printP_of hd)
    have HT := hide (parse_print hd)
    have hsz := date_size y m d
    have HD := hide (daysP_of hd)
    have hn := next_num hd (by omega)
    have HN : Hid (partsP (x + 1) = (y, m, d + 1, 0)) := by
      have h := partsP_of hn.1
      rw [hn.2, hx] at h
      unfold nextD at h
      rw [if_pos hc] at h
      exact h
    clear hn
    rw [hx] at HP HO HS HT
    have hx1 : 1 ≤ x := by have := hd.num_pos; omega
    have hy1 := hd.y1
    have hy2 := hd.y2
    have hm1 := hd.m1
    have hm2 := hd.m2
    have hd1 := hd.d1
    have hml := mlen_pos y m
    have hd2 := hd.d2
    clear hd hx
    generalize strOfNums (dateB y m d) = s at HS HT hsz
    generalize mlen y m = ml at *
    go_enter Try.func6, Try.ntmps6
    go_wp2_with fail
    refine (alive_any _).mono ?_
    rintro e w1 ⟨rfl, hb1⟩
    go_wp2_with fail
    refine (parts_any _ _).mono ?_
    rintro e w2 ⟨rfl, hb2⟩
    rw [HP.out, quad]
    have hb12 := hb1.trans (hb2.mono hb1.size)
    clear hb1 hb2
    go_wp2_with (go_at_call 15; refine (num_any _ _).mono ?_; rintro e w' ⟨rfl, rfl⟩)
    refine (of_any _ _ _ _).mono ?_
    rintro e w3 ⟨rfl, hb3⟩
    rw [HO.out, duo]
    have hb13 := hb12.trans (hb3.mono hb12.size)
    clear hb12 hb3
    go_wp2_with fail
    refine (print_any _ _).mono ?_
    rintro e w4 ⟨rfl, hb4⟩
    rw [HS.out, duoS]
    have hb14 := hb13.trans (hb4.mono hb13.size)
    clear hb13 hb4
    go_wp2_with fail
    refine (parse_any _ _).mono ?_
    rintro e w5 ⟨rfl, hb5⟩
    rw [HT.out, duo]
    have hb15 := hb14.trans (hb5.mono hb14.size)
    clear hb14 hb5
    go_wp2_with (go_at_call 15; refine (num_any _ _).mono ?_; rintro e w' ⟨rfl, rfl⟩)
    refine (parts_any _ _).mono ?_
    rintro e w6 ⟨rfl, hb6⟩
    rw [HN.out, quad]
    have hb16 := hb15.trans (hb6.mono hb15.size)
    clear hb15 hb6
    go_wp2_with fail
    refine (daysOf_any _ _ _).mono ?_
    rintro e w7 ⟨rfl, hb7⟩
    rw [HD.out, duo]
    have hb17 := hb16.trans (hb7.mono hb16.size)
    clear hb16 hb7
    go_wp2_with (go_at_call 15; refine (num_any _ _).mono ?_; rintro e w' ⟨rfl, rfl⟩)
    go_ret
    exact ⟨rfl, hb17⟩

set_option maxRecDepth 100000 in
set_option maxHeartbeats 800000 in
theorem back_month (y m d x : Int) (w : World) (hd : Day y m d) (hx : numOf y m d = x) (hl : x < 3652059) (hc : ¬ d < mlen y m) (hm : m < 12) :
    Calls Try.prog 6 #[.int .i64 x] w fun e w' => e = .returned (.bool true) ∧ Below w.heap.size w w' := by
    have HP := hide (partsP_of hd)
    have HO := hide (ofP_of hd)
    have HS := hide (printP_of hd)
    have HT := hide (parse_print hd)
    have hsz := date_size y m d
    have HD := hide (daysP_of hd)
    have hn := next_num hd (by omega)
    have HN : Hid (partsP (x + 1) = (y, m + 1, 1, 0)) := by
      have h := partsP_of hn.1
      rw [hn.2, hx] at h
      unfold nextD at h
      rw [if_neg hc, if_pos hm] at h
      exact h
    clear hn
    rw [hx] at HP HO HS HT
    have hx1 : 1 ≤ x := by have := hd.num_pos; omega
    have hy1 := hd.y1
    have hy2 := hd.y2
    have hm1 := hd.m1
    have hm2 := hd.m2
    have hd1 := hd.d1
    have hml := mlen_pos y m
    have hd2 := hd.d2
    clear hd hx
    generalize strOfNums (dateB y m d) = s at HS HT hsz
    generalize mlen y m = ml at *
    go_enter Try.func6, Try.ntmps6
    go_wp2_with fail
    refine (alive_any _).mono ?_
    rintro e w1 ⟨rfl, hb1⟩
    go_wp2_with fail
    refine (parts_any _ _).mono ?_
    rintro e w2 ⟨rfl, hb2⟩
    rw [HP.out, quad]
    have hb12 := hb1.trans (hb2.mono hb1.size)
    clear hb1 hb2
    go_wp2_with (go_at_call 15; refine (num_any _ _).mono ?_; rintro e w' ⟨rfl, rfl⟩)
    refine (of_any _ _ _ _).mono ?_
    rintro e w3 ⟨rfl, hb3⟩
    rw [HO.out, duo]
    have hb13 := hb12.trans (hb3.mono hb12.size)
    clear hb12 hb3
    go_wp2_with fail
    refine (print_any _ _).mono ?_
    rintro e w4 ⟨rfl, hb4⟩
    rw [HS.out, duoS]
    have hb14 := hb13.trans (hb4.mono hb13.size)
    clear hb13 hb4
    go_wp2_with fail
    refine (parse_any _ _).mono ?_
    rintro e w5 ⟨rfl, hb5⟩
    rw [HT.out, duo]
    have hb15 := hb14.trans (hb5.mono hb14.size)
    clear hb14 hb5
    go_wp2_with (go_at_call 15; refine (num_any _ _).mono ?_; rintro e w' ⟨rfl, rfl⟩)
    refine (parts_any _ _).mono ?_
    rintro e w6 ⟨rfl, hb6⟩
    rw [HN.out, quad]
    have hb16 := hb15.trans (hb6.mono hb15.size)
    clear hb15 hb6
    go_wp2_with fail
    refine (daysOf_any _ _ _).mono ?_
    rintro e w7 ⟨rfl, hb7⟩
    rw [HD.out, duo]
    have hb17 := hb16.trans (hb7.mono hb16.size)
    clear hb16 hb7
    go_wp2_with (go_at_call 15; refine (num_any _ _).mono ?_; rintro e w' ⟨rfl, rfl⟩)
    go_ret
    exact ⟨rfl, hb17⟩

set_option maxRecDepth 100000 in
set_option maxHeartbeats 800000 in
theorem back_year (y m d x : Int) (w : World) (hd : Day y m d) (hx : numOf y m d = x) (hl : x < 3652059) (hc : ¬ d < mlen y m) (hm : ¬ m < 12) :
    Calls Try.prog 6 #[.int .i64 x] w fun e w' => e = .returned (.bool true) ∧ Below w.heap.size w w' := by
    have HP := hide (partsP_of hd)
    have HO := hide (ofP_of hd)
    have HS := hide (printP_of hd)
    have HT := hide (parse_print hd)
    have hsz := date_size y m d
    have HD := hide (daysP_of hd)
    have hn := next_num hd (by omega)
    have HN : Hid (partsP (x + 1) = (y + 1, 1, 1, 0)) := by
      have h := partsP_of hn.1
      rw [hn.2, hx] at h
      unfold nextD at h
      rw [if_neg hc, if_neg hm] at h
      exact h
    clear hn
    rw [hx] at HP HO HS HT
    have hx1 : 1 ≤ x := by have := hd.num_pos; omega
    have hy1 := hd.y1
    have hy2 := hd.y2
    have hm1 := hd.m1
    have hm2 := hd.m2
    have hd1 := hd.d1
    have hml := mlen_pos y m
    have hd2 := hd.d2
    clear hd hx
    generalize strOfNums (dateB y m d) = s at HS HT hsz
    generalize mlen y m = ml at *
    go_enter Try.func6, Try.ntmps6
    go_wp2_with fail
    refine (alive_any _).mono ?_
    rintro e w1 ⟨rfl, hb1⟩
    go_wp2_with fail
    refine (parts_any _ _).mono ?_
    rintro e w2 ⟨rfl, hb2⟩
    rw [HP.out, quad]
    have hb12 := hb1.trans (hb2.mono hb1.size)
    clear hb1 hb2
    go_wp2_with (go_at_call 15; refine (num_any _ _).mono ?_; rintro e w' ⟨rfl, rfl⟩)
    refine (of_any _ _ _ _).mono ?_
    rintro e w3 ⟨rfl, hb3⟩
    rw [HO.out, duo]
    have hb13 := hb12.trans (hb3.mono hb12.size)
    clear hb12 hb3
    go_wp2_with fail
    refine (print_any _ _).mono ?_
    rintro e w4 ⟨rfl, hb4⟩
    rw [HS.out, duoS]
    have hb14 := hb13.trans (hb4.mono hb13.size)
    clear hb13 hb4
    go_wp2_with fail
    refine (parse_any _ _).mono ?_
    rintro e w5 ⟨rfl, hb5⟩
    rw [HT.out, duo]
    have hb15 := hb14.trans (hb5.mono hb14.size)
    clear hb14 hb5
    go_wp2_with (go_at_call 15; refine (num_any _ _).mono ?_; rintro e w' ⟨rfl, rfl⟩)
    refine (parts_any _ _).mono ?_
    rintro e w6 ⟨rfl, hb6⟩
    rw [HN.out, quad]
    have hb16 := hb15.trans (hb6.mono hb15.size)
    clear hb15 hb6
    go_wp2_with fail
    refine (daysOf_any _ _ _).mono ?_
    rintro e w7 ⟨rfl, hb7⟩
    rw [HD.out, duo]
    have hb17 := hb16.trans (hb7.mono hb16.size)
    clear hb16 hb7
    go_wp2_with (go_at_call 15; refine (num_any _ _).mono ?_; rintro e w' ⟨rfl, rfl⟩)
    go_ret
    exact ⟨rfl, hb17⟩

theorem back_walk (x : Int) (w : World) :
    Calls Try.prog 6 #[.int .i64 x] w fun e w' => e = .returned (.bool true) ∧ Below w.heap.size w w' := by
  by_cases hx : 1 ≤ x ∧ x ≤ 3652059
  · by_cases hl : x < 3652059
    · obtain ⟨y, m, d, hd, he⟩ := day_of x hx.1 hx.2
      by_cases hc : d < mlen y m
      · exact back_day y m d x w hd he hl hc
      · by_cases hm : m < 12
        · exact back_month y m d x w hd he hl hc hm
        · exact back_year y m d x w hd he hl hc hm
    · have e : x = 3652059 := by omega
      subst e
      exact back_last w
  · exact back_no x w hx

end Go.Proofs.Ytnafhjmeofddoaa
