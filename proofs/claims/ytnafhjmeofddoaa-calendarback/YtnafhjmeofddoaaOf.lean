/- A day's number: the program's date and Of, the document's Of. -/
import Derived.Test.YtnafhjmeofddoaaExists
namespace Go.Proofs.Ytnafhjmeofddoaa
open Go.RowKit

theorem before_small (y : Int) (k : Nat) (h : k ≤ 12) : 0 ≤ before y k ∧ before y k ≤ 366 := by
  have := before_nonneg y k
  have := before_le y k h
  have := ylen_pos y
  omega

theorem ahead_small {y : Int} (h1 : 1 ≤ y) (h2 : y ≤ 10000) : 0 ≤ aheadY y ∧ aheadY y ≤ 3652059 := by unfold aheadY; omega

theorem numOf_of {y m d : Int} {k : Nat} (h : (k : Int) = m - 1) : aheadY y + before y k + d = numOf y m d := by
  unfold numOf; rw [show (m - 1).toNat = k by omega]

set_option maxHeartbeats 800000 in
theorem date_any (y m d : Int) (w : World) (h : Day y m d) :
    Calls Try.prog 28 #[.agg #[.int .i64 y, .int .i64 m, .int .i64 d]] w fun e w' => e = .returned (.int .i64 (numOf y m d)) ∧ Below w.heap.size w w' := by
  obtain ⟨h1, h2, h3, h4, h5, h6⟩ := h
  have hml := mlen_pos y m
  have hal := ahead_small h1 (by omega)
  have HA := hide (show aheadY y = (y - 1) * 365 + (y - 1) / 4 - (y - 1) / 100 + (y - 1) / 400 from rfl)
  have HB := Box.mk (w := w) (y := y) (m := m) (d := d)
  go_enter Try.func28, Try.ntmps28
  go_wp2_with fail
  generalize w.alloc (.cells #[.int .i64 y, .int .i64 m, .int .i64 d] 53) = W at HB ⊢
  generalize hB : w.heap.size = B at HB ⊢
  have HE := hide hB
  clear hB
  have HBx := hide HB
  obtain ⟨c0, c1, c2, c3, c4⟩ := HB
  clear c3 c4
  go_wp2_with fail
  go_loopw [4, 23] (fun s i wr => ∃ k : Nat, (k : Int) ≤ m - 1 ∧ i = .int .i64 k ∧ s = .int .i64 (aheadY y + before y k) ∧ Hid (Box B w y m d wr)) (fun _ i _ => (12 - intOf i).toNat)
  case atStart => exact ⟨0, by omega, rfl, by simp [before, aheadY], HBx⟩
  case round =>
    clear c0 c1 c2 HBx HA
    obtain ⟨k, hk, rfl, rfl, HBx⟩ := hrel
    have hbs := before_small y k (by omega)
    have HB := HBx.out
    obtain ⟨c0, c1, c2, c3, c4⟩ := HB
    clear c3 c4
    by_cases hlt : (k : Int) < m - 1
    · have hml' := mlen_pos y (k + 1)
      have HS := hide (before_step y k)
      go_wp2_with (go_at_call 32; refine (monthLength_any _ _ _ (by omega) (by omega) (by omega) (by omega)).mono ?_; rintro e w32 ⟨rfl, hb⟩)
      go_roundw
      case rel => exact ⟨k + 1, by omega, by go_num, by rw [HS.out]; simp; omega, HBx.out.below hb⟩
      case measure => simp [intOf]; omega
    · have HN := hide (numOf_of (y := y) (m := m) (d := d) (k := k) (by omega))
      go_wp2
      go_ret
      exact ⟨ret_int HN.out, by rw [HE.out]; exact HBx.out.2.2.2.2⟩

/-- What Of answers. -/
def ofP (y m d : Int) : Int × Int := if Day y m d then (numOf y m d, 0) else (0, 31)

def duo (p : Int × Int) : Value := .tuple #[.int .i64 p.1, .int .i64 p.2]

set_option maxHeartbeats 800000 in
theorem of_any (y m d : Int) (w : World) :
    Calls Try.prog 9 #[.int .i64 y, .int .i64 m, .int .i64 d] w fun e w' => e = .returned (duo (ofP y m d)) ∧ Below w.heap.size w w' := by
  have HB := Box.mk (w := w) (y := y) (m := m) (d := d)
  by_cases hd : Day y m d
  · have HO := hide (show ofP y m d = (numOf y m d, 0) by simp [ofP, hd])
    have HD := hide hd
    clear hd
    go_enter Try.func9, Try.ntmps9
    go_wp2_with fail
    generalize w.alloc (.cells #[.int .i64 y, .int .i64 m, .int .i64 d] 53) = W at HB ⊢
    generalize hB : w.heap.size = B at HB ⊢
    have HE := hide hB
    clear hB
    refine (exists_yes _ _ _ _ HD.out).mono ?_
    rintro e w1 ⟨rfl, hb⟩
    have HB1 := hide (HB.below hb)
    clear HB hb
    have HB := HB1.out
    obtain ⟨c0, c1, c2, c3, c4⟩ := HB
    clear c3 c4
    go_wp2_with fail
    refine (date_any _ _ _ _ HD.out).mono ?_
    rintro e w2 ⟨rfl, hb⟩
    have HB2 := hide (HB1.out.below hb)
    clear c0 c1 c2 HB1 hb
    go_wp2
    go_ret2
    refine ⟨by rw [HO.out]; rfl, by rw [HE.out]; exact HB2.out.2.2.2.2⟩
  · have HO := hide (show ofP y m d = (0, 31) by simp [ofP, hd])
    have HD := hide hd
    clear hd
    go_enter Try.func9, Try.ntmps9
    go_wp2_with fail
    generalize w.alloc (.cells #[.int .i64 y, .int .i64 m, .int .i64 d] 53) = W at HB ⊢
    generalize hB : w.heap.size = B at HB ⊢
    have HE := hide hB
    clear hB
    refine (exists_no _ _ _ _ HD.out).mono ?_
    rintro e w1 ⟨rfl, hb⟩
    have HB1 := hide (HB.below hb)
    clear HB hb
    go_wp2
    go_ret2
    refine ⟨by rw [HO.out]; rfl, by rw [HE.out]; exact HB1.out.2.2.2.2⟩

/-- What Days answers. -/
def daysP (y m : Int) : Int × Int := if 1 ≤ y ∧ y ≤ 9999 ∧ 1 ≤ m ∧ m ≤ 12 then (mlen y m, 0) else (0, 31)

set_option maxHeartbeats 400000 in
theorem daysOf_any (y m : Int) (w : World) :
    Calls Try.prog 11 #[.int .i64 y, .int .i64 m] w fun e w' => e = .returned (duo (daysP y m)) ∧ Below w.heap.size w w' := by
  by_cases hd : 1 ≤ y ∧ y ≤ 9999 ∧ 1 ≤ m ∧ m ≤ 12
  · have HO := hide (show daysP y m = (mlen y m, 0) by simp [daysP, hd])
    obtain ⟨h1, h2, h3, h4⟩ := hd
    go_enter Try.func11, Try.ntmps11
    go_wp2_with fail
    refine (isMonth_yes _ _ _ h1 h2 h3 h4).mono ?_
    rintro e w1 ⟨rfl, rfl⟩
    go_wp2_with fail
    refine (monthLength_any _ _ _ (by omega) (by omega) (by omega) (by omega)).mono ?_
    rintro e w2 ⟨rfl, hb⟩
    go_wp2
    go_ret2
    refine ⟨by rw [HO.out]; rfl, hb⟩
  · have HO := hide (show daysP y m = (0, 31) by simp [daysP, hd])
    have HD := hide hd
    clear hd
    go_enter Try.func11, Try.ntmps11
    go_wp2_with fail
    refine (isMonth_no _ _ _ HD.out).mono ?_
    rintro e w1 ⟨rfl, rfl⟩
    go_wp2
    go_ret2
    refine ⟨by rw [HO.out]; rfl, Below.refl _ _⟩

set_option maxHeartbeats 400000 in
theorem refDays_any (y m : Int) (w : World) :
    Calls Try.prog 12 #[.int .i64 y, .int .i64 m] w fun e w' => e = .returned (duo (daysP y m)) ∧ w' = w := by
  by_cases hd : 1 ≤ y ∧ y ≤ 9999 ∧ 1 ≤ m ∧ m ≤ 12
  · have HO := hide (show daysP y m = (mlen y m, 0) by simp [daysP, hd])
    obtain ⟨h1, h2, h3, h4⟩ := hd
    go_enter Try.func12, Try.ntmps12
    go_wp2_with (go_at_call 30; refine (days_any _ _ _ (by omega) (by omega) (by omega) (by omega)).mono ?_; rintro e w2 ⟨rfl, rfl⟩)
    go_ret2
    exact ⟨by rw [HO.out]; rfl, rfl⟩
  · have HO := hide (show daysP y m = (0, 31) by simp [daysP, hd])
    by_cases h1 : 1 ≤ y
    · by_cases h2 : y ≤ 9999
      · by_cases h3 : 1 ≤ m
        · have h4 : 12 < m := by omega
          clear hd
          go_enter Try.func12, Try.ntmps12
          go_wp2
          go_ret2
          exact ⟨by rw [HO.out]; rfl, rfl⟩
        · clear hd
          go_enter Try.func12, Try.ntmps12
          go_wp2
          go_ret2
          exact ⟨by rw [HO.out]; rfl, rfl⟩
      · clear hd
        go_enter Try.func12, Try.ntmps12
        go_wp2
        go_ret2
        exact ⟨by rw [HO.out]; rfl, rfl⟩
    · clear hd
      go_enter Try.func12, Try.ntmps12
      go_wp2
      go_ret2
      exact ⟨by rw [HO.out]; rfl, rfl⟩

set_option maxHeartbeats 400000 in
theorem refOf_any (y m d : Int) (w : World) :
    Calls Try.prog 10 #[.int .i64 y, .int .i64 m, .int .i64 d] w fun e w' => e = .returned (duo (ofP y m d)) ∧ w' = w := by
  by_cases hm : 1 ≤ y ∧ y ≤ 9999 ∧ 1 ≤ m ∧ m ≤ 12
  · have HO := hide (show daysP y m = (mlen y m, 0) by simp [daysP, hm])
    obtain ⟨h1, h2, h3, h4⟩ := hm
    have hml := mlen_pos y m
    have hal := ahead_small h1 (by omega)
    by_cases h5 : 1 ≤ d
    · by_cases h6 : d ≤ mlen y m
      · have HP := hide (show ofP y m d = (numOf y m d, 0) by simp [ofP, Day.mk h1 h2 h3 h4 h5 h6])
        go_enter Try.func10, Try.ntmps10
        go_wp2_with fail
        refine (refDays_any _ _ _).mono ?_
        rintro e w1 ⟨rfl, rfl⟩
        rw [HO.out, duo]
        go_wp2_with (go_at_call 29; refine (ahead_any _ _ (by omega) (by omega)).mono ?_; rintro e w2 ⟨rfl, rfl⟩)
        go_loop [10, 11] (fun s i => ∃ k : Nat, (k : Int) ≤ m - 1 ∧ i = .int .i64 (k + 1) ∧ s = .int .i64 (aheadY y + before y k + d)) (fun _ i => (13 - intOf i).toNat)
        case atStart => exact ⟨0, by omega, rfl, by simp [before]⟩
        case round =>
          obtain ⟨k, hk, rfl, rfl⟩ := hrel
          have hbs := before_small y k (by omega)
          by_cases hlt : (k : Int) < m - 1
          · have hml' := mlen_pos y (k + 1)
            have HS := hide (before_step y k)
            go_wp2_with (go_at_call 30; refine (days_any _ _ _ (by omega) (by omega) (by omega) (by omega)).mono ?_; rintro e w2 ⟨rfl, rfl⟩)
            go_round
            case rel => exact ⟨k + 1, by omega, by go_num, by rw [HS.out]; simp; omega⟩
            case measure => simp [intOf]; omega
          · have HN := hide (numOf_of (y := y) (m := m) (d := d) (k := k) (by omega))
            go_wp2
            go_ret2
            refine ⟨by rw [HP.out, ← HN.out]; rfl, rfl⟩
      · have HP := hide (show ofP y m d = (0, 31) by rw [ofP, if_neg]; exact fun h => h6 h.d2)
        go_enter Try.func10, Try.ntmps10
        go_wp2_with fail
        refine (refDays_any _ _ _).mono ?_
        rintro e w1 ⟨rfl, rfl⟩
        rw [HO.out, duo]
        go_wp2
        go_ret2
        refine ⟨by rw [HP.out]; rfl, rfl⟩
    · have HP := hide (show ofP y m d = (0, 31) by rw [ofP, if_neg]; exact fun h => h5 h.d1)
      go_enter Try.func10, Try.ntmps10
      go_wp2_with fail
      refine (refDays_any _ _ _).mono ?_
      rintro e w1 ⟨rfl, rfl⟩
      rw [HO.out, duo]
      go_wp2
      go_ret2
      refine ⟨by rw [HP.out]; rfl, rfl⟩
  · have HO := hide (show daysP y m = (0, 31) by simp [daysP, hm])
    have HP := hide (show ofP y m d = (0, 31) by rw [ofP, if_neg]; exact fun h => hm ⟨h.y1, h.y2, h.m1, h.m2⟩)
    clear hm
    go_enter Try.func10, Try.ntmps10
    go_wp2_with fail
    refine (refDays_any _ _ _).mono ?_
    rintro e w1 ⟨rfl, rfl⟩
    rw [HO.out, duo]
    go_wp2
    go_ret2
    refine ⟨by rw [HP.out]; rfl, rfl⟩

end Go.Proofs.Ytnafhjmeofddoaa
