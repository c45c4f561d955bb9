/- A day's number: the program's date and Of, the document's Of. -/
import Derived.Test.YtnafhjmeofddoabExists
namespace Go.Proofs.Ytnafhjmeofddoab
open Go.RowKit

theorem before_small (y : Int) (k : Nat) (h : k ≤ 12) : 0 ≤ before y k ∧ before y k ≤ 366 := by
  have := before_nonneg y k
  have := before_le y k h
  have := ylen_pos y
  omega

theorem ahead_small {y : Int} (h1 : 1 ≤ y) (h2 : y ≤ 10000) : 0 ≤ aheadY y ∧ aheadY y ≤ 3652059 := by unfold aheadY; omega

theorem numOf_of {y m d : Int} {k : Nat} (h : (k : Int) = m - 1) : aheadY y + before y k + d = numOf y m d := by
  unfold numOf; rw [show (m - 1).toNat = k by omega]

set_option maxHeartbeats 800000 in
theorem date_any (y m d : Int) (w : World) (h : Day y m d) :
    Calls Try.prog 14 #[.agg #[.int .i64 y, .int .i64 m, .int .i64 d]] w fun e w' => e = .returned (.int .i64 (numOf y m d)) ∧ Below w.heap.size w w' := by
  obtain ⟨h1, h2, h3, h4, h5, h6⟩ := h
  have hml := mlen_pos y m
  have hal := ahead_small h1 (by omega)
  have HA := hide (show aheadY y = (y - 1) * 365 + (y - 1) / 4 - (y - 1) / 100 + (y - 1) / 400 from rfl)
  have HB := Box.mk (w := w) (y := y) (m := m) (d := d)
  go_enter Try.func14, Try.ntmps14
  go_wp2_with fail
  generalize w.alloc (.cells #[.int .i64 y, .int .i64 m, .int .i64 d] 36) = W at HB ⊢
  generalize hB : w.heap.size = B at HB ⊢
  have HE := hide hB
  clear hB
  have HBx := hide HB
  obtain ⟨c0, c1, c2, c3, c4⟩ := HB
  clear c3 c4
  go_wp2_with fail
  go_loopw [4, 23] (fun s i wr => ∃ k : Nat, (k : Int) ≤ m - 1 ∧ i = .int .i64 k ∧ s = .int .i64 (aheadY y + before y k) ∧ Hid (Box B w y m d wr)) (fun _ i _ => (12 - intOf i).toNat)
  case atStart => exact ⟨0, by omega, rfl, by simp [before, aheadY], HBx⟩
  case round =>
    clear c0 c1 c2 HBx HA
    obtain ⟨k, hk, rfl, rfl, HBx⟩ := hrel
    have hbs := before_small y k (by omega)
    have HB := HBx.out
    obtain ⟨c0, c1, c2, c3, c4⟩ := HB
    clear c3 c4
    by_cases hlt : (k : Int) < m - 1
    · have hml' := mlen_pos y (k + 1)
      have HS := hide (before_step y k)
      go_wp2_with (go_at_call 17; refine (monthLength_any _ _ _ (by omega) (by omega) (by omega) (by omega)).mono ?_; rintro e w32 ⟨rfl, hb⟩)
      go_roundw
      case rel => exact ⟨k + 1, by omega, by go_num, by rw [HS.out]; simp; omega, HBx.out.below hb⟩
      case measure => simp [intOf]; omega
    · have HN := hide (numOf_of (y := y) (m := m) (d := d) (k := k) (by omega))
      go_wp2
      go_ret
      exact ⟨ret_int HN.out, by rw [HE.out]; exact HBx.out.2.2.2.2⟩

/-- What Of answers. -/
def ofP (y m d : Int) : Int × Int := if Day y m d then (numOf y m d, 0) else (0, 31)

def duo (p : Int × Int) : Value := .tuple #[.int .i64 p.1, .int .i64 p.2]

set_option maxHeartbeats 800000 in
theorem of_any (y m d : Int) (w : World) :
    Calls Try.prog 7 #[.int .i64 y, .int .i64 m, .int .i64 d] w fun e w' => e = .returned (duo (ofP y m d)) ∧ Below w.heap.size w w' := by
  have HB := Box.mk (w := w) (y := y) (m := m) (d := d)
  by_cases hd : Day y m d
  · have HO := hide (show ofP y m d = (numOf y m d, 0) by simp [ofP, hd])
    have HD := hide hd
    clear hd
    go_enter Try.func7, Try.ntmps7
    go_wp2_with fail
    generalize w.alloc (.cells #[.int .i64 y, .int .i64 m, .int .i64 d] 36) = W at HB ⊢
    generalize hB : w.heap.size = B at HB ⊢
    have HE := hide hB
    clear hB
    refine (exists_yes _ _ _ _ HD.out).mono ?_
    rintro e w1 ⟨rfl, hb⟩
    have HB1 := hide (HB.below hb)
    clear HB hb
    have HB := HB1.out
    obtain ⟨c0, c1, c2, c3, c4⟩ := HB
    clear c3 c4
    go_wp2_with fail
    refine (date_any _ _ _ _ HD.out).mono ?_
    rintro e w2 ⟨rfl, hb⟩
    have HB2 := hide (HB1.out.below hb)
    clear c0 c1 c2 HB1 hb
    go_wp2
    go_ret2
    refine ⟨by rw [HO.out]; rfl, by rw [HE.out]; exact HB2.out.2.2.2.2⟩
  · have HO := hide (show ofP y m d = (0, 31) by simp [ofP, hd])
    have HD := hide hd
    clear hd
    go_enter Try.func7, Try.ntmps7
    go_wp2_with fail
    generalize w.alloc (.cells #[.int .i64 y, .int .i64 m, .int .i64 d] 36) = W at HB ⊢
    generalize hB : w.heap.size = B at HB ⊢
    have HE := hide hB
    clear hB
    refine (exists_no _ _ _ _ HD.out).mono ?_
    rintro e w1 ⟨rfl, hb⟩
    have HB1 := hide (HB.below hb)
    clear HB hb
    go_wp2
    go_ret2
    refine ⟨by rw [HO.out]; rfl, by rw [HE.out]; exact HB1.out.2.2.2.2⟩

/-- What Days answers. -/
def daysP (y m : Int) : Int × Int := if 1 ≤ y ∧ y ≤ 9999 ∧ 1 ≤ m ∧ m ≤ 12 then (mlen y m, 0) else (0, 31)

end Go.Proofs.Ytnafhjmeofddoab
