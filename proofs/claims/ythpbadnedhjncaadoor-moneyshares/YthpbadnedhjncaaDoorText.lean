/- The document's Text and Print: the one form of an amount. -/
import Derived.Test.YthpbadnedhjncaaDoorDigits
namespace Go.Proofs.YthpbadnedhjncaaDoor
open Go.RowKit

theorem conv_two (W : World) (c d : Int) : (convert 87 9 (.slice (some ⟨W.heap.size, 0, none⟩) 2 2)).run Tryd.prog (W.alloc (.cells #[.int .u8 c, .int .u8 d] 5)) = .ok (.string (strOfNums [c, d])) (W.alloc (.cells #[.int .u8 c, .int .u8 d] 5)) :=
  run_convert_bytes_arg (P := Tryd.prog) _ 87 5 Tryd.underlying87 Tryd.underlying5 W.heap.size 0 2 2 [c, d] rfl (fun i hi => by
    rw [cell_of_row _ _ _ _ _ _ (heap_alloc_new W _)]
    rcases (show i = 0 ∨ i = 1 by omega) with rfl | rfl <;> rfl) 9 Tryd.underlying9

/-- The one form of a number of cents from 0 on. -/
def centsB (m : Int) : List Int := decD 20 (m / 100) ++ (if m % 100 = 0 then [] else [46, 48 + m % 100 / 10, 48 + m % 10])

/-- The one form. -/
def textM (m : Int) : List Int := if m < 0 then 45 :: centsB (-m) else centsB m

theorem decD_len : ∀ (f : Nat) (n : Int), (decD f n).length ≤ f + 1 := by
  intro f
  induction f with
  | zero => intro n; simp [decD]
  | succ f ih => intro n; rw [decD]; split
                 · simp
                 · have := ih (n / 10); simp; omega

theorem str_empty : (⟨#[]⟩ : ByteArray) = strOfNums [] := rfl
theorem str_minus : (⟨#[45]⟩ : ByteArray) = strOfNums [45] := rfl
theorem str_point : (⟨#[46]⟩ : ByteArray) = strOfNums [46] := rfl

theorem ret_str {a b : ByteArray} (h : a = b) : Ending.returned (.string a) = .returned (.string b) := by rw [h]

set_option maxHeartbeats 800000 in
theorem refText_any (m : Int) (w : World) (h0 : -1000000000000000 ≤ m) (h1 : m ≤ 1000000000000000) :
    Calls Tryd.prog 37 #[.int .i64 m] w fun e w' => e = .returned (.string (strOfNums (textM m))) ∧ Below w.heap.size w w' := by
  have kc := conv_two
  have ks := strOfNums_size
  have HJ := hide str_join
  rcases (show m < 0 ∨ 0 ≤ m by omega) with hm | hm
  · obtain ⟨p, rfl⟩ : ∃ p, m = -p := ⟨-m, by omega⟩
    have hp : 0 < p := by omega
    have hp1 : p ≤ 1000000000000000 := by omega
    have hl := decD_len 20 (p / 100)
    have CD := hide (fun w => refDigits_any (p / 100) w (by omega) (by omega))
    have HV : Hid (textM (-p) = [45] ++ decD 20 (p / 100) ++ (if p % 100 = 0 then [] else [46, 48 + p % 100 / 10, 48 + p % 10])) := by unfold Hid textM centsB; rw [if_pos hm, Int.neg_neg]; simp
    generalize decD 20 (p / 100) = ds at *
    by_cases hc : p % 100 = 0
    · have hcb : (p % 100 == 0) = true := by simp [hc]
      have HC := hide hc
      clear hc h0 h1
      go_enter Tryd.func37, Tryd.ntmps37
      go_wp2_with fail
      refine (CD.out _).mono ?_
      rintro e w1 ⟨rfl, hb1⟩
      go_wp2_with fail
      go_ret
      exact ⟨ret_str (by rw [HV.out, if_pos HC.out, str_minus, HJ.out]; simp), hb1⟩
    · have hcb : (p % 100 == 0) = false := by simp [hc]
      have HC := hide hc
      clear hc h0 h1
      go_enter Tryd.func37, Tryd.ntmps37
      go_wp2_with fail
      refine (CD.out _).mono ?_
      rintro e w1 ⟨rfl, hb1⟩
      go_wp2_with fail
      go_ret
      exact ⟨ret_str (by rw [HV.out, if_neg HC.out, str_minus, str_point, HJ.out, HJ.out, HJ.out]; simp), hb1.alloc hb1.size _⟩
  · have hl := decD_len 20 (m / 100)
    have CD := hide (fun w => refDigits_any (m / 100) w (by omega) (by omega))
    have HV : Hid (textM m = decD 20 (m / 100) ++ (if m % 100 = 0 then [] else [46, 48 + m % 100 / 10, 48 + m % 10])) := by unfold Hid textM centsB; rw [if_neg (by omega)]
    generalize decD 20 (m / 100) = ds at *
    by_cases hc : m % 100 = 0
    · have hcb : (m % 100 == 0) = true := by simp [hc]
      have HC := hide hc
      clear hc
      go_enter Tryd.func37, Tryd.ntmps37
      go_wp2_with fail
      refine (CD.out _).mono ?_
      rintro e w1 ⟨rfl, hb1⟩
      go_wp2_with fail
      go_ret
      exact ⟨ret_str (by rw [HV.out, if_pos HC.out, str_empty, HJ.out]; simp), hb1⟩
    · have hcb : (m % 100 == 0) = false := by simp [hc]
      have HC := hide hc
      clear hc
      go_enter Tryd.func37, Tryd.ntmps37
      go_wp2_with fail
      refine (CD.out _).mono ?_
      rintro e w1 ⟨rfl, hb1⟩
      go_wp2_with fail
      go_ret
      exact ⟨ret_str (by rw [HV.out, if_neg HC.out, str_empty, str_point, HJ.out, HJ.out, HJ.out]; simp), hb1.alloc hb1.size _⟩

/-- P2.1. -/
def printM (m : Int) : List Int × Int := if may m = true then (textM m, 0) else ([], 22)

set_option maxHeartbeats 400000 in
theorem refPrint_any (m : Int) (w : World) :
    Calls Tryd.prog 14 #[.int .i64 m] w fun e w' => e = .returned (.tuple #[.string (strOfNums (printM m).1), .int .i64 (printM m).2]) ∧ Below w.heap.size w w' := by
  have CM := hide (fun w => may_any m w)
  cases hm : may m with
  | false =>
    rw [hm] at CM
    have HV : Hid (printM m = ([], 22)) := by unfold Hid printM; rw [if_neg (by rw [hm]; simp)]
    clear hm
    go_enter Tryd.func14, Tryd.ntmps14
    go_wp2_with (go_at_call 36; refine (CM.out _).mono ?_; rintro e w' ⟨rfl, rfl⟩)
    go_ret2
    rw [HV.out]
    exact ⟨rfl, Below.refl _ _⟩
  | true =>
    rw [hm] at CM
    have HV : Hid (printM m = (textM m, 0)) := by unfold Hid printM; rw [if_pos hm]
    have hb := may_yes hm
    have CT := hide (fun w => refText_any m w hb.1 hb.2)
    clear hm
    go_enter Tryd.func14, Tryd.ntmps14
    go_wp2_with (first | (go_at_call 36; refine (CM.out _).mono ?_; rintro e w' ⟨rfl, rfl⟩) | (go_at_call 37; refine (CT.out _).mono ?_; rintro e w2 ⟨rfl, hb2⟩))
    go_ret2
    rw [HV.out]
    exact ⟨rfl, hb2⟩

end Go.Proofs.YthpbadnedhjncaaDoor
