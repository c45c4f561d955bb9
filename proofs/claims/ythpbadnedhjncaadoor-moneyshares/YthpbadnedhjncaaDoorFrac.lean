/- The program's size, product and the roundings. -/
import Derived.Test.YthpbadnedhjncaaDoorDivB
import Derived.Test.YthpbadnedhjncaaDoorOwn2
import Derived.Test.YthpbadnedhjncaaDoorScalePlain
namespace Go.Proofs.YthpbadnedhjncaaDoor
open Go.RowKit

theorem ret_u64' {a b : Int} (h : a = b) : Ending.returned (.int .u64 a) = .returned (.int .u64 b) := by rw [h]

theorem size_any (n : Int) (w : World) (h0 : -9223372036854775807 ≤ n) (h1 : n ≤ 9223372036854775807) : Calls Tryd.prog 59 #[.int .i64 n] w fun e w' => e = .returned (.int .u64 (n.natAbs : Int)) ∧ w' = w := by
  rcases (show n < 0 ∨ 0 ≤ n by omega) with h | h
  · obtain ⟨p, rfl⟩ : ∃ p, n = -p := ⟨-n, by omega⟩
    have HV : Hid (((-p).natAbs : Int) = p) := by unfold Hid; omega
    have hp : 0 < p := by omega
    have hp1 : p ≤ 9223372036854775807 := by omega
    go_enter Tryd.func59, Tryd.ntmps59
    go_wp2
    go_ret
    exact ⟨ret_u64' HV.out.symm, rfl⟩
  · have HV : Hid ((n.natAbs : Int) = n) := by unfold Hid; omega
    go_enter Tryd.func59, Tryd.ntmps59
    go_wp2
    go_ret
    exact ⟨ret_u64' HV.out.symm, rfl⟩

/-- One more, or not. -/
def nextM (c : Bool) (n : Int) : Int := if c = true then n + 1 else n

/-- The size of the rounded number. -/
def rndM (k : Int) (b : Bool) (n r d : Int) : Int := nextM (upM k b n r d) n

def fracV (b : Bool) (n r d : Int) : Value := .agg #[.bool b, .int .u64 n, .int .u64 r, .int .u64 d]

theorem below_fill (w : World) (o : Obj) : Below w.heap.size w (w.alloc o) := (Below.refl _ _).alloc (Nat.le_refl _) _

theorem next_yes (b : Bool) (n r d : Int) (w : World) (h0 : 0 ≤ n) (h1 : n ≤ 1000000000000000) : Calls Tryd.prog 70 #[fracV b n r d, .bool true] w fun e w' => e = .returned (.int .u64 (n + 1)) ∧ Below w.heap.size w w' := by
  unfold fracV
  go_enter Tryd.func70, Tryd.ntmps70
  go_wp2
  go_ret
  exact ⟨rfl, below_fill _ _⟩

theorem next_no (b : Bool) (n r d : Int) (w : World) : Calls Tryd.prog 70 #[fracV b n r d, .bool false] w fun e w' => e = .returned (.int .u64 n) ∧ Below w.heap.size w w' := by
  unfold fracV
  go_enter Tryd.func70, Tryd.ntmps70
  go_wp2
  go_ret
  exact ⟨rfl, below_fill _ _⟩

theorem next_any (b c : Bool) (n r d : Int) (w : World) (h0 : 0 ≤ n) (h1 : n ≤ 1000000000000000) : Calls Tryd.prog 70 #[fracV b n r d, .bool c] w fun e w' => e = .returned (.int .u64 (nextM c n)) ∧ Below w.heap.size w w' := by
  cases c with
  | true => exact next_yes b n r d w h0 h1
  | false => exact next_no b n r d w

theorem down_any (b : Bool) (n r d : Int) (w : World) : Calls Tryd.prog 52 #[fracV b n r d] w fun e w' => e = .returned (.int .u64 n) ∧ Below w.heap.size w w' := by
  unfold fracV
  go_enter Tryd.func52, Tryd.ntmps52
  go_wp2
  go_ret
  exact ⟨rfl, below_fill _ _⟩

theorem up_any (b : Bool) (n r d : Int) (w : World) (h0 : 0 ≤ n) (h1 : n ≤ 1000000000000000) : Calls Tryd.prog 53 #[fracV b n r d] w fun e w' => e = .returned (.int .u64 (rndM 2 b n r d)) ∧ Below w.heap.size w w' := by
  have CN := hide (fun w => next_any b (decide (0 < r)) n r d w h0 h1)
  have HV : Hid (nextM (decide (0 < r)) n = rndM 2 b n r d) := rfl
  unfold fracV at *
  go_enter Tryd.func53, Tryd.ntmps53
  go_wp2_with (go_at_call 70; refine (CN.out _).mono ?_; rintro e w2 ⟨rfl, hb2⟩)
  go_ret
  exact ⟨ret_u64' HV.out, (below_fill _ _).trans (hb2.mono (by simp))⟩

theorem floor_any (b : Bool) (n r d : Int) (w : World) (h0 : 0 ≤ n) (h1 : n ≤ 1000000000000000) : Calls Tryd.prog 54 #[fracV b n r d] w fun e w' => e = .returned (.int .u64 (rndM 3 b n r d)) ∧ Below w.heap.size w w' := by
  have CU := hide (fun b w => up_any b n r d w h0 h1)
  have CD := hide (fun b w => down_any b n r d w)
  unfold fracV at *
  cases b with
  | false =>
    have HV : Hid (rndM 3 false n r d = n) := by unfold Hid rndM upM nextM; simp
    go_enter Tryd.func54, Tryd.ntmps54
    go_wp2_with (first | (go_at_call 53; refine (CU.out _ _).mono ?_; rintro e w2 ⟨rfl, hb2⟩) | (go_at_call 52; refine (CD.out _ _).mono ?_; rintro e w2 ⟨rfl, hb2⟩))
    go_ret
    exact ⟨ret_u64' HV.out.symm, (below_fill _ _).trans (hb2.mono (by simp))⟩
  | true =>
    have HV : Hid (rndM 3 true n r d = rndM 2 true n r d) := by unfold Hid rndM upM nextM; simp
    go_enter Tryd.func54, Tryd.ntmps54
    go_wp2_with (first | (go_at_call 53; refine (CU.out _ _).mono ?_; rintro e w2 ⟨rfl, hb2⟩) | (go_at_call 52; refine (CD.out _ _).mono ?_; rintro e w2 ⟨rfl, hb2⟩))
    go_ret
    exact ⟨ret_u64' HV.out.symm, (below_fill _ _).trans (hb2.mono (by simp))⟩

theorem ceil_any (b : Bool) (n r d : Int) (w : World) (h0 : 0 ≤ n) (h1 : n ≤ 1000000000000000) : Calls Tryd.prog 55 #[fracV b n r d] w fun e w' => e = .returned (.int .u64 (rndM 4 b n r d)) ∧ Below w.heap.size w w' := by
  have CU := hide (fun b w => up_any b n r d w h0 h1)
  have CD := hide (fun b w => down_any b n r d w)
  unfold fracV at *
  cases b with
  | false =>
    have HV : Hid (rndM 4 false n r d = rndM 2 false n r d) := by unfold Hid rndM upM nextM; simp
    go_enter Tryd.func55, Tryd.ntmps55
    go_wp2_with (first | (go_at_call 53; refine (CU.out _ _).mono ?_; rintro e w2 ⟨rfl, hb2⟩) | (go_at_call 52; refine (CD.out _ _).mono ?_; rintro e w2 ⟨rfl, hb2⟩))
    go_ret
    exact ⟨ret_u64' HV.out.symm, (below_fill _ _).trans (hb2.mono (by simp))⟩
  | true =>
    have HV : Hid (rndM 4 true n r d = n) := by unfold Hid rndM upM nextM; simp
    go_enter Tryd.func55, Tryd.ntmps55
    go_wp2_with (first | (go_at_call 53; refine (CU.out _ _).mono ?_; rintro e w2 ⟨rfl, hb2⟩) | (go_at_call 52; refine (CD.out _ _).mono ?_; rintro e w2 ⟨rfl, hb2⟩))
    go_ret
    exact ⟨ret_u64' HV.out.symm, (below_fill _ _).trans (hb2.mono (by simp))⟩

theorem half_any (b : Bool) (n r d : Int) (w : World) (h0 : 0 ≤ n) (h1 : n ≤ 1000000000000000) (hr : 0 ≤ r) (hr1 : r < 1000000000) : Calls Tryd.prog 56 #[fracV b n r d] w fun e w' => e = .returned (.int .u64 (rndM 5 b n r d)) ∧ Below w.heap.size w w' := by
  have CN := hide (fun w => next_any b (decide (d ≤ 2 * r)) n r d w h0 h1)
  have HV : Hid (nextM (decide (d ≤ 2 * r)) n = rndM 5 b n r d) := rfl
  unfold fracV at *
  go_enter Tryd.func56, Tryd.ntmps56
  go_wp2_with (go_at_call 70; refine (CN.out _).mono ?_; rintro e w2 ⟨rfl, hb2⟩)
  go_ret
  exact ⟨ret_u64' HV.out, (below_fill _ _).trans (hb2.mono (by simp))⟩

theorem even_any (b : Bool) (n r d : Int) (w : World) (h0 : 0 ≤ n) (h1 : n ≤ 1000000000000000) (hr : 0 ≤ r) (hr1 : r < 1000000000) : Calls Tryd.prog 57 #[fracV b n r d] w fun e w' => e = .returned (.int .u64 (rndM 6 b n r d)) ∧ Below w.heap.size w w' := by
  have CH := hide (fun w => half_any b n r d w h0 h1 hr hr1)
  have CN := hide (fun c w => next_any b c n r d w h0 h1)
  unfold fracV at *
  by_cases he : 2 * r = d
  · have heb : (2 * r == d) = true := by simp [he]
    have HV : Hid (nextM (n % 2 == 1) n = rndM 6 b n r d) := by
      unfold Hid rndM upM
      rw [decide_eq_false (show ¬ d < 2 * r by omega), decide_eq_true he]
      rfl
    clear he
    go_enter Tryd.func57, Tryd.ntmps57
    go_wp2_with (first | (go_at_call 70; refine (CN.out _ _).mono ?_; rintro e w2 ⟨rfl, hb2⟩) | (go_at_call 56; refine (CH.out _).mono ?_; rintro e w2 ⟨rfl, hb2⟩))
    go_ret
    exact ⟨ret_u64' HV.out, (below_fill _ _).trans (hb2.mono (by simp))⟩
  · have heb : (2 * r == d) = false := by simp [he]
    have HV : Hid (rndM 5 b n r d = rndM 6 b n r d) := by
      unfold Hid rndM upM
      have : decide (d ≤ 2 * r) = decide (d < 2 * r) := decide_eq_decide.2 ⟨fun h => by omega, fun h => by omega⟩
      rw [decide_eq_false he, this]
      simp
    clear he
    go_enter Tryd.func57, Tryd.ntmps57
    go_wp2_with (first | (go_at_call 70; refine (CN.out _ _).mono ?_; rintro e w2 ⟨rfl, hb2⟩) | (go_at_call 56; refine (CH.out _).mono ?_; rintro e w2 ⟨rfl, hb2⟩))
    go_ret
    exact ⟨ret_u64' HV.out, (below_fill _ _).trans (hb2.mono (by simp))⟩

set_option maxRecDepth 100000 in
set_option maxHeartbeats 2000000 in
/-- The exact product; held or not. -/
theorem product_any (m x d : Int) (w : World) (hm0 : -1000000000000000 ≤ m) (hm1 : m ≤ 1000000000000000) (hx0 : -1000000000 ≤ x) (hx1 : x ≤ 1000000000) (hd0 : 1 ≤ d) (hd1 : d ≤ 1000000000) :
    Calls Tryd.prog 42 #[.int .i64 m, .int .i64 x, .int .i64 d] w fun e w' => Below w.heap.size w w' ∧
      ((m.natAbs : Int) * x.natAbs / d ≤ 1000000000000000 ∧ e = .returned (.tuple #[fracV (decide (m < 0) != decide (x < 0)) ((m.natAbs : Int) * x.natAbs / d) ((m.natAbs : Int) * x.natAbs % d) d, .bool true]) ∨
        1000000000000000 < (m.natAbs : Int) * x.natAbs / d ∧ ∃ b' n' r' d', e = .returned (.tuple #[fracV b' n' r' d', .bool false])) := by
  have CA := hide (fun w => size_any m w (by omega) (by omega))
  have CB := hide (fun w => size_any x w (by omega) (by omega))
  obtain ⟨a, ha⟩ : ∃ a : Int, a = m.natAbs := ⟨_, rfl⟩
  obtain ⟨b, hb⟩ : ∃ b : Int, b = x.natAbs := ⟨_, rfl⟩
  have ba : 0 ≤ a ∧ a ≤ 1000000000000000 := by omega
  have bb : 0 ≤ b ∧ b ≤ 1000000000 := by omega
  rw [← ha] at CA
  rw [← hb] at CB
  rw [← ha, ← hb]
  clear ha hb
  have CM := hide (fun w => mul64_any a b w ba.1 bb.1 (by omega) (by omega))
  obtain ⟨p, hp⟩ : ∃ p, p = a * b := ⟨_, rfl⟩
  have bp : 0 ≤ p ∧ p ≤ 1000000000000000000000000 := by
    rw [hp]
    refine ⟨Int.mul_nonneg ba.1 bb.1, ?_⟩
    have h1 : a * b ≤ 1000000000000000 * b := Int.mul_le_mul_of_nonneg_right ba.2 bb.1
    omega
  rw [← hp] at CM ⊢
  obtain ⟨hi, ehi⟩ : ∃ x, p / 18446744073709551616 = x := ⟨_, rfl⟩
  obtain ⟨lo, elo⟩ : ∃ x, p % 18446744073709551616 = x := ⟨_, rfl⟩
  rw [ehi, elo] at CM
  have bhi : 0 ≤ hi ∧ hi ≤ 100000 := by omega
  have blo : 0 ≤ lo ∧ lo ≤ 18446744073709551615 := by omega
  have HP : Hid (hi * 18446744073709551616 + lo = p) := by unfold Hid; omega
  clear ehi elo hp
  unfold fracV
  by_cases hh : d ≤ hi
  · have HQ : Hid (1000000000000000 < p / d) := by
      unfold Hid
      have h1 : d * 18446744073709551616 ≤ p := by have := HP.out; omega
      have h2 : 18446744073709551616 ≤ p / d := Int.le_ediv_of_mul_le (by omega) (by omega)
      omega
    go_enter Tryd.func42, Tryd.ntmps42
    go_wp2_with fail
    refine (CA.out _).mono ?_
    rintro e w1 ⟨rfl, hww⟩; subst w1
    go_wp2_with fail
    refine (CB.out _).mono ?_
    rintro e w1 ⟨rfl, hww⟩; subst w1
    go_wp2_with fail
    refine (CM.out _).mono ?_
    rintro e w1 ⟨rfl, hww⟩; subst w1
    go_wp2_with fail
    simp [bodyPost, results, Tryd.results42, go_sem]
    exact ⟨below_fill _ _, HQ.out⟩
  · have CV := hide (fun w => div64_any hi lo d w bhi.1 (by omega) (by omega) blo.1 blo.2)
    rw [HP.out] at CV
    obtain ⟨n, en⟩ : ∃ n, n = p / d := ⟨_, rfl⟩
    obtain ⟨r, er⟩ : ∃ r, r = p % d := ⟨_, rfl⟩
    have bn : 0 ≤ n ∧ n ≤ 1000000000000000000000000 := by rw [en]; exact ⟨Int.ediv_nonneg bp.1 (by omega), by have := Int.ediv_le_self d bp.1; omega⟩
    have br : 0 ≤ r ∧ r < d := by rw [er]; exact ⟨Int.emod_nonneg _ (by omega), Int.emod_lt_of_pos _ (by omega)⟩
    rw [← en, ← er] at CV ⊢
    clear en er
    by_cases hq : n ≤ 1000000000000000
    · go_enter Tryd.func42, Tryd.ntmps42
      go_wp2_with fail
      refine (CA.out _).mono ?_
      rintro e w1 ⟨rfl, hww⟩; subst w1
      go_wp2_with fail
      refine (CB.out _).mono ?_
      rintro e w1 ⟨rfl, hww⟩; subst w1
      go_wp2_with fail
      refine (CM.out _).mono ?_
      rintro e w1 ⟨rfl, hww⟩; subst w1
      go_wp2_with fail
      refine (CV.out _).mono ?_
      rintro e w1 ⟨rfl, rfl | rfl⟩
      · go_wp2_with fail
        simp [bodyPost, results, Tryd.results42, go_sem]
        exact ⟨below_fill _ _, hq, by cases decide (m < 0) <;> cases decide (x < 0) <;> rfl⟩
      · go_wp2_with fail
        simp [bodyPost, results, Tryd.results42, go_sem]
        exact ⟨(below_fill _ _).drew, hq, by cases decide (m < 0) <;> cases decide (x < 0) <;> rfl⟩
    · have hqb : decide (n ≤ 1000000000000000) = false := decide_eq_false hq
      go_enter Tryd.func42, Tryd.ntmps42
      go_wp2_with fail
      refine (CA.out _).mono ?_
      rintro e w1 ⟨rfl, hww⟩; subst w1
      go_wp2_with fail
      refine (CB.out _).mono ?_
      rintro e w1 ⟨rfl, hww⟩; subst w1
      go_wp2_with fail
      refine (CM.out _).mono ?_
      rintro e w1 ⟨rfl, hww⟩; subst w1
      go_wp2_with fail
      refine (CV.out _).mono ?_
      rintro e w1 ⟨rfl, rfl | rfl⟩
      · go_wp2_with fail
        simp [bodyPost, results, Tryd.results42, go_sem]
        exact ⟨below_fill _ _, by omega⟩
      · go_wp2_with fail
        simp [bodyPost, results, Tryd.results42, go_sem]
        exact ⟨(below_fill _ _).drew, by omega⟩

end Go.Proofs.YthpbadnedhjncaaDoor
