/- The document's Scale, of anything: it answers what scaleM says. -/
import Derived.Test.YthpbadnedhjncaaDoorScale
namespace Go.Proofs.YthpbadnedhjncaaDoor
open Go.RowKit

set_option maxRecDepth 100000 in
set_option maxHeartbeats 1000000 in
theorem refScale_may (m x d r : Int) (w : World) (hm : may m = false) :
    Calls Tryd.prog 26 #[.int .i64 m, .int .i64 x, .int .i64 d, .int .i64 r] w fun e w' => e = .returned (pairV (0, 22)) ∧ w' = w := by
  have CM := hide (fun w => may_any m w)
  rw [hm] at CM
  clear hm
  go_enter Tryd.func26, Tryd.ntmps26
  go_wp2_with (go_at_call 36; refine (CM.out _).mono ?_; rintro e w' ⟨rfl, rfl⟩)
  go_ret2
  exact ⟨ret_pair rfl, rfl⟩

set_option maxRecDepth 100000 in
set_option maxHeartbeats 1000000 in
theorem refScale_range (m x d r : Int) (w : World) (hm : may m = true) (h : d < 1 ∨ 1000000000 < d ∨ x < -1000000000 ∨ 1000000000 < x) :
    Calls Tryd.prog 26 #[.int .i64 m, .int .i64 x, .int .i64 d, .int .i64 r] w fun e w' => e = .returned (pairV (0, 4)) ∧ w' = w := by
  have CM := hide (fun w => may_any m w)
  rw [hm] at CM
  clear hm
  by_cases t1 : d < 1
  · go_enter Tryd.func26, Tryd.ntmps26
    go_wp2_with (go_at_call 36; refine (CM.out _).mono ?_; rintro e w' ⟨rfl, rfl⟩)
    go_ret2
    exact ⟨ret_pair rfl, rfl⟩
  · have b1 : decide (d < 1) = false := decide_eq_false t1
    by_cases t2 : 1000000000 < d
    · go_enter Tryd.func26, Tryd.ntmps26
      go_wp2_with (go_at_call 36; refine (CM.out _).mono ?_; rintro e w' ⟨rfl, rfl⟩)
      go_ret2
      exact ⟨ret_pair rfl, rfl⟩
    · have b2 : decide (1000000000 < d) = false := decide_eq_false t2
      by_cases t3 : x < -1000000000
      · go_enter Tryd.func26, Tryd.ntmps26
        go_wp2_with (go_at_call 36; refine (CM.out _).mono ?_; rintro e w' ⟨rfl, rfl⟩)
        go_ret2
        exact ⟨ret_pair rfl, rfl⟩
      · have b3 : decide (x < -1000000000) = false := decide_eq_false t3
        have t4 : 1000000000 < x := by omega
        go_enter Tryd.func26, Tryd.ntmps26
        go_wp2_with (go_at_call 36; refine (CM.out _).mono ?_; rintro e w' ⟨rfl, rfl⟩)
        go_ret2
        exact ⟨ret_pair rfl, rfl⟩

set_option maxRecDepth 100000 in
set_option maxHeartbeats 1000000 in
theorem refScale_round (m x d r : Int) (w : World) (hm : may m = true) (h : ¬ (d < 1 ∨ 1000000000 < d ∨ x < -1000000000 ∨ 1000000000 < x)) (hr : r < 1 ∨ 6 < r) :
    Calls Tryd.prog 26 #[.int .i64 m, .int .i64 x, .int .i64 d, .int .i64 r] w fun e w' => e = .returned (pairV (0, 1)) ∧ w' = w := by
  have CM := hide (fun w => may_any m w)
  rw [hm] at CM
  clear hm
  have b1 : decide (d < 1) = false := decide_eq_false (by omega)
  have b2 : decide (1000000000 < d) = false := decide_eq_false (by omega)
  have b3 : decide (x < -1000000000) = false := decide_eq_false (by omega)
  have b4 : decide (1000000000 < x) = false := decide_eq_false (by omega)
  by_cases t1 : r < 1
  · clear h hr
    go_enter Tryd.func26, Tryd.ntmps26
    go_wp2_with (go_at_call 36; refine (CM.out _).mono ?_; rintro e w' ⟨rfl, rfl⟩)
    go_ret2
    exact ⟨ret_pair rfl, rfl⟩
  · have b5 : decide (r < 1) = false := decide_eq_false t1
    have t2 : 6 < r := by omega
    clear h hr
    go_enter Tryd.func26, Tryd.ntmps26
    go_wp2_with (go_at_call 36; refine (CM.out _).mono ?_; rintro e w' ⟨rfl, rfl⟩)
    go_ret2
    exact ⟨ret_pair rfl, rfl⟩

theorem refScale_any (m x d r : Int) (w : World) :
    Calls Tryd.prog 26 #[.int .i64 m, .int .i64 x, .int .i64 d, .int .i64 r] w fun e w' => e = .returned (pairV (scaleM m x d r)) ∧ Below w.heap.size w w' := by
  unfold scaleM
  by_cases h1 : may m = false
  · rw [if_pos h1]
    exact (refScale_may m x d r w h1).mono fun _ _ ⟨a, b⟩ => ⟨a, by rw [b]; exact Below.refl _ _⟩
  · have hm : may m = true := by cases h : may m with | true => rfl | false => exact absurd h h1
    rw [if_neg h1]
    by_cases h2 : d < 1 ∨ 1000000000 < d ∨ x < -1000000000 ∨ 1000000000 < x
    · rw [if_pos h2]
      exact (refScale_range m x d r w hm h2).mono fun _ _ ⟨a, b⟩ => ⟨a, by rw [b]; exact Below.refl _ _⟩
    · rw [if_neg h2]
      by_cases h3 : r < 1 ∨ 6 < r
      · rw [if_pos h3]
        exact (refScale_round m x d r w hm h2 h3).mono fun _ _ ⟨a, b⟩ => ⟨a, by rw [b]; exact Below.refl _ _⟩
      · rw [if_neg h3]
        exact refScale_in m x d r w (may_yes hm) (by omega) (by omega) (by omega) _ _ _ _ _ rfl rfl rfl rfl rfl

end Go.Proofs.YthpbadnedhjncaaDoor
