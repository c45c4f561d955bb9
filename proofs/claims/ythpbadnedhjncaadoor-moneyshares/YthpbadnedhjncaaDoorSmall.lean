/- The document's Check, Compare, Clamp and digit: what they answer. -/
import Derived.Test.YthpbadnedhjncaaDoorSums
namespace Go.Proofs.YthpbadnedhjncaaDoor
open Go.RowKit

theorem ret_i64 {a b : Int} (h : a = b) : Ending.returned (.int .i64 a) = .returned (.int .i64 b) := by rw [h]

def checkM (m : Int) : Int := if may m then 0 else 22

theorem refCheck_any (m : Int) (w : World) : Calls Tryd.prog 18 #[.int .i64 m] w fun e w' => e = .returned (.int .i64 (checkM m)) ∧ w' = w := by
  have CM := hide (fun w => may_any m w)
  cases hm : may m with
  | false =>
    rw [hm] at CM
    have HV : Hid (checkM m = 22) := by unfold Hid checkM; rw [hm]; rfl
    clear hm
    go_enter Tryd.func18, Tryd.ntmps18
    go_wp2_with (go_at_call 36; refine (CM.out _).mono ?_; rintro e w' ⟨rfl, rfl⟩)
    go_ret
    exact ⟨ret_i64 HV.out.symm, rfl⟩
  | true =>
    rw [hm] at CM
    have HV : Hid (checkM m = 0) := by unfold Hid checkM; rw [hm]; rfl
    clear hm
    go_enter Tryd.func18, Tryd.ntmps18
    go_wp2_with (go_at_call 36; refine (CM.out _).mono ?_; rintro e w' ⟨rfl, rfl⟩)
    go_ret
    exact ⟨ret_i64 HV.out.symm, rfl⟩

def cmpM (a b : Int) : Int := if a < b then -1 else if b < a then 1 else 0

theorem refCompare_any (a b : Int) (w : World) : Calls Tryd.prog 20 #[.int .i64 a, .int .i64 b] w fun e w' => e = .returned (.int .i64 (cmpM a b)) ∧ w' = w := by
  rcases (show a < b ∨ b < a ∨ (a ≤ b ∧ b ≤ a) by omega) with h | h | ⟨h, h'⟩
  · have HV : Hid (cmpM a b = -1) := by unfold Hid cmpM; rw [if_pos h]
    go_enter Tryd.func20, Tryd.ntmps20
    go_wp2
    go_ret
    exact ⟨ret_i64 HV.out.symm, rfl⟩
  · have HV : Hid (cmpM a b = 1) := by unfold Hid cmpM; rw [if_neg (by omega), if_pos h]
    go_enter Tryd.func20, Tryd.ntmps20
    go_wp2
    go_ret
    exact ⟨ret_i64 HV.out.symm, rfl⟩
  · have HV : Hid (cmpM a b = 0) := by unfold Hid cmpM; rw [if_neg (by omega), if_neg (by omega)]
    go_enter Tryd.func20, Tryd.ntmps20
    go_wp2
    go_ret
    exact ⟨ret_i64 HV.out.symm, rfl⟩

def clampM (m l u : Int) : Int × Int :=
  if may m = false ∨ may l = false ∨ may u = false then (0, 22) else if u < l then (0, 1) else if m < l then (l, 0) else if u < m then (u, 0) else (m, 0)

set_option maxHeartbeats 400000 in
theorem refClamp_any (m l u : Int) (w : World) : Calls Tryd.prog 16 #[.int .i64 m, .int .i64 l, .int .i64 u] w fun e w' => e = .returned (pairV (clampM m l u)) ∧ w' = w := by
  have C1 := hide (fun w => may_any m w)
  have C2 := hide (fun w => may_any l w)
  have C3 := hide (fun w => may_any u w)
  cases h1 : may m with
  | false =>
    have HV : Hid (clampM m l u = (0, 22)) := by unfold Hid clampM; rw [if_pos (.inl h1)]
    rw [h1] at C1
    clear h1
    go_enter Tryd.func16, Tryd.ntmps16
    go_wp2_with fail
    refine (C1.out _).mono ?_
    rintro e w1 ⟨rfl, rfl⟩
    go_wp2_with fail
    go_ret2
    exact ⟨ret_pair HV.out, rfl⟩
  | true =>
    rw [h1] at C1
    cases h2 : may l with
    | false =>
      have HV : Hid (clampM m l u = (0, 22)) := by unfold Hid clampM; rw [if_pos (.inr (.inl h2))]
      rw [h2] at C2
      clear h1 h2
      go_enter Tryd.func16, Tryd.ntmps16
      go_wp2_with fail
      refine (C1.out _).mono ?_
      rintro e w1 ⟨rfl, rfl⟩
      go_wp2_with fail
      refine (C2.out _).mono ?_
      rintro e w2 ⟨rfl, rfl⟩
      go_wp2_with fail
      go_ret2
      exact ⟨ret_pair HV.out, rfl⟩
    | true =>
      rw [h2] at C2
      cases h3 : may u with
      | false =>
        have HV : Hid (clampM m l u = (0, 22)) := by unfold Hid clampM; rw [if_pos (.inr (.inr h3))]
        rw [h3] at C3
        clear h1 h2 h3
        go_enter Tryd.func16, Tryd.ntmps16
        go_wp2_with fail
        refine (C1.out _).mono ?_
        rintro e w1 ⟨rfl, rfl⟩
        go_wp2_with fail
        refine (C2.out _).mono ?_
        rintro e w2 ⟨rfl, rfl⟩
        go_wp2_with fail
        refine (C3.out _).mono ?_
        rintro e w3 ⟨rfl, rfl⟩
        go_wp2_with fail
        go_ret2
        exact ⟨ret_pair HV.out, rfl⟩
      | true =>
        have HV : Hid (clampM m l u = if u < l then (0, 1) else if m < l then (l, 0) else if u < m then (u, 0) else (m, 0)) := by unfold Hid clampM; rw [if_neg (by rw [h1, h2, h3]; simp)]
        rw [h3] at C3
        clear h1 h2 h3
        rcases (show u < l ∨ (l ≤ u ∧ m < l) ∨ (l ≤ u ∧ l ≤ m ∧ u < m) ∨ (l ≤ u ∧ l ≤ m ∧ m ≤ u) by omega) with g | ⟨g, g1⟩ | ⟨g, g1, g2⟩ | ⟨g, g1, g2⟩
        all_goals
          go_enter Tryd.func16, Tryd.ntmps16
          go_wp2_with fail
          refine (C1.out _).mono ?_
          rintro e w1 ⟨rfl, rfl⟩
          go_wp2_with fail
          refine (C2.out _).mono ?_
          rintro e w2 ⟨rfl, rfl⟩
          go_wp2_with fail
          refine (C3.out _).mono ?_
          rintro e w3 ⟨rfl, rfl⟩
          go_wp2_with fail
          go_ret2
          refine ⟨ret_pair ?_, rfl⟩
          rw [HV.out]
          first
            | (rw [if_pos (by omega)]; done)
            | (rw [if_neg (by omega), if_pos (by omega)]; done)
            | (rw [if_neg (by omega), if_neg (by omega), if_pos (by omega)]; done)
            | (rw [if_neg (by omega), if_neg (by omega), if_neg (by omega)]; done)

end Go.Proofs.YthpbadnedhjncaaDoor
