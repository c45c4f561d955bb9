/- The program's Clamp: what it answers. -/
import Derived.Test.YthpbadnedhjncaaDoorOwn1
namespace Go.Proofs.YthpbadnedhjncaaDoor
open Go.RowKit

theorem checkM_true {m : Int} (h : may m = true) : checkM m = 0 := by unfold checkM; rw [h]; rfl
theorem checkM_false {m : Int} (h : may m = false) : checkM m = 22 := by unfold checkM; rw [h]; rfl

theorem idx3 (a b c : Int) (w : World) : (Instr.index 67 (.agg #[.int .i64 a, .int .i64 b, .int .i64 c]) (.int .i64 0)).run Tryd.prog w = .ok (.int .i64 a) w ∧ (Instr.index 67 (.agg #[.int .i64 a, .int .i64 b, .int .i64 c]) (.int .i64 1)).run Tryd.prog w = .ok (.int .i64 b) w ∧ (Instr.index 67 (.agg #[.int .i64 a, .int .i64 b, .int .i64 c]) (.int .i64 2)).run Tryd.prog w = .ok (.int .i64 c) w := by
  refine ⟨?_, ?_, ?_⟩ <;> simp [Instr.index, run_underlying Tryd.underlying67, asIntOf, go_sem]

set_option maxRecDepth 100000 in
set_option maxHeartbeats 800000 in
theorem clamp_any (m l u : Int) (w : World) : Calls Tryd.prog 15 #[.int .i64 m, .int .i64 l, .int .i64 u] w fun e w' => e = .returned (pairV (clampM m l u)) ∧ w' = w := by
  have ki0 := fun w => (idx3 m l u w).1
  have ki1 := fun w => (idx3 m l u w).2.1
  have ki2 := fun w => (idx3 m l u w).2.2
  have C1 := hide (fun w => check_any m w)
  have C2 := hide (fun w => check_any l w)
  have C3 := hide (fun w => check_any u w)
  cases h1 : may m with
  | false =>
    have HV : Hid (clampM m l u = (0, 22)) := by unfold Hid clampM; rw [if_pos (.inl h1)]
    rw [checkM_false h1] at C1
    clear h1
    go_enter Tryd.func15, Tryd.ntmps15
    go_wp2_with fail
    refine wp_loop_rounds 4 ?_
    rw [rounds_succ]
    go_wp2_with fail
    refine (C1.out _).mono ?_
    rintro e w1 ⟨rfl, rfl⟩
    go_wp2_with fail
    go_ret2
    exact ⟨ret_pair HV.out, rfl⟩
  | true =>
    rw [checkM_true h1] at C1
    cases h2 : may l with
    | false =>
      have HV : Hid (clampM m l u = (0, 22)) := by unfold Hid clampM; rw [if_pos (.inr (.inl h2))]
      rw [checkM_false h2] at C2
      clear h1 h2
      go_enter Tryd.func15, Tryd.ntmps15
      go_wp2_with fail
      refine wp_loop_rounds 4 ?_
      rw [rounds_succ]
      go_wp2_with fail
      refine (C1.out _).mono ?_
      rintro e w1 ⟨rfl, rfl⟩
      go_wp2_with fail
      rw [rounds_succ]
      go_wp2_with fail
      refine (C2.out _).mono ?_
      rintro e w2 ⟨rfl, rfl⟩
      go_wp2_with fail
      go_ret2
      exact ⟨ret_pair HV.out, rfl⟩
    | true =>
      rw [checkM_true h2] at C2
      cases h3 : may u with
      | false =>
        have HV : Hid (clampM m l u = (0, 22)) := by unfold Hid clampM; rw [if_pos (.inr (.inr h3))]
        rw [checkM_false h3] at C3
        clear h1 h2 h3
        go_enter Tryd.func15, Tryd.ntmps15
        go_wp2_with fail
        refine wp_loop_rounds 4 ?_
        rw [rounds_succ]
        go_wp2_with fail
        refine (C1.out _).mono ?_
        rintro e w1 ⟨rfl, rfl⟩
        go_wp2_with fail
        rw [rounds_succ]
        go_wp2_with fail
        refine (C2.out _).mono ?_
        rintro e w2 ⟨rfl, rfl⟩
        go_wp2_with fail
        rw [rounds_succ]
        go_wp2_with fail
        refine (C3.out _).mono ?_
        rintro e w3 ⟨rfl, rfl⟩
        go_wp2_with fail
        go_ret2
        exact ⟨ret_pair HV.out, rfl⟩
      | true =>
        have HV : Hid (clampM m l u = if u < l then (0, 1) else if m < l then (l, 0) else if u < m then (u, 0) else (m, 0)) := by unfold Hid clampM; rw [if_neg (by rw [h1, h2, h3]; simp)]
        rw [checkM_true h3] at C3
        clear h1 h2 h3
        rcases (show u < l ∨ (l ≤ u ∧ m < l) ∨ (l ≤ u ∧ l ≤ m ∧ u < m) ∨ (l ≤ u ∧ l ≤ m ∧ m ≤ u) by omega) with g | ⟨g, g1⟩ | ⟨g, g1, g2⟩ | ⟨g, g1, g2⟩
        all_goals
          go_enter Tryd.func15, Tryd.ntmps15
          go_wp2_with fail
          refine wp_loop_rounds 4 ?_
          rw [rounds_succ]
          go_wp2_with fail
          refine (C1.out _).mono ?_
          rintro e w1 ⟨rfl, rfl⟩
          go_wp2_with fail
          rw [rounds_succ]
          go_wp2_with fail
          refine (C2.out _).mono ?_
          rintro e w2 ⟨rfl, rfl⟩
          go_wp2_with fail
          rw [rounds_succ]
          go_wp2_with fail
          refine (C3.out _).mono ?_
          rintro e w3 ⟨rfl, rfl⟩
          go_wp2_with fail
          rw [rounds_succ]
          go_wp2_with fail
          go_ret2
          refine ⟨ret_pair ?_, rfl⟩
          rw [HV.out]
          first
            | (rw [if_pos (by omega)]; done)
            | (rw [if_neg (by omega), if_pos (by omega)]; done)
            | (rw [if_neg (by omega), if_neg (by omega), if_pos (by omega)]; done)
            | (rw [if_neg (by omega), if_neg (by omega), if_neg (by omega)]; done)

end Go.Proofs.YthpbadnedhjncaaDoor
