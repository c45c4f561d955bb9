/- The program's Scale: what it answers, of any amount, fraction and rounding. -/
import Derived.Test.YthpbadnedhjncaaDoorRounds
namespace Go.Proofs.YthpbadnedhjncaaDoor
open Go.RowKit Go.Shelf

/-- Where the product is 0, nothing hangs on its sign. -/
theorem scale_same (m x d k : Int) (hd : 1 ≤ d) : ∀ q r b, q = (m.natAbs : Int) * x.natAbs / d → r = (m.natAbs : Int) * x.natAbs % d → b = (decide (m < 0) != decide (x < 0)) →
    tailM (upM k (decide ((m < 0 ∧ 0 < x) ∨ (0 < m ∧ x < 0))) q r d) (decide ((m < 0 ∧ 0 < x) ∨ (0 < m ∧ x < 0))) q = (if 1000000000000000 < nextM (upM k b q r d) q then (0, 22) else (if b = true then -nextM (upM k b q r d) q else nextM (upM k b q r d) q, 0)) := by
  intro q r b hq hr hb
  by_cases h0 : m = 0 ∨ x = 0
  · have hp : (m.natAbs : Int) * x.natAbs = 0 := by rcases h0 with rfl | rfl <;> simp
    rw [hp] at hq hr
    have hq0 : q = 0 := by rw [hq]; simp
    have hr0 : r = 0 := by rw [hr]; simp
    have hu : ∀ c, upM k c q r d = false := by
      intro c
      unfold upM
      rw [hq0, hr0]
      repeat' split
      all_goals simp
      all_goals omega
    rw [hu, hu, hq0]
    unfold tailM nextM
    cases b <;> simp
  · have e : decide ((m < 0 ∧ 0 < x) ∨ (0 < m ∧ x < 0)) = b := by
      rw [hb]
      rcases (show m < 0 ∨ 0 < m by omega) with h1 | h1 <;> rcases (show x < 0 ∨ 0 < x by omega) with h2 | h2
      · rw [decide_eq_true h1, decide_eq_true h2]; exact decide_eq_false (by omega)
      · rw [decide_eq_true h1, decide_eq_false (show ¬ x < 0 by omega)]; exact decide_eq_true (by omega)
      · rw [decide_eq_false (show ¬ m < 0 by omega), decide_eq_true h2]; exact decide_eq_true (by omega)
      · rw [decide_eq_false (show ¬ m < 0 by omega), decide_eq_false (show ¬ x < 0 by omega)]; exact decide_eq_false (by omega)
    rw [e]
    rfl

theorem round_enters (k : Int) (n : Nat) (h : k = 1 ∧ n = 52 ∨ k = 2 ∧ n = 53 ∨ k = 3 ∧ n = 54 ∨ k = 4 ∧ n = 55 ∨ k = 5 ∧ n = 56 ∨ k = 6 ∧ n = 57) :
    ∀ args w, (callFunc n args).run Tryd.prog w = .ok (.enter n args) w := by
  rcases h with ⟨_, rfl⟩ | ⟨_, rfl⟩ | ⟨_, rfl⟩ | ⟨_, rfl⟩ | ⟨_, rfl⟩ | ⟨_, rfl⟩
  · exact enters_of Tryd.func52 (by kernel_rfl) rfl
  · exact enters_of Tryd.func53 (by kernel_rfl) rfl
  · exact enters_of Tryd.func54 (by kernel_rfl) rfl
  · exact enters_of Tryd.func55 (by kernel_rfl) rfl
  · exact enters_of Tryd.func56 (by kernel_rfl) rfl
  · exact enters_of Tryd.func57 (by kernel_rfl) rfl

set_option maxRecDepth 100000 in
set_option maxHeartbeats 2000000 in
theorem scale_any (m x d k : Int) (w : World) (hk0 : -9223372036854775808 ≤ k) (hk1 : k ≤ 9223372036854775807) :
    Calls Tryd.prog 25 #[.int .i64 m, .int .i64 x, .int .i64 d, .int .i64 k] w fun e w' => e = .returned (pairV (scaleM m x d k)) ∧ Below w.heap.size w w' := by
  have CK := hide (fun w => check_any m w)
  cases hm : may m with
  | false =>
    have HV : Hid (scaleM m x d k = (0, 22)) := by unfold Hid scaleM; rw [if_pos hm]
    rw [checkM_false hm] at CK
    clear hm
    go_enter Tryd.func25, Tryd.ntmps25
    go_wp2_with (go_at_call 17; refine (CK.out _).mono ?_; rintro e w' ⟨rfl, hww⟩; subst w')
    go_ret2
    exact ⟨ret_pair HV.out, Below.refl _ _⟩
  | true =>
    have hb := may_yes hm
    rw [checkM_true hm] at CK
    have HM := hide hm
    clear hm
    by_cases hr : d < 1 ∨ 1000000000 < d ∨ x < -1000000000 ∨ 1000000000 < x
    · have HV : Hid (scaleM m x d k = (0, 4)) := by unfold Hid scaleM; rw [if_neg (by rw [HM.out]; simp), if_pos hr]
      rcases (show d < 1 ∨ (1 ≤ d ∧ 1000000000 < d) ∨ (1 ≤ d ∧ d ≤ 1000000000 ∧ x < -1000000000) ∨ (1 ≤ d ∧ d ≤ 1000000000 ∧ -1000000000 ≤ x ∧ 1000000000 < x) by omega) with h | ⟨h, h'⟩ | ⟨h, h', h''⟩ | ⟨h, h', h'', h'''⟩
      all_goals
        clear hr
        go_enter Tryd.func25, Tryd.ntmps25
        go_wp2_with (go_at_call 17; refine (CK.out _).mono ?_; rintro e w' ⟨rfl, hww⟩; subst w')
        all_goals first | (exfalso; omega) | (go_ret2; exact ⟨ret_pair HV.out, Below.refl _ _⟩)
    · have hd0 : 1 ≤ d := by omega
      have hd1 : d ≤ 1000000000 := by omega
      have hx0 : -1000000000 ≤ x := by omega
      have hx1 : x ≤ 1000000000 := by omega
      have HR := hide hr
      clear hr
      have CR := hide (roundings_any w)
      have hT : (w.alloc (.map roundEs 6)).heap[w.heap.size]? = some (.map roundEs 6) := heap_alloc_new w _
      by_cases hk : k < 1 ∨ 6 < k
      · have HV : Hid (scaleM m x d k = (0, 1)) := by unfold Hid scaleM; rw [if_neg (by rw [HM.out]; simp), if_neg HR.out, if_pos hk]
        have kl := look_no (w.alloc (.map roundEs 6)) w.heap.size k hT hk
        have HB := hide (below_fill w (.map roundEs 6))
        generalize w.alloc (.map roundEs 6) = W at *
        clear hk hT
        go_enter Tryd.func25, Tryd.ntmps25
        go_wp2_with (first | (go_at_call 17; refine (CK.out _).mono ?_; rintro e w' ⟨rfl, hww⟩; subst w') | (go_at_call 41; refine CR.out.mono ?_; rintro e w' ⟨rfl, hww⟩; subst w'))
        go_ret2
        exact ⟨ret_pair HV.out, HB.out⟩
      · obtain ⟨n, hn⟩ : ∃ n : Nat, (k = 1 ∧ n = 52 ∨ k = 2 ∧ n = 53 ∨ k = 3 ∧ n = 54 ∨ k = 4 ∧ n = 55 ∨ k = 5 ∧ n = 56 ∨ k = 6 ∧ n = 57) := ⟨51 + k.toNat, by omega⟩
        have kl := look_yes (w.alloc (.map roundEs 6)) w.heap.size k n hT hn
        have HB := hide (below_fill w (.map roundEs 6))
        have hWs : (w.alloc (.map roundEs 6)).heap.size = w.heap.size + 1 := by simp
        generalize w.alloc (.map roundEs 6) = W at *
        have CP := hide (fun w => product_any m x d w hb.1 hb.2 hx0 hx1 hd0 hd1)
        have HSC : Hid (scaleM m x d k = tailM (upM k (decide ((m < 0 ∧ 0 < x) ∨ (0 < m ∧ x < 0))) ((m.natAbs : Int) * x.natAbs / d) ((m.natAbs : Int) * x.natAbs % d) d) (decide ((m < 0 ∧ 0 < x) ∨ (0 < m ∧ x < 0))) ((m.natAbs : Int) * x.natAbs / d)) := by
          unfold Hid scaleM; rw [if_neg (by rw [HM.out]; simp), if_neg HR.out, if_neg hk]
        have HHK := hide hk
        unfold fnV at kl
        clear hk hT
        go_enter Tryd.func25, Tryd.ntmps25
        go_wp2_with (first | (go_at_call 17; refine (CK.out _).mono ?_; rintro e w' ⟨rfl, hww⟩; subst w') | (go_at_call 41; refine CR.out.mono ?_; rintro e w' ⟨rfl, hww⟩; subst w'))
        refine (CP.out _).mono ?_
        rintro e w2 ⟨hb2, ⟨hq, rfl⟩ | ⟨hq, b', n', r', d', rfl⟩⟩
        · obtain ⟨q, eq⟩ : ∃ q, q = (m.natAbs : Int) * x.natAbs / d := ⟨_, rfl⟩
          obtain ⟨r, er⟩ : ∃ r, r = (m.natAbs : Int) * x.natAbs % d := ⟨_, rfl⟩
          have hp : 0 ≤ (m.natAbs : Int) * x.natAbs := Int.mul_nonneg (by omega) (by omega)
          have bq : 0 ≤ q := by rw [eq]; exact Int.ediv_nonneg hp (by omega)
          have br : 0 ≤ r ∧ r < d := by rw [er]; exact ⟨Int.emod_nonneg _ (by omega), Int.emod_lt_of_pos _ (by omega)⟩
          obtain ⟨b, hbb⟩ : ∃ b, b = (decide (m < 0) != decide (x < 0)) := ⟨_, rfl⟩
          have HSS := hide (scale_same m x d k hd0 q r b eq er hbb)
          rw [← eq, ← er] at HSC
          rw [← eq] at hq
          rw [← eq, ← er]
          clear eq er hp CP
          rw [← hbb]
          have HBB := hide hbb
          have CF := hide (fun w => round_any k n hn b q r d w bq hq br.1 (by omega))
          have bz : q ≤ rndM k b q r d ∧ rndM k b q r d ≤ q + 1 := by unfold rndM nextM; split <;> omega
          have HZ : Hid (scaleM m x d k = (if 1000000000000000 < rndM k b q r d then (0, 22) else (if b = true then -rndM k b q r d else rndM k b q r d, 0))) := by
            unfold Hid; rw [HSC.out]; exact HSS.out
          generalize rndM k b q r d = z at *
          have hent := round_enters k n hn
          unfold fracV at *
          clear hbb
          go_wp2_with fail
          refine (CF.out _).mono ?_
          rintro e w3 ⟨rfl, hb3⟩
          have hc0 : w3.cell? ⟨w2.heap.size, 0, none⟩ = some (.bool b) := by
            rw [hb3.cell (by simp), World.cell?_alloc_at _ _ _ _ (by simp)]; rfl
          have HB3 : Hid (Below w.heap.size w w3) := by
            have h1 := HB.out
            have h2 := hb2.mono (show w.heap.size ≤ W.heap.size by omega)
            have h3 := hb2.size
            exact ((h1.trans h2).trans ((below_fill w2 _).mono (by omega))).trans (hb3.mono (by simp; omega))
          clear hb3 hb2
          by_cases hz : 1000000000000000 < z
          · have HV : Hid (scaleM m x d k = (0, 22)) := by unfold Hid; rw [HZ.out, if_pos hz]
            go_wp2_with fail
            go_ret2
            exact ⟨ret_pair HV.out, HB3.out⟩
          · cases b with
            | true =>
              have HV : Hid (scaleM m x d k = (-z, 0)) := by unfold Hid; rw [HZ.out, if_neg hz, if_pos rfl]
              go_wp2_with fail
              go_ret2
              exact ⟨ret_pair HV.out, HB3.out⟩
            | false =>
              have HV : Hid (scaleM m x d k = (z, 0)) := by unfold Hid; rw [HZ.out, if_neg hz, if_neg (by simp)]
              go_wp2_with fail
              go_ret2
              exact ⟨ret_pair HV.out, HB3.out⟩
        · unfold fracV
          have HV : Hid (scaleM m x d k = (0, 22)) := by
            unfold Hid; rw [HSC.out]; unfold tailM
            rw [if_pos (by split <;> omega)]
          clear CP
          go_wp2_with fail
          go_ret2
          refine ⟨ret_pair HV.out, ?_⟩
          have h3 := hb2.size
          exact (HB.out.trans (hb2.mono (by omega))).trans ((below_fill w2 _).mono (by omega))

end Go.Proofs.YthpbadnedhjncaaDoor
