/- The document's one token: a var. -/
import Derived.Test.YtlllgndbcagkgaaRefOne
namespace Go.Proofs.Ytlllgndbcagkgaa
open Go.RowKit

set_option maxRecDepth 100000 in
set_option maxHeartbeats 6400000 in
theorem one_var (s : ByteArray) (i : Nat) (w : World) (hs : s.size ≤ 100000) (hi : i < s.size) (hd : dateB (s.data.toList.drop i) = false) (hc : clsB s[i] = 4) :
    Calls Try.prog 33 #[.string s, .int .i64 i] w fun e w' => e = .returned (oneV i (one (s.data.toList.drop i))) ∧ w' = w := by
  have CD := hide (date_any s i w hs hi)
  rw [hd] at CD
  have HO1 : Hid (one (s.data.toList.drop i) = fin 2 (span wordB (s.data.toList.drop i)) (s.data.toList.drop i)) := by
    have hg : (s.data.toList.drop i).getD 0 0 = s[i] := by rw [getD_drop]; exact getD_at s i hi
    unfold Hid one
    rw [hd, hg, hc]; simp
  have C5 := hide (digit_any s[i] w)
  rw [show digB s[i] = false from by cases hx : digB s[i] with | false => rfl | true => (have := digB_cls.1 hx; omega)] at C5
  have C3 := hide (small_any s[i] w)
  rw [decide_eq_false (by omega)] at C3
  have C4 := hide (capital_any s[i] w)
  rw [decide_eq_true hc] at C4
  clear hd hc
  go_enter Try.func33, Try.ntmps33
  go_wp2_with fail
  refine CD.out.mono ?_
  rintro _ w1 ⟨rfl, hw1⟩
  subst w1
  go_wp2_with fail
  refine C5.out.mono ?_
  rintro _ w1 ⟨rfl, hw1⟩
  subst w1
  go_wp2_with fail
  refine C3.out.mono ?_
  rintro _ w1 ⟨rfl, hw1⟩
  subst w1
  go_wp2_with fail
  refine C4.out.mono ?_
  rintro _ w1 ⟨rfl, hw1⟩
  subst w1
  go_wp2_with fail
  clear C5 C3 C4 CD
  go_loop [9] (fun x => ∃ k : Nat, i ≤ k ∧ k ≤ s.size ∧ x = .int .i64 k ∧ Hid (∀ j, i ≤ j → j < k → wordB (s.data.toList.getD j 0) = true)) (fun x => s.size - (intOf x).toNat)
  case atStart => exact ⟨i, Nat.le_refl _, by omega, rfl, fun j h1 h2 => by omega⟩
  case round =>
    obtain ⟨K, hik, hKs, rfl, HK⟩ := hrel
    by_cases hlt : K < s.size
    · have HG2 : Hid (s.data.toList.getD K 0 = s[K]) := getD_at s K hlt
      cases hp : wordB s[K] with
      | true =>
        have HN : Hid (∀ j, i ≤ j → j < K + 1 → wordB (s.data.toList.getD j 0) = true) := fun j h1 h2 => by
          by_cases e : j = K
          · subst e; rw [HG2.out]; exact hp
          · exact HK.out j h1 (by omega)
        have CL := hide (word_any s[K] w)
        rw [hp] at CL
        clear hp HG2 HK HO1
        go_wp2_with fail
        refine CL.out.mono ?_
        rintro _ w1 ⟨rfl, hw1⟩
        subst w1
        go_wp2_with fail
        go_round
        case rel => exact ⟨K + 1, by omega, by omega, by go_num, HN⟩
        case measure => simp [intOf]; omega
      | false =>
        have HO : Hid (one (s.data.toList.drop i) = fin 2 (K - i) (s.data.toList.drop i)) := by
          unfold Hid
          rw [HO1.out, span_drop _ _ i K hik (by simp; omega) HK.out (fun _ => by rw [HG2.out]; exact hp)]
        have CL := hide (word_any s[K] w)
        rw [hp] at CL
        clear HK HO1
        have HP2 := hide hp
        clear hp
        go_wp2_with fail
        refine CL.out.mono ?_
        rintro _ w1 ⟨rfl, hw1⟩
        subst w1
        by_cases hov : 32 < K - i
        · have HV := hide (oneV_over (by omega) hov HO.out)
          have hov' : 32 < (K : Int) - (i : Int) := by omega
          clear hov HO
          go_wp2_with fail
          try simp only [Exit.inBlock, Exit.then]
          refine bodyPost_ret (results_tmp4 rfl _ _ _) rfl ?_
          rw [HV.out]
          exact ⟨rfl, rfl⟩
        · have hov' : ¬ 32 < (K : Int) - (i : Int) := by omega
          have CW := hide (word_any s[K] w)
          have HG : Hid (s.data.toList.getD K 0 = s[K]) := getD_at s K hlt
          have HV := hide (oneV_ok (by omega) (fun h => hov h.2) HO.out (by rw [HG.out]; exact HP2.out))
          rw [HP2.out] at CW
          clear HO HG
          go_wp2_with fail
          refine CW.out.mono ?_
          rintro _ w1 ⟨rfl, hw1⟩
          subst w1
          go_wp2_with fail
          try simp only [Exit.inBlock, Exit.then]
          refine bodyPost_ret (results_tmp4 rfl _ _ _) rfl ?_
          rw [HV.out]
          exact ⟨rfl, rfl⟩

    · have HO : Hid (one (s.data.toList.drop i) = fin 2 (K - i) (s.data.toList.drop i)) := by
        unfold Hid
        rw [HO1.out, span_drop _ _ i K hik (by simp; omega) HK.out (fun h => by simp at h; omega)]
      clear HO1 HK
      by_cases hov : 32 < K - i
      · have HV := hide (oneV_over (by omega) hov HO.out)
        have hov' : 32 < (K : Int) - (i : Int) := by omega
        clear hov HO
        go_wp2_with fail
        try simp only [Exit.inBlock, Exit.then]
        refine bodyPost_ret (results_tmp4 rfl _ _ _) rfl ?_
        rw [HV.out]
        exact ⟨rfl, rfl⟩
      · have hov' : ¬ 32 < (K : Int) - (i : Int) := by omega
        have HV := hide (oneV_ok (by omega) (fun h => hov h.2) HO.out (by rw [getD_ge (by simp; omega)]; rfl))
        clear HO
        go_wp2_with fail
        try simp only [Exit.inBlock, Exit.then]
        refine bodyPost_ret (results_tmp4 rfl _ _ _) rfl ?_
        rw [HV.out]
        exact ⟨rfl, rfl⟩

end Go.Proofs.Ytlllgndbcagkgaa
