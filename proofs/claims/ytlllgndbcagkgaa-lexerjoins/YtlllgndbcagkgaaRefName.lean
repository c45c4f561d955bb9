/- The document's one token: a name. -/
import Derived.Test.YtlllgndbcagkgaaRefOne
namespace Go.Proofs.Ytlllgndbcagkgaa
open Go.RowKit

set_option maxRecDepth 100000 in
set_option maxHeartbeats 6400000 in
theorem one_name (s : ByteArray) (i : Nat) (w : World) (hs : s.size ≤ 100000) (hi : i < s.size) (hd : dateB (s.data.toList.drop i) = false) (hc : clsB s[i] = 3) :
    Calls Try.prog 33 #[.string s, .int .i64 i] w fun e w' => e = .returned (oneV i (one (s.data.toList.drop i))) ∧ w' = w := by
  have CD := hide (date_any s i w hs hi)
  rw [hd] at CD
  have HO1 : Hid (one (s.data.toList.drop i) = fin 1 (span nameB (s.data.toList.drop i)) (s.data.toList.drop i)) := by
    have hg : (s.data.toList.drop i).getD 0 0 = s[i] := by rw [getD_drop]; exact getD_at s i hi
    unfold Hid one
    rw [hd, hg, hc]; simp
  have C5 := hide (digit_any s[i] w)
  rw [show digB s[i] = false from by cases hx : digB s[i] with | false => rfl | true => (have := digB_cls.1 hx; omega)] at C5
  have C3 := hide (small_any s[i] w)
  rw [decide_eq_true hc] at C3
  clear hd hc
  go_enter Try.func33, Try.ntmps33
  go_wp2_with fail
  refine CD.out.mono ?_
  rintro _ w1 ⟨rfl, hw1⟩
  subst w1
  go_wp2_with fail
  refine C5.out.mono ?_
  rintro _ w1 ⟨rfl, hw1⟩
  subst w1
  go_wp2_with fail
  refine C3.out.mono ?_
  rintro _ w1 ⟨rfl, hw1⟩
  subst w1
  go_wp2_with fail
  clear C5 C3 CD
  go_loop [9] (fun x => ∃ k : Nat, i ≤ k ∧ k ≤ s.size ∧ x = .int .i64 k ∧ Hid (∀ j, i ≤ j → j < k → nameB (s.data.toList.getD j 0) = true)) (fun x => s.size - (intOf x).toNat)
  case atStart => exact ⟨i, Nat.le_refl _, by omega, rfl, fun j h1 h2 => by omega⟩
  case round =>
    obtain ⟨K, hik, hKs, rfl, HK⟩ := hrel
    by_cases hlt : K < s.size
    · have HG2 : Hid (s.data.toList.getD K 0 = s[K]) := getD_at s K hlt
      cases hp : nameB s[K] with
      | true =>
        have HN : Hid (∀ j, i ≤ j → j < K + 1 → nameB (s.data.toList.getD j 0) = true) := fun j h1 h2 => by
          by_cases e : j = K
          · subst e; rw [HG2.out]; exact hp
          · exact HK.out j h1 (by omega)
        have L3 := hide (small_any s[K] w)
        have L5 := hide (digit_any s[K] w)
        have HC := (cls_nums s[K].toNat).2.2.2.2.2.1
        by_cases h3 : clsB s[K] = 3
        · rw [decide_eq_true h3] at L3
          clear hp HG2 HK HO1 HC h3
          go_wp2_with fail
          refine L3.out.mono ?_
          rintro _ w1 ⟨rfl, hw1⟩
          subst w1
          go_wp2_with fail
          go_round
          case rel => exact ⟨K + 1, by omega, by omega, by go_num, HN⟩
          case measure => simp [intOf]; omega
        · rw [decide_eq_false h3] at L3
          by_cases h5 : clsB s[K] = 5
          · rw [digB_cls.2 h5] at L5
            clear hp HG2 HK HO1 HC h3 h5
            go_wp2_with fail
            refine L3.out.mono ?_
            rintro _ w1 ⟨rfl, hw1⟩
            subst w1
            go_wp2_with fail
            refine L5.out.mono ?_
            rintro _ w1 ⟨rfl, hw1⟩
            subst w1
            go_wp2_with fail
            go_round
            case rel => exact ⟨K + 1, by omega, by omega, by go_num, HN⟩
            case measure => simp [intOf]; omega
          · rw [show digB s[K] = false from by cases hx : digB s[K] with | false => rfl | true => exact absurd (digB_cls.1 hx) h5] at L5
            have h6 : (s[K].toNat : Int) = 95 := HC.1 (by have := of_decide_eq_true hp; unfold clsB at *; omega)
            rw [h6] at L3 L5
            clear hp HG2 HK HO1 HC h3 h5
            go_wp2_with fail
            refine L3.out.mono ?_
            rintro _ w1 ⟨rfl, hw1⟩
            subst w1
            go_wp2_with fail
            refine L5.out.mono ?_
            rintro _ w1 ⟨rfl, hw1⟩
            subst w1
            go_wp2_with fail
            go_round
            case rel => exact ⟨K + 1, by omega, by omega, by go_num, HN⟩
            case measure => simp [intOf]; omega
      | false =>
        have HO : Hid (one (s.data.toList.drop i) = fin 1 (K - i) (s.data.toList.drop i)) := by
          unfold Hid
          rw [HO1.out, span_drop _ _ i K hik (by simp; omega) HK.out (fun _ => by rw [HG2.out]; exact hp)]
        have L3 := hide (small_any s[K] w)
        have L5 := hide (digit_any s[K] w)
        have HC := (cls_nums s[K].toNat).2.2.2.2.2.1
        have hq := of_decide_eq_false hp
        have h6 : ¬ (s[K].toNat : Int) = 95 := fun h => hq (.inr (.inr (HC.2 h)))
        rw [decide_eq_false (fun h => hq (.inl h))] at L3
        rw [show digB s[K] = false from by cases hx : digB s[K] with | false => rfl | true => exact absurd (.inr (.inl (digB_cls.1 hx))) hq] at L5
        clear hp hq HC HK HO1 HG2
        go_wp2_with fail
        refine L3.out.mono ?_
        rintro _ w1 ⟨rfl, hw1⟩
        subst w1
        go_wp2_with fail
        refine L5.out.mono ?_
        rintro _ w1 ⟨rfl, hw1⟩
        subst w1
        by_cases hov : 32 < K - i
        · have HV := hide (oneV_over (by omega) hov HO.out)
          have hov' : 32 < (K : Int) - (i : Int) := by omega
          clear hov HO
          go_wp2_with fail
          try simp only [Exit.inBlock, Exit.then]
          refine bodyPost_ret (results_tmp4 rfl _ _ _) rfl ?_
          rw [HV.out]
          exact ⟨rfl, rfl⟩
        · have hov' : ¬ 32 < (K : Int) - (i : Int) := by omega
          have CW := hide (word_any s[K] w)
          have HG : Hid (s.data.toList.getD K 0 = s[K]) := getD_at s K hlt
          cases hwb : wordB s[K] with
          | true =>
            have HV := hide (oneV_word (by omega) (fun h => hov h.2) HO.out (by rw [HG.out]; exact hwb))
            rw [hwb] at CW
            clear hwb HO HG
            go_wp2_with fail
            refine CW.out.mono ?_
            rintro _ w1 ⟨rfl, hw1⟩
            subst w1
            go_wp2_with fail
            try simp only [Exit.inBlock, Exit.then]
            refine bodyPost_ret (results_tmp4 rfl _ _ _) rfl ?_
            rw [HV.out]
            exact ⟨rfl, rfl⟩
          | false =>
            have HV := hide (oneV_ok (by omega) (fun h => hov h.2) HO.out (by rw [HG.out]; exact hwb))
            rw [hwb] at CW
            clear hwb HO HG
            go_wp2_with fail
            refine CW.out.mono ?_
            rintro _ w1 ⟨rfl, hw1⟩
            subst w1
            go_wp2_with fail
            try simp only [Exit.inBlock, Exit.then]
            refine bodyPost_ret (results_tmp4 rfl _ _ _) rfl ?_
            rw [HV.out]
            exact ⟨rfl, rfl⟩

    · have HO : Hid (one (s.data.toList.drop i) = fin 1 (K - i) (s.data.toList.drop i)) := by
        unfold Hid
        rw [HO1.out, span_drop _ _ i K hik (by simp; omega) HK.out (fun h => by simp at h; omega)]
      clear HO1 HK
      by_cases hov : 32 < K - i
      · have HV := hide (oneV_over (by omega) hov HO.out)
        have hov' : 32 < (K : Int) - (i : Int) := by omega
        clear hov HO
        go_wp2_with fail
        try simp only [Exit.inBlock, Exit.then]
        refine bodyPost_ret (results_tmp4 rfl _ _ _) rfl ?_
        rw [HV.out]
        exact ⟨rfl, rfl⟩
      · have hov' : ¬ 32 < (K : Int) - (i : Int) := by omega
        have HV := hide (oneV_ok (by omega) (fun h => hov h.2) HO.out (by rw [getD_ge (by simp; omega)]; rfl))
        clear HO
        go_wp2_with fail
        try simp only [Exit.inBlock, Exit.then]
        refine bodyPost_ret (results_tmp4 rfl _ _ _) rfl ?_
        rw [HV.out]
        exact ⟨rfl, rfl⟩

end Go.Proofs.Ytlllgndbcagkgaa
