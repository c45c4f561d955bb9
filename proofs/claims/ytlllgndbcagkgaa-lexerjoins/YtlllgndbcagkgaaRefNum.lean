/- The document's one token: a number. -/
import Derived.Test.YtlllgndbcagkgaaRefOne
namespace Go.Proofs.Ytlllgndbcagkgaa
open Go.RowKit

theorem numLen_plain {L : List UInt8} {i K : Nat} (hik : i ≤ K) (h : span digB (L.drop i) = K - i) (hn : ¬ (clsB (L.getD K 0) = 9 ∧ digB (L.getD (K + 1) 0) = true)) : numLen (L.drop i) = K - i := by
  have e1 : i + (K - i) = K := by omega
  have e2 : i + (K - i + 1) = K + 1 := by omega
  unfold numLen
  rw [h, getD_drop, getD_drop, e1, e2, if_neg hn]

theorem numLen_frac {L : List UInt8} {i P K : Nat} (hip : i ≤ P) (hpk : P + 1 ≤ K) (h : span digB (L.drop i) = P - i) (h9 : clsB (L.getD P 0) = 9) (hd : digB (L.getD (P + 1) 0) = true) (h2 : span digB (L.drop (P + 1)) = K - (P + 1)) : numLen (L.drop i) = K - i := by
  have e1 : i + (P - i) = P := by omega
  have e2 : i + (P - i + 1) = P + 1 := by omega
  unfold numLen
  rw [h, getD_drop, getD_drop, e1, e2, if_pos ⟨h9, hd⟩, List.drop_drop, e2, h2]
  omega

set_option maxRecDepth 100000 in
set_option maxHeartbeats 6400000 in
theorem one_number (s : ByteArray) (i : Nat) (w : World) (hs : s.size ≤ 100000) (hi : i < s.size) (hd : dateB (s.data.toList.drop i) = false) (hc : clsB s[i] = 5) :
    Calls Try.prog 33 #[.string s, .int .i64 i] w fun e w' => e = .returned (oneV i (one (s.data.toList.drop i))) ∧ w' = w := by
  have CD := hide (date_any s i w hs hi)
  rw [hd] at CD
  have HO1 : Hid (one (s.data.toList.drop i) = fin 3 (numLen (s.data.toList.drop i)) (s.data.toList.drop i)) := by
    have hg : (s.data.toList.drop i).getD 0 0 = s[i] := by rw [getD_drop]; exact getD_at s i hi
    unfold Hid one
    rw [hd, hg, hc]; simp
  have HL := hide (show s.data.toList.length = s.size by simp)
  have C5 := hide (digit_any s[i] w)
  rw [digB_cls.2 hc] at C5
  clear hd hc
  go_enter Try.func33, Try.ntmps33
  go_wp2_with fail
  refine CD.out.mono ?_
  rintro _ w1 ⟨rfl, hw1⟩
  subst w1
  go_wp2_with fail
  refine C5.out.mono ?_
  rintro _ w1 ⟨rfl, hw1⟩
  subst w1
  go_wp2_with fail
  clear C5 CD
  go_loop [9] (fun x => ∃ k : Nat, i ≤ k ∧ k ≤ s.size ∧ x = .int .i64 k ∧ Hid (∀ j, i ≤ j → j < k → digB (s.data.toList.getD j 0) = true)) (fun x => s.size - (intOf x).toNat)
  case atStart => exact ⟨i, Nat.le_refl _, by omega, rfl, fun j h1 h2 => by omega⟩
  case round =>
    obtain ⟨K, hik, hKs, rfl, HK⟩ := hrel
    by_cases hlt : K < s.size
    · have HG2 : Hid (s.data.toList.getD K 0 = s[K]) := getD_at s K hlt
      have CL := hide (digit_any s[K] w)
      cases hp : digB s[K] with
      | true =>
        have HN : Hid (∀ j, i ≤ j → j < K + 1 → digB (s.data.toList.getD j 0) = true) := fun j h1 h2 => by
          by_cases e : j = K
          · subst e; rw [HG2.out]; exact hp
          · exact HK.out j h1 (by omega)
        rw [hp] at CL
        clear hp HG2 HK HO1
        go_wp2_with fail
        refine CL.out.mono ?_
        rintro _ w1 ⟨rfl, hw1⟩
        subst w1
        go_wp2_with fail
        go_round
        case rel => exact ⟨K + 1, by omega, by omega, by go_num, HN⟩
        case measure => simp [intOf]; omega
      | false =>
        have HSP : Hid (span digB (s.data.toList.drop i) = K - i) := span_drop _ _ i K hik (by simp; omega) HK.out (fun _ => by rw [HG2.out]; exact hp)
        rw [hp] at CL
        have HP := hide hp
        clear hp HK
        have H9 := hide ((cls_nums s[K].toNat).2.2.2.2.2.2.2.2)
        by_cases h1 : K + 1 < s.size
        · have HG3 : Hid (s.data.toList.getD (K + 1) 0 = s[K + 1]) := getD_at s (K + 1) h1
          by_cases h46 : (s[K].toNat : Int) = 46
          · have CM := hide (digit_any s[K + 1] w)
            cases hq : digB s[K + 1] with
            | true =>
              rw [hq] at CM
              rw [h46] at CL
              have H46 := hide h46
              have HQ := hide hq
              clear hq
              go_wp2_with fail
              refine CL.out.mono ?_
              rintro _ w1 ⟨rfl, hw1⟩
              subst w1
              go_wp2_with fail
              refine CM.out.mono ?_
              rintro _ w1 ⟨rfl, hw1⟩
              subst w1
              go_wp2_with fail
              clear CL CM h46
              obtain ⟨P, hP⟩ : ∃ P, P = K := ⟨_, rfl⟩
              subst hP
              go_loop [9] (fun x => ∃ k : Nat, P + 1 ≤ k ∧ k ≤ s.size ∧ x = .int .i64 k ∧ Hid (∀ j, P + 1 ≤ j → j < k → digB (s.data.toList.getD j 0) = true)) (fun x => s.size - (intOf x).toNat)
              case atStart => exact ⟨P + 1, Nat.le_refl _, by omega, by go_num, fun j h1 h2 => by omega⟩
              case round =>
                obtain ⟨K, hpk, hKs, rfl, HZ⟩ := hrel
                have hik : i ≤ K := by omega
                have h9 : Hid (clsB (s.data.toList.getD P 0) = 9) := by rw [HG2.out]; exact H9.out.2 H46.out
                have hd1 : Hid (digB (s.data.toList.getD (P + 1) 0) = true) := by rw [HG3.out]; exact HQ.out
                clear HG3 HG2 H9 H46 HQ HP
                by_cases hlt : K < s.size
                · have HG2 : Hid (s.data.toList.getD K 0 = s[K]) := getD_at s K hlt
                  have CL := hide (digit_any s[K] w)
                  cases hp : digB s[K] with
                  | true =>
                    have HN : Hid (∀ j, P + 1 ≤ j → j < K + 1 → digB (s.data.toList.getD j 0) = true) := fun j h1 h2 => by
                      by_cases e : j = K
                      · subst e; rw [HG2.out]; exact hp
                      · exact HZ.out j h1 (by omega)
                    rw [hp] at CL
                    clear hp HG2 HZ HO1 HSP h9 hd1
                    go_wp2_with fail
                    refine CL.out.mono ?_
                    rintro _ w1 ⟨rfl, hw1⟩
                    subst w1
                    go_wp2_with fail
                    go_round
                    case rel => exact ⟨K + 1, by omega, by omega, by go_num, HN⟩
                    case measure => simp [intOf]; omega
                  | false =>
                    have HO : Hid (one (s.data.toList.drop i) = fin 3 (K - i) (s.data.toList.drop i)) := by
                      unfold Hid
                      rw [HO1.out, numLen_frac (by omega) hpk HSP.out h9.out hd1.out (span_drop _ _ (P + 1) K hpk (by simp; omega) HZ.out (fun _ => by rw [HG2.out]; exact hp))]
                    rw [hp] at CL
                    clear hp HG2 HZ HO1 HSP h9 hd1
                    go_wp2_with fail
                    refine CL.out.mono ?_
                    rintro _ w1 ⟨rfl, hw1⟩
                    subst w1
                    have CW := hide (word_any s[K] w)
                    have HG : Hid (s.data.toList.getD K 0 = s[K]) := getD_at s K hlt
                    cases hwb : wordB s[K] with
                    | true =>
                      have HV := hide (oneV_word (by omega) (by omega) HO.out (by rw [HG.out]; exact hwb))
                      rw [hwb] at CW
                      clear hwb HO HG
                      go_wp2_with fail
                      refine CW.out.mono ?_
                      rintro _ w1 ⟨rfl, hw1⟩
                      subst w1
                      go_wp2_with fail
                      try simp only [Exit.inBlock, Exit.then]
                      refine bodyPost_ret (results_tmp4 rfl _ _ _) rfl ?_
                      rw [HV.out]
                      exact ⟨rfl, rfl⟩
                    | false =>
                      have HV := hide (oneV_ok (by omega) (by omega) HO.out (by rw [HG.out]; exact hwb))
                      rw [hwb] at CW
                      clear hwb HO HG
                      go_wp2_with fail
                      refine CW.out.mono ?_
                      rintro _ w1 ⟨rfl, hw1⟩
                      subst w1
                      go_wp2_with fail
                      try simp only [Exit.inBlock, Exit.then]
                      refine bodyPost_ret (results_tmp4 rfl _ _ _) rfl ?_
                      rw [HV.out]
                      exact ⟨rfl, rfl⟩
                · have HO : Hid (one (s.data.toList.drop i) = fin 3 (K - i) (s.data.toList.drop i)) := by
                    unfold Hid
                    rw [HO1.out, numLen_frac (by omega) hpk HSP.out h9.out hd1.out (span_drop _ _ (P + 1) K hpk (by simp; omega) HZ.out (fun h => by simp at h; omega))]
                  clear HZ HO1 HSP h9 hd1
                  have HV := hide (oneV_ok (by omega) (by omega) HO.out (by rw [getD_ge (by simp; omega)]; rfl))
                  clear HO
                  go_wp2_with fail
                  try simp only [Exit.inBlock, Exit.then]
                  refine bodyPost_ret (results_tmp4 rfl _ _ _) rfl ?_
                  rw [HV.out]
                  exact ⟨rfl, rfl⟩
            | false =>
              rw [hq] at CM
              have HO : Hid (one (s.data.toList.drop i) = fin 3 (K - i) (s.data.toList.drop i)) := by
                unfold Hid
                rw [HO1.out, numLen_plain hik HSP.out (by rw [HG3.out, hq]; simp)]
              rw [h46] at CL
              have HWB : Hid (wordB s[K] = false) := decide_eq_false (by have := H9.out.2 h46; unfold clsB; omega)
              clear hq HO1
              go_wp2_with fail
              refine CL.out.mono ?_
              rintro _ w1 ⟨rfl, hw1⟩
              subst w1
              go_wp2_with fail
              refine CM.out.mono ?_
              rintro _ w1 ⟨rfl, hw1⟩
              subst w1
              have CW := hide (word_any s[K] w)
              have HG : Hid (s.data.toList.getD K 0 = s[K]) := getD_at s K hlt
              have HV := hide (oneV_ok (by omega) (by omega) HO.out (by rw [HG.out]; exact HWB.out))
              rw [HWB.out] at CW
              rw [h46] at CW
              clear HO HG
              go_wp2_with fail
              refine CW.out.mono ?_
              rintro _ w1 ⟨rfl, hw1⟩
              subst w1
              go_wp2_with fail
              try simp only [Exit.inBlock, Exit.then]
              refine bodyPost_ret (results_tmp4 rfl _ _ _) rfl ?_
              rw [HV.out]
              exact ⟨rfl, rfl⟩
          ·
            have HO : Hid (one (s.data.toList.drop i) = fin 3 (K - i) (s.data.toList.drop i)) := by
              unfold Hid
              rw [HO1.out, numLen_plain hik HSP.out (fun h => h46 (H9.out.1 (by rw [← HG2.out]; exact h.1)))]
            clear HO1
            go_wp2_with fail
            refine CL.out.mono ?_
            rintro _ w1 ⟨rfl, hw1⟩
            subst w1
            have CW := hide (word_any s[K] w)
            have HG : Hid (s.data.toList.getD K 0 = s[K]) := getD_at s K hlt
            cases hwb : wordB s[K] with
            | true =>
              have HV := hide (oneV_word (by omega) (by omega) HO.out (by rw [HG.out]; exact hwb))
              rw [hwb] at CW
              clear hwb HO HG
              go_wp2_with fail
              refine CW.out.mono ?_
              rintro _ w1 ⟨rfl, hw1⟩
              subst w1
              go_wp2_with fail
              try simp only [Exit.inBlock, Exit.then]
              refine bodyPost_ret (results_tmp4 rfl _ _ _) rfl ?_
              rw [HV.out]
              exact ⟨rfl, rfl⟩
            | false =>
              have HV := hide (oneV_ok (by omega) (by omega) HO.out (by rw [HG.out]; exact hwb))
              rw [hwb] at CW
              clear hwb HO HG
              go_wp2_with fail
              refine CW.out.mono ?_
              rintro _ w1 ⟨rfl, hw1⟩
              subst w1
              go_wp2_with fail
              try simp only [Exit.inBlock, Exit.then]
              refine bodyPost_ret (results_tmp4 rfl _ _ _) rfl ?_
              rw [HV.out]
              exact ⟨rfl, rfl⟩
        ·
          have HO : Hid (one (s.data.toList.drop i) = fin 3 (K - i) (s.data.toList.drop i)) := by
            unfold Hid
            rw [HO1.out, numLen_plain hik HSP.out (fun h => by rw [getD_ge (j := K + 1) (by rw [HL.out]; omega)] at h; exact absurd h.2 (by decide))]
          clear HO1
          go_wp2_with fail
          refine CL.out.mono ?_
          rintro _ w1 ⟨rfl, hw1⟩
          subst w1
          have CW := hide (word_any s[K] w)
          have HG : Hid (s.data.toList.getD K 0 = s[K]) := getD_at s K hlt
          cases hwb : wordB s[K] with
          | true =>
            have HV := hide (oneV_word (by omega) (by omega) HO.out (by rw [HG.out]; exact hwb))
            rw [hwb] at CW
            clear hwb HO HG
            go_wp2_with fail
            refine CW.out.mono ?_
            rintro _ w1 ⟨rfl, hw1⟩
            subst w1
            go_wp2_with fail
            try simp only [Exit.inBlock, Exit.then]
            refine bodyPost_ret (results_tmp4 rfl _ _ _) rfl ?_
            rw [HV.out]
            exact ⟨rfl, rfl⟩
          | false =>
            have HV := hide (oneV_ok (by omega) (by omega) HO.out (by rw [HG.out]; exact hwb))
            rw [hwb] at CW
            clear hwb HO HG
            go_wp2_with fail
            refine CW.out.mono ?_
            rintro _ w1 ⟨rfl, hw1⟩
            subst w1
            go_wp2_with fail
            try simp only [Exit.inBlock, Exit.then]
            refine bodyPost_ret (results_tmp4 rfl _ _ _) rfl ?_
            rw [HV.out]
            exact ⟨rfl, rfl⟩
    · have HSP : Hid (span digB (s.data.toList.drop i) = K - i) := span_drop _ _ i K hik (by simp; omega) HK.out (fun h => by simp at h; omega)
      have HO : Hid (one (s.data.toList.drop i) = fin 3 (K - i) (s.data.toList.drop i)) := by
        unfold Hid
        rw [HO1.out, numLen_plain hik HSP.out (fun h => by rw [getD_ge (j := K) (by rw [HL.out]; omega)] at h; exact absurd h.1 (by decide))]
      clear HO1 HK
      have HV := hide (oneV_ok (by omega) (by omega) HO.out (by rw [getD_ge (by simp; omega)]; rfl))
      clear HO
      go_wp2_with fail
      try simp only [Exit.inBlock, Exit.then]
      refine bodyPost_ret (results_tmp4 rfl _ _ _) rfl ?_
      rw [HV.out]
      exact ⟨rfl, rfl⟩

end Go.Proofs.Ytlllgndbcagkgaa
