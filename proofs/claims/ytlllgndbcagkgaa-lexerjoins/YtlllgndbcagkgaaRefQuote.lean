/- The document's one token: a quote, a mark, none. -/
import Derived.Test.YtlllgndbcagkgaaRefOne
namespace Go.Proofs.Ytlllgndbcagkgaa
open Go.RowKit

theorem oneV_quote {L : List UInt8} {i K : Nat} (h : i + 1 ≤ K) (hd : dateB (L.drop i) = false) (hc : clsB (L.getD i 0) = 7) (hs : span inQ (L.drop (i + 1)) = K - (i + 1)) :
    oneV i (one (L.drop i)) = if clsB (L.getD K 0) = 7 then .tuple #[.int .i64 5, .int .i64 ((K + 1 : Nat) : Int), .int .i64 0, .int .i64 0] else .tuple #[.int .i64 0, .int .i64 0, .int .i64 42, .int .i64 i] := by
  have e1 : i + (K - (i + 1) + 1) = K := by omega
  have e2 : i + (K - (i + 1) + 2) = K + 1 := by omega
  have ho : one (L.drop i) = if clsB (L.getD K 0) = 7 then (5, K - (i + 1) + 2, 0, 0) else (0, 0, 42, 0) := by
    unfold one
    rw [hd, List.drop_drop, hs, getD_drop, getD_drop, e1]
    simp only [Nat.add_zero, hc]
    simp
  rw [ho]
  split
  · simp only [oneV, if_true]; rw [e2]; rfl
  · simp [oneV]

set_option maxRecDepth 100000 in
set_option maxHeartbeats 6400000 in
theorem one_quote (s : ByteArray) (i : Nat) (w : World) (hs : s.size ≤ 100000) (hi : i < s.size) (hd : dateB (s.data.toList.drop i) = false) (hc : clsB s[i] = 7) :
    Calls Try.prog 33 #[.string s, .int .i64 i] w fun e w' => e = .returned (oneV i (one (s.data.toList.drop i))) ∧ w' = w := by
  have HD := hide hd
  have HC : Hid (clsB (s.data.toList.getD i 0) = 7) := by rw [getD_at s i hi]; exact hc
  have h34 : (s[i].toNat : Int) = 34 := (cls_nums s[i].toNat).2.2.2.2.2.2.1.1 hc
  have CD := hide (date_any s i w hs hi)
  rw [hd] at CD
  have C5 := hide (digit_any s[i] w)
  rw [show digB s[i] = false from by cases hx : digB s[i] with | false => rfl | true => (have := digB_cls.1 hx; omega)] at C5
  have C3 := hide (small_any s[i] w)
  rw [decide_eq_false (by omega)] at C3
  have C4 := hide (capital_any s[i] w)
  rw [decide_eq_false (by omega)] at C4
  rw [h34] at C5 C3 C4
  clear hd hc
  go_enter Try.func33, Try.ntmps33
  go_wp2_with fail
  refine CD.out.mono ?_
  rintro _ w1 ⟨rfl, hw1⟩
  subst w1
  go_wp2_with fail
  refine C5.out.mono ?_
  rintro _ w1 ⟨rfl, hw1⟩
  subst w1
  go_wp2_with fail
  refine C3.out.mono ?_
  rintro _ w1 ⟨rfl, hw1⟩
  subst w1
  go_wp2_with fail
  refine C4.out.mono ?_
  rintro _ w1 ⟨rfl, hw1⟩
  subst w1
  go_wp2_with fail
  clear C3 C4 C5 CD h34
  go_loop [9] (fun x => ∃ k : Nat, i + 1 ≤ k ∧ k ≤ s.size ∧ x = .int .i64 k ∧ Hid (∀ j, i + 1 ≤ j → j < k → inQ (s.data.toList.getD j 0) = true)) (fun x => s.size - (intOf x).toNat)
  case atStart => exact ⟨i + 1, Nat.le_refl _, by omega, by go_num, fun j h1 h2 => by omega⟩
  case round =>
    obtain ⟨K, hik, hKs, rfl, HK⟩ := hrel
    by_cases hlt : K < s.size
    · have HG2 : Hid (s.data.toList.getD K 0 = s[K]) := getD_at s K hlt
      have H7 := hide ((cls_nums s[K].toNat).2.2.2.2.2.2.1)
      have H1 := hide ((cls_nums s[K].toNat).1)
      by_cases h34 : (s[K].toNat : Int) = 34
      · have HV := hide (oneV_quote hik HD.out HC.out (span_drop _ _ (i + 1) K hik (by simp; omega) HK.out (fun _ => by rw [HG2.out]; exact decide_eq_false (fun h => h.1 (H7.out.2 h34)))))
        rw [if_pos (by rw [HG2.out]; exact H7.out.2 h34)] at HV
        clear HK HG2 H7 H1
        go_wp2_with fail
        try simp only [Exit.inBlock, Exit.then]
        refine bodyPost_ret (results_tmp4 rfl _ _ _) rfl ?_
        rw [HV.out]
        exact ⟨rfl, rfl⟩
      · by_cases h10 : (s[K].toNat : Int) = 10
        · have HV := hide (oneV_quote hik HD.out HC.out (span_drop _ _ (i + 1) K hik (by simp; omega) HK.out (fun _ => by rw [HG2.out]; exact decide_eq_false (fun h => h.2 (H1.out.2 h10)))))
          rw [if_neg (by rw [HG2.out]; exact fun h => h34 (H7.out.1 h))] at HV
          clear HK HG2 H7 H1
          go_wp2_with fail
          try simp only [Exit.inBlock, Exit.then]
          refine bodyPost_ret (results_tmp4 rfl _ _ _) rfl ?_
          rw [HV.out]
          exact ⟨rfl, rfl⟩
        · have HN : Hid (∀ j, i + 1 ≤ j → j < K + 1 → inQ (s.data.toList.getD j 0) = true) := fun j h1 h2 => by
            by_cases e : j = K
            · subst e; rw [HG2.out]; exact decide_eq_true ⟨fun h => h34 (H7.out.1 h), fun h => h10 (H1.out.1 h)⟩
            · exact HK.out j h1 (by omega)
          have n34 : ((s[K].toNat : Int) != 34) = true := by simpa using h34
          have n10 : ((s[K].toNat : Int) != 10) = true := by simpa using h10
          clear HK HG2 H7 H1 h34 h10
          go_wp2_with fail
          go_round
          case rel => exact ⟨K + 1, by omega, by omega, by go_num, HN⟩
          case measure => simp [intOf]; omega
    · have HV := hide (oneV_quote hik HD.out HC.out (span_drop _ _ (i + 1) K hik (by simp; omega) HK.out (fun h => by simp at h; omega)))
      rw [if_neg (by rw [getD_ge (by simp; omega)]; decide)] at HV
      clear HK
      have hKe : K = s.size := by omega
      subst hKe
      go_wp2_with fail
      try simp only [Exit.inBlock, Exit.then]
      refine bodyPost_ret (results_tmp4 rfl _ _ _) rfl ?_
      rw [HV.out]
      exact ⟨rfl, rfl⟩

theorem marks_len : ∀ k, k < 21 → (k < 8 → (marksL.getD k []).length = 2) ∧ (8 ≤ k → (marksL.getD k []).length = 1) ∧ marksL.getD k [] ∈ marksL := by decide

theorem mark_two (m : List UInt8) (h : m ∈ marksL) (hl : m.length = 2) : ∃ k, k < 8 ∧ m = marksL.getD k [] := by
  revert hl
  revert m
  decide

theorem mark_at (m : List UInt8) (h : m ∈ marksL) : ∃ k, k < 21 ∧ m = marksL.getD k [] := by
  revert m
  decide

/-- The first mark that begins there. -/
theorem one_mark {l : List UInt8} (hd : dateB l = false) (h3 : clsB (l.getD 0 0) ≠ 3) (h4 : clsB (l.getD 0 0) ≠ 4) (h5 : clsB (l.getD 0 0) ≠ 5) (h7 : clsB (l.getD 0 0) ≠ 7) {k : Nat} (hk : k < 21)
    (hn : ∀ j, j < k → begB l (marksL.getD j []) = false) (hy : begB l (marksL.getD k []) = true) : one l = (6, (marksL.getD k []).length, 0, 0) := by
  have hm := marks_len k hk
  have hb := of_decide_eq_true hy
  unfold one
  rw [hd, if_neg (by simp), if_neg h5, if_neg h3, if_neg h4, if_neg h7]
  rcases Nat.lt_or_ge k 8 with h8 | h8
  · have e := hm.1 h8
    rw [e] at hb ⊢
    rw [if_pos ⟨hb.1, decide_eq_true (by rw [hb.2]; exact hm.2.2)⟩]
  · have e := hm.2.1 h8
    rw [e] at hb ⊢
    rw [if_neg, if_pos (show markB _ = true from decide_eq_true (by rw [hb.2]; exact hm.2.2))]
    rintro ⟨h2, hmm⟩
    obtain ⟨j, hj, ej⟩ := mark_two _ (of_decide_eq_true hmm) (by simp; omega)
    have := hn j (by omega)
    have hj2 := (marks_len j (by omega)).1 hj
    refine absurd (of_decide_eq_false this) (fun h => h ⟨by omega, ?_⟩)
    rw [hj2, ← ej]

theorem one_nomark {l : List UInt8} (h0 : l ≠ []) (hd : dateB l = false) (h3 : clsB (l.getD 0 0) ≠ 3) (h4 : clsB (l.getD 0 0) ≠ 4) (h5 : clsB (l.getD 0 0) ≠ 5) (h7 : clsB (l.getD 0 0) ≠ 7)
    (hn : ∀ j, j < 21 → begB l (marksL.getD j []) = false) : one l = (0, 0, 41, 0) := by
  have no : ∀ m : List UInt8, m ∈ marksL → m.length ≤ l.length → l.take m.length = m → False := by
    intro m hm hl he
    obtain ⟨j, hj, rfl⟩ := mark_at m hm
    exact of_decide_eq_false (hn j hj) ⟨hl, he⟩
  unfold one
  rw [hd, if_neg (by simp), if_neg h5, if_neg h3, if_neg h4, if_neg h7, if_neg, if_neg]
  · intro h
    have hl : 1 ≤ l.length := List.length_pos_iff.2 h0
    have e : (l.take 1).length = 1 := by simp; omega
    exact no _ (of_decide_eq_true h) (by omega) (by rw [e])
  · rintro ⟨hl, h⟩
    have e : (l.take 2).length = 2 := by simp; omega
    exact no _ (of_decide_eq_true h) (by omega) (by rw [e])
end Go.Proofs.Ytlllgndbcagkgaa
