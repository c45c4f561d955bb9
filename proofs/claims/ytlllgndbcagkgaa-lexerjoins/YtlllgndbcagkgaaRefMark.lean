/- The document's one token: a mark, or none; whatever stands there. -/
import Derived.Test.YtlllgndbcagkgaaRefQuote
import Derived.Test.YtlllgndbcagkgaaRefNum
import Derived.Test.YtlllgndbcagkgaaRefVar
import Derived.Test.YtlllgndbcagkgaaRefName
namespace Go.Proofs.Ytlllgndbcagkgaa
open Go.RowKit

theorem marksV_at (k : Nat) (hk : k < 21) : marksV[k]? = some (.string ⟨(marksL.getD k []).toArray⟩) := by
  have hl : k < marksL.length := hk
  have e : marksL.getD k [] = marksL[k] := by rw [List.getD_eq_getElem?_getD, List.getElem?_eq_getElem hl]; rfl
  rw [e]
  unfold marksV
  rw [List.getElem?_toArray, List.getElem?_map, List.getElem?_eq_getElem hl]
  rfl

theorem marks_size (k : Nat) : (⟨(marksL.getD k []).toArray⟩ : ByteArray).size = (marksL.getD k []).length := by
  show (marksL.getD k []).toArray.size = _
  simp

set_option maxRecDepth 100000 in
set_option maxHeartbeats 6400000 in
theorem one_sign (s : ByteArray) (i : Nat) (w : World) (hs : s.size ≤ 100000) (hi : i < s.size) (hd : dateB (s.data.toList.drop i) = false) (h3 : clsB s[i] ≠ 3) (h4 : clsB s[i] ≠ 4) (h5 : clsB s[i] ≠ 5) (h7 : clsB s[i] ≠ 7) :
    Calls Try.prog 33 #[.string s, .int .i64 i] w fun e w' => e = .returned (oneV i (one (s.data.toList.drop i))) ∧ Below w.heap.size w w' := by
  have hg : (s.data.toList.drop i).getD 0 0 = s[i] := by rw [getD_drop]; exact getD_at s i hi
  have hne : s.data.toList.drop i ≠ [] := by intro h; have := congrArg List.length h; simp at this; omega
  have HY := hide (fun k hk hn hy => one_mark (l := s.data.toList.drop i) (k := k) hd (by rw [hg]; exact h3) (by rw [hg]; exact h4) (by rw [hg]; exact h5) (by rw [hg]; exact h7) hk hn hy)
  have HN := hide (one_nomark (l := s.data.toList.drop i) hne hd (by rw [hg]; exact h3) (by rw [hg]; exact h4) (by rw [hg]; exact h5) (by rw [hg]; exact h7))
  have h34 : ¬ (s[i].toNat : Int) = 34 := fun h => h7 ((cls_nums s[i].toNat).2.2.2.2.2.2.1.2 h)
  have CD := hide (date_any s i w hs hi)
  rw [hd] at CD
  have C5 := hide (digit_any s[i] w)
  rw [show digB s[i] = false from by cases hx : digB s[i] with | false => rfl | true => exact absurd (digB_cls.1 hx) h5] at C5
  have C3 := hide (small_any s[i] w)
  rw [decide_eq_false h3] at C3
  have C4 := hide (capital_any s[i] w)
  rw [decide_eq_false h4] at C4
  have CM := hide (marks_any w)
  obtain ⟨B, hB⟩ : ∃ B, w.heap.size = B := ⟨_, rfl⟩
  rw [hB] at CM ⊢
  have HB := hide hB
  have hbel : Below B w (w.alloc (.cells marksV 9)) := (Below.refl _ _).alloc (by omega) _
  have HBel := hide hbel
  have HCell : Hid (∀ k, k < 21 → (w.alloc (.cells marksV 9)).cell? ⟨B, k, none⟩ = some (.string ⟨(marksL.getD k []).toArray⟩)) := fun k hk => by
    rw [← HB.out, cell_of_row _ w.heap.size k _ 9 (0, 0) (heap_alloc_new w _)]
    exact marksV_at k hk
  clear hd h3 h4 h5 h7 hg hne hB hbel
  go_enter Try.func33, Try.ntmps33
  go_wp2_with fail
  refine CD.out.mono ?_
  rintro _ w1 ⟨rfl, hw1⟩
  subst w1
  go_wp2_with fail
  refine C5.out.mono ?_
  rintro _ w1 ⟨rfl, hw1⟩
  subst w1
  go_wp2_with fail
  refine C3.out.mono ?_
  rintro _ w1 ⟨rfl, hw1⟩
  subst w1
  go_wp2_with fail
  refine C4.out.mono ?_
  rintro _ w1 ⟨rfl, hw1⟩
  subst w1
  go_wp2_with fail
  refine CM.out.mono ?_
  rintro _ w1 ⟨rfl, hw1⟩
  rw [← hw1] at HBel HCell
  clear hw1 C3 C4 C5 CD CM h34
  go_wp2_with fail
  go_loop [12] (fun x => ∃ k : Nat, k ≤ 21 ∧ x = .int .i64 k ∧ Hid (∀ j, j < k → begB (s.data.toList.drop i) (marksL.getD j []) = false)) (fun x => 21 - (intOf x).toNat)
  case atStart => exact ⟨0, by omega, rfl, fun j h2 => by omega⟩
  case round =>
    obtain ⟨k, hk, rfl, HK⟩ := hrel
    by_cases hlt : k < 21
    · have cK := HCell.out k hlt
      have hml : (marksL.getD k []).length ≤ 2 := by have := marks_len k hlt; rcases Nat.lt_or_ge k 8 with h | h <;> omega
      have CB := hide (begins_any s ⟨(marksL.getD k []).toArray⟩ i w1 hs hi (by rw [marks_size]; omega))
      have hsz := marks_size k
      have HYk := hide (HY.out k hlt HK.out)
      obtain ⟨M, hM⟩ : ∃ M, marksL.getD k [] = M := ⟨_, rfl⟩
      have HN2 : Hid (begB (s.data.toList.drop i) M = false → ∀ j, j < k + 1 → begB (s.data.toList.drop i) (marksL.getD j []) = false) := fun h j hj => by
        by_cases e : j = k
        · subst e; rw [hM]; exact h
        · exact HK.out j (by omega)
      rw [hM] at cK hml CB hsz HYk
      clear hM HY
      obtain ⟨MB, hMB⟩ : ∃ MB : ByteArray, ⟨M.toArray⟩ = MB := ⟨_, rfl⟩
      have hMl : MB.data.toList = M := by rw [← hMB]
      rw [hMB] at cK CB hsz
      rw [hMl] at CB
      clear hMB hMl
      cases hb : begB (s.data.toList.drop i) M with
      | true =>
        rw [hb] at CB
        have HV : Hid (oneV i (one (s.data.toList.drop i)) = .tuple #[.int .i64 6, .int .i64 ((i : Int) + (M.length : Int)), .int .i64 0, .int .i64 0]) := by
          unfold Hid
          rw [HYk.out hb]
          simp only [oneV, if_true]
          rfl
        clear HYk HN2 HK hb
        go_wp2_with fail
        refine CB.out.mono ?_
        rintro _ w2 ⟨rfl, hw2⟩
        subst w2
        go_wp2_with fail
        go_quiet (fail)
        go_wp2_with fail
        try simp only [Exit.inBlock, Exit.then]
        refine bodyPost_ret (results_tmp4 rfl _ _ _) rfl ?_
        rw [HV.out]
        exact ⟨rfl, HBel.out.trans ((below_drewN w1 nq).mono (by have := HBel.out.size; have := HB.out; omega))⟩
      | false =>
        rw [hb] at CB
        have HN3 := hide (HN2.out hb)
        clear HYk HN2 HK hb
        go_wp2_with fail
        refine CB.out.mono ?_
        rintro _ w2 ⟨rfl, hw2⟩
        subst w2
        go_wp2_with fail
        go_round
        case rel => exact ⟨k + 1, by omega, by go_num, HN3⟩
        case measure => simp [intOf]; omega
    · have hke : k = 21 := by omega
      subst hke
      have HV := hide (HN.out HK.out)
      go_wp2_with fail
      try simp only [Exit.inBlock, Exit.then]
      refine bodyPost_ret (results_tmp4 rfl _ _ _) rfl ?_
      rw [HV.out]
      exact ⟨rfl, HBel.out⟩

theorem same_below {P : Program} {f : Nat} {args : Array Value} {w : World} {Q : Ending → Prop} (h : Calls P f args w fun e w' => Q e ∧ w' = w) : Calls P f args w fun e w' => Q e ∧ Below w.heap.size w w' :=
  h.mono fun _ _ ⟨h1, h2⟩ => ⟨h1, h2 ▸ Below.refl _ _⟩

theorem one_any (s : ByteArray) (i : Nat) (w : World) (hs : s.size ≤ 100000) (hi : i < s.size) :
    Calls Try.prog 33 #[.string s, .int .i64 i] w fun e w' => e = .returned (oneV i (one (s.data.toList.drop i))) ∧ Below w.heap.size w w' := by
  cases hd : dateB (s.data.toList.drop i) with
  | true => exact same_below (one_date s i w hs hi hd)
  | false =>
    by_cases h3 : clsB s[i] = 3
    · exact same_below (one_name s i w hs hi hd h3)
    · by_cases h4 : clsB s[i] = 4
      · exact same_below (one_var s i w hs hi hd h4)
      · by_cases h5 : clsB s[i] = 5
        · exact same_below (one_number s i w hs hi hd h5)
        · by_cases h7 : clsB s[i] = 7
          · exact same_below (one_quote s i w hs hi hd h7)
          · exact one_sign s i w hs hi hd h3 h4 h5 h7
end Go.Proofs.Ytlllgndbcagkgaa
