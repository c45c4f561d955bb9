/- The document's functions: word, blank, date, begins, marks. -/
import Derived.Test.YtlllgndbcagkgaaRefSmall
import Derived.Laws.IdiomStrings
namespace Go.Proofs.Ytlllgndbcagkgaa
open Go.RowKit

set_option maxHeartbeats 1600000 in
theorem word_any (c : UInt8) (w : World) : Calls Try.prog 50 #[.int .u8 c.toNat] w fun e w' => e = .returned (.bool (wordB c)) ∧ w' = w := by
  have CS := hide (small_any c w)
  have CP := hide (capital_any c w)
  have CD := hide (digit_any c w)
  have HW : Hid (wordB c = decide (clsB c = 3 ∨ clsB c = 4 ∨ clsB c = 5 ∨ clsB c = 6)) := rfl
  by_cases h3 : clsB c = 3
  · rw [decide_eq_true h3] at CS
    rw [decide_eq_true (Or.inl h3)] at HW
    clear h3
    go_enter Try.func50, Try.ntmps50
    go_wp2_with fail
    refine CS.out.mono ?_
    rintro _ w1 ⟨rfl, hw⟩
    subst w1
    go_wp2_with fail
    go_ret
    exact ⟨ret_bool HW.out.symm, rfl⟩
  · rw [decide_eq_false h3] at CS
    by_cases h4 : clsB c = 4
    · rw [decide_eq_true h4] at CP
      rw [decide_eq_true (Or.inr (Or.inl h4))] at HW
      clear h3 h4
      go_enter Try.func50, Try.ntmps50
      go_wp2_with fail
      refine CS.out.mono ?_
      rintro _ w1 ⟨rfl, hw⟩
      subst w1
      go_wp2_with fail
      refine CP.out.mono ?_
      rintro _ w1 ⟨rfl, hw⟩
      subst w1
      go_wp2_with fail
      go_ret
      exact ⟨ret_bool HW.out.symm, rfl⟩
    · rw [decide_eq_false h4] at CP
      by_cases h5 : clsB c = 5
      · rw [digB_cls.2 h5] at CD
        rw [decide_eq_true (Or.inr (Or.inr (Or.inl h5)))] at HW
        clear h3 h4 h5
        go_enter Try.func50, Try.ntmps50
        go_wp2_with fail
        refine CS.out.mono ?_
        rintro _ w1 ⟨rfl, hw⟩
        subst w1
        go_wp2_with fail
        refine CP.out.mono ?_
        rintro _ w1 ⟨rfl, hw⟩
        subst w1
        go_wp2_with fail
        refine CD.out.mono ?_
        rintro _ w1 ⟨rfl, hw⟩
        subst w1
        go_wp2_with fail
        go_ret
        exact ⟨ret_bool HW.out.symm, rfl⟩
      · have hd : digB c = false := by
          cases hx : digB c with
          | false => rfl
          | true => exact absurd (digB_cls.1 hx) h5
        rw [hd] at CD
        have H6 := (cls_nums c.toNat).2.2.2.2.2.1
        have HW2 : Hid (wordB c = decide ((c.toNat : Int) = 95)) := by
          unfold Hid wordB
          rw [decide_eq_decide]
          unfold clsB at *
          rw [← H6]; omega
        clear h3 h4 h5 H6 HW hd
        go_enter Try.func50, Try.ntmps50
        go_wp2_with fail
        refine CS.out.mono ?_
        rintro _ w1 ⟨rfl, hw⟩
        subst w1
        go_wp2_with fail
        refine CP.out.mono ?_
        rintro _ w1 ⟨rfl, hw⟩
        subst w1
        go_wp2_with fail
        refine CD.out.mono ?_
        rintro _ w1 ⟨rfl, hw⟩
        subst w1
        go_wp2_with fail
        go_ret
        refine ⟨?_, rfl⟩
        rw [HW2.out]
        exact ret_bool (by simp [Bool.beq_eq_decide_eq])

set_option maxHeartbeats 1600000 in
theorem blank_any (c : UInt8) (w : World) : Calls Try.prog 31 #[.int .u8 c.toNat] w fun e w' => e = .returned (.bool (blankB c)) ∧ w' = w := by
  have H1 := (cls_nums c.toNat).1
  have H2 := (cls_nums c.toNat).2.1
  have e : blankB c = decide ((c.toNat : Int) = 9 ∨ (c.toNat : Int) = 10 ∨ (c.toNat : Int) = 13 ∨ (c.toNat : Int) = 32) := by
    unfold blankB clsB
    rw [decide_eq_decide]; omega
  rw [e]
  clear H1 H2 e
  go_enter Try.func31, Try.ntmps31
  go_wp2
  all_goals go_ret
  all_goals refine ⟨ret_bool ?_, rfl⟩
  all_goals
    rw [Bool.eq_iff_iff]
    simp only [Bool.or_eq_true, beq_iff_eq, decide_eq_true_eq, true_iff]
    omega

set_option maxHeartbeats 3200000 in
theorem date_any (s : ByteArray) (i : Nat) (w : World) (hs : s.size ≤ 100000) (hi : i < s.size) : Calls Try.prog 46 #[.string s, .int .i64 i] w fun e w' => e = .returned (.bool (dateB (s.data.toList.drop i))) ∧ w' = w := by
  have hlen : (s.data.toList.drop i).length = s.size - i := by simp
  by_cases hl : s.size < i + 10
  · have HD : Hid (dateB (s.data.toList.drop i) = false) := by
      unfold Hid dateB
      rw [decide_eq_false (by omega)]; rfl
    go_enter Try.func46, Try.ntmps46
    go_wp2
    go_ret
    exact ⟨ret_bool HD.out.symm, rfl⟩
  · go_enter Try.func46, Try.ntmps46
    go_wp2
    go_loop [5] (fun x => ∃ k : Nat, k ≤ 10 ∧ x = .int .i64 k ∧ Hid (∀ j, j < k → dpat j ((s.data.toList.drop i).getD j 0) = true)) (fun x => 10 - (intOf x).toNat)
    case atStart => exact ⟨0, by omega, rfl, fun j hj => by omega⟩
    case round =>
      obtain ⟨k, hk, rfl, HK⟩ := hrel
      by_cases hkl : k < 10
      · have hks : i + k < s.size := by omega
        have HG : Hid ((s.data.toList.drop i).getD k 0 = s[i + k]) := by unfold Hid; rw [getD_drop, getD_at s (i + k) hks]
        have CC := hide (digit_any s[i + k] w)
        by_cases h47 : k = 4 ∨ k = 7
        · have HP : Hid (∀ c, dpat k c = decide (c.toNat = 45)) := fun c => by simp [dpat, h47]
          by_cases hd : (s[i + k].toNat : Int) = 45
          · have HN : Hid (∀ j, j < k + 1 → dpat j ((s.data.toList.drop i).getD j 0) = true) := fun j hj => by
              by_cases e : j = k
              · subst e; rw [HP.out, HG.out]; simp only [decide_eq_true_eq]; omega
              · exact HK.out j (by omega)
            rcases h47 with h47 | h47
            all_goals
              subst h47
              go_wp2_with fail
              go_round
              case rel => exact ⟨_, by omega, by go_num, HN⟩
              case measure => simp [intOf]
          · have HN : Hid (dateB (s.data.toList.drop i) = false) := by
              unfold Hid dateB
              rw [Bool.and_eq_false_iff]; right
              rw [List.all_eq_false]
              exact ⟨k, by simpa using hkl, by rw [HP.out, HG.out]; simp only [decide_eq_true_eq]; omega⟩
            rcases h47 with h47 | h47
            all_goals
              subst h47
              go_wp2_with fail
              go_ret
              exact ⟨ret_bool HN.out.symm, rfl⟩
        · have HP : Hid (∀ c, dpat k c = digB c) := fun c => by simp [dpat, h47]
          have h4 : ¬ (k : Int) = 4 := by omega
          have h7 : ¬ (k : Int) = 7 := by omega
          clear h47
          cases hd : digB s[i + k] with
          | true =>
            have HN : Hid (∀ j, j < k + 1 → dpat j ((s.data.toList.drop i).getD j 0) = true) := fun j hj => by
              by_cases e : j = k
              · subst e; rw [HP.out, HG.out]; exact hd
              · exact HK.out j (by omega)
            rw [hd] at CC
            clear hd
            go_wp2_with fail
            refine CC.out.mono ?_
            rintro _ w1 ⟨rfl, hw1⟩
            subst w1
            go_wp2_with fail
            go_round
            case rel => exact ⟨k + 1, by omega, by go_num, HN⟩
            case measure => simp [intOf]; omega
          | false =>
            have HN : Hid (dateB (s.data.toList.drop i) = false) := by
              unfold Hid dateB
              rw [Bool.and_eq_false_iff]; right
              rw [List.all_eq_false]
              exact ⟨k, by simpa using hkl, by rw [HP.out, HG.out, hd]; simp⟩
            rw [hd] at CC
            clear hd
            go_wp2_with fail
            refine CC.out.mono ?_
            rintro _ w1 ⟨rfl, hw1⟩
            subst w1
            go_wp2_with fail
            all_goals first | (go_ret; exact ⟨ret_bool HN.out.symm, rfl⟩) | (exfalso; simp_all; done)
      · have hke : k = 10 := by omega
        subst hke
        have HY : Hid (dateB (s.data.toList.drop i) = true) := by
          unfold Hid dateB
          rw [decide_eq_true (by omega), Bool.true_and, List.all_eq_true]
          exact fun j hj => HK.out j (by simpa using hj)
        go_wp2_with fail
        go_ret
        exact ⟨ret_bool HY.out.symm, rfl⟩

/-- Whether a text begins with another. -/
def begB (l m : List UInt8) : Bool := decide (m.length ≤ l.length ∧ l.take m.length = m)

set_option maxHeartbeats 1600000 in
theorem begins_any (s t : ByteArray) (i : Nat) (w : World) (hs : s.size ≤ 100000) (hi : i < s.size) (ht : t.size ≤ 10) : Calls Try.prog 52 #[.string s, .int .i64 i, .string t] w fun e w' => e = .returned (.bool (begB (s.data.toList.drop i) t.data.toList)) ∧ w' = w := by
  have hlen : (s.data.toList.drop i).length = s.size - i := by simp
  have htl : t.data.toList.length = t.size := by simp
  by_cases hl : i + t.size ≤ s.size
  · have HB : Hid (begB (s.data.toList.drop i) t.data.toList = ((s.extract i (i + t.size)).toList == t.toList)) := by
      rw [ByteArray.toList_eq, ByteArray.toList_eq]
      unfold Hid begB
      rw [Bool.eq_iff_iff]
      simp only [decide_eq_true_eq, beq_iff_eq]
      have e : (s.extract i (i + t.size)).data.toList = (s.data.toList.drop i).take t.size := by rw [sub_data]; unfold sub; congr 1; omega
      constructor
      · rintro ⟨_, h2⟩
        rw [htl, ← e] at h2
        exact h2
      · intro h
        refine ⟨by omega, ?_⟩
        rw [htl, ← e, h]
    go_enter Try.func52, Try.ntmps52
    go_wp2_with fail
    go_ret
    exact ⟨ret_bool HB.out.symm, rfl⟩
  · have HB : Hid (begB (s.data.toList.drop i) t.data.toList = false) := by
      unfold Hid begB
      exact decide_eq_false (by omega)
    go_enter Try.func52, Try.ntmps52
    go_wp2_with fail
    go_ret
    exact ⟨ret_bool HB.out.symm, rfl⟩

def marksV : Array Value := (marksL.map strV).toArray

set_option maxRecDepth 100000 in
set_option maxHeartbeats 1600000 in
theorem marks_any (w : World) : Calls Try.prog 51 #[] w fun e w' => e = .returned (.slice (some ⟨w.heap.size, 0, none⟩) 21 21) ∧ w' = w.alloc (.cells marksV 9) := by
  go_enter Try.func51, Try.ntmps51
  go_wp2
  go_ret
  exact ⟨rfl, rfl⟩
end Go.Proofs.Ytlllgndbcagkgaa
