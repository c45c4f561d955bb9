/- The document's small functions. -/
import Derived.Test.YthnjmfkiohgkkaaGreatDoorTokens
import Derived.Laws.IdiomStrings
import Derived.OwnWalk
namespace Go.Proofs.YthnjmfkiohgkkaaGreatDoor
open Go.RowKit

theorem cls_nums (n : Int) : (cls n = 1 ↔ n = 10) ∧ (cls n = 2 ↔ n = 9 ∨ n = 13 ∨ n = 32) ∧ (cls n = 3 ↔ 97 ≤ n ∧ n ≤ 122) ∧ (cls n = 4 ↔ 65 ≤ n ∧ n ≤ 90) ∧ (cls n = 5 ↔ 48 ≤ n ∧ n ≤ 57) ∧ (cls n = 6 ↔ n = 95) ∧ (cls n = 7 ↔ n = 34) ∧ (cls n = 8 ↔ n = 35) ∧ (cls n = 9 ↔ n = 46) := by
  have h : ∀ x, x = cls n → (x = 1 ↔ n = 10) ∧ (x = 2 ↔ n = 9 ∨ n = 13 ∨ n = 32) ∧ (x = 3 ↔ 97 ≤ n ∧ n ≤ 122) ∧ (x = 4 ↔ 65 ≤ n ∧ n ≤ 90) ∧ (x = 5 ↔ 48 ≤ n ∧ n ≤ 57) ∧ (x = 6 ↔ n = 95) ∧ (x = 7 ↔ n = 34) ∧ (x = 8 ↔ n = 35) ∧ (x = 9 ↔ n = 46) := by
    intro x hx
    unfold cls at hx
    repeat' split at hx
    all_goals omega
  exact h _ rfl

set_option maxHeartbeats 800000 in
theorem small_any (c : UInt8) (w : World) : Calls Tryz.prog 102 #[.int .u8 c.toNat] w fun e w' => e = .returned (.bool (decide (clsB c = 3))) ∧ w' = w := by
  have H := (cls_nums c.toNat).2.2.1
  have e : decide (clsB c = 3) = decide (97 ≤ (c.toNat : Int) ∧ (c.toNat : Int) ≤ 122) := by unfold clsB; simp only [H]
  rw [e]
  clear H e
  go_enter Tryz.func102, Tryz.ntmps102
  go_wp2
  all_goals go_ret
  all_goals refine ⟨ret_bool ?_, rfl⟩
  all_goals simp
  all_goals omega

set_option maxHeartbeats 800000 in
theorem capital_any (c : UInt8) (w : World) : Calls Tryz.prog 103 #[.int .u8 c.toNat] w fun e w' => e = .returned (.bool (decide (clsB c = 4))) ∧ w' = w := by
  have H := (cls_nums c.toNat).2.2.2.1
  have e : decide (clsB c = 4) = decide (65 ≤ (c.toNat : Int) ∧ (c.toNat : Int) ≤ 90) := by unfold clsB; simp only [H]
  rw [e]
  clear H e
  go_enter Tryz.func103, Tryz.ntmps103
  go_wp2
  all_goals go_ret
  all_goals refine ⟨ret_bool ?_, rfl⟩
  all_goals simp
  all_goals omega

set_option maxHeartbeats 800000 in
theorem digit_any (c : UInt8) (w : World) : Calls Tryz.prog 101 #[.int .u8 c.toNat] w fun e w' => e = .returned (.bool (digB c)) ∧ w' = w := by
  have e : digB c = decide (48 ≤ (c.toNat : Int) ∧ (c.toNat : Int) ≤ 57) := by
    unfold digB
    rw [decide_eq_decide]; omega
  rw [e]
  clear e
  go_enter Tryz.func101, Tryz.ntmps101
  go_wp2
  all_goals go_ret
  all_goals refine ⟨ret_bool ?_, rfl⟩
  all_goals simp
  all_goals omega
end Go.Proofs.YthnjmfkiohgkkaaGreatDoor

namespace Go.Proofs.YthnjmfkiohgkkaaGreatDoor
open Go.RowKit

set_option maxHeartbeats 1600000 in
theorem word_any (c : UInt8) (w : World) : Calls Tryz.prog 104 #[.int .u8 c.toNat] w fun e w' => e = .returned (.bool (wordB c)) ∧ w' = w := by
  have CS := hide (small_any c w)
  have CP := hide (capital_any c w)
  have CD := hide (digit_any c w)
  have HW : Hid (wordB c = decide (clsB c = 3 ∨ clsB c = 4 ∨ clsB c = 5 ∨ clsB c = 6)) := rfl
  by_cases h3 : clsB c = 3
  · rw [decide_eq_true h3] at CS
    rw [decide_eq_true (Or.inl h3)] at HW
    clear h3
    go_enter Tryz.func104, Tryz.ntmps104
    go_wp2_with fail
    refine CS.out.mono ?_
    rintro _ w1 ⟨rfl, hw⟩
    subst w1
    go_wp2_with fail
    go_ret
    exact ⟨ret_bool HW.out.symm, rfl⟩
  · rw [decide_eq_false h3] at CS
    by_cases h4 : clsB c = 4
    · rw [decide_eq_true h4] at CP
      rw [decide_eq_true (Or.inr (Or.inl h4))] at HW
      clear h3 h4
      go_enter Tryz.func104, Tryz.ntmps104
      go_wp2_with fail
      refine CS.out.mono ?_
      rintro _ w1 ⟨rfl, hw⟩
      subst w1
      go_wp2_with fail
      refine CP.out.mono ?_
      rintro _ w1 ⟨rfl, hw⟩
      subst w1
      go_wp2_with fail
      go_ret
      exact ⟨ret_bool HW.out.symm, rfl⟩
    · rw [decide_eq_false h4] at CP
      by_cases h5 : clsB c = 5
      · rw [digB_cls.2 h5] at CD
        rw [decide_eq_true (Or.inr (Or.inr (Or.inl h5)))] at HW
        clear h3 h4 h5
        go_enter Tryz.func104, Tryz.ntmps104
        go_wp2_with fail
        refine CS.out.mono ?_
        rintro _ w1 ⟨rfl, hw⟩
        subst w1
        go_wp2_with fail
        refine CP.out.mono ?_
        rintro _ w1 ⟨rfl, hw⟩
        subst w1
        go_wp2_with fail
        refine CD.out.mono ?_
        rintro _ w1 ⟨rfl, hw⟩
        subst w1
        go_wp2_with fail
        go_ret
        exact ⟨ret_bool HW.out.symm, rfl⟩
      · have hd : digB c = false := by
          cases hx : digB c with
          | false => rfl
          | true => exact absurd (digB_cls.1 hx) h5
        rw [hd] at CD
        have H6 := (cls_nums c.toNat).2.2.2.2.2.1
        have HW2 : Hid (wordB c = decide ((c.toNat : Int) = 95)) := by
          unfold Hid wordB
          rw [decide_eq_decide]
          unfold clsB at *
          rw [← H6]; omega
        clear h3 h4 h5 H6 HW hd
        go_enter Tryz.func104, Tryz.ntmps104
        go_wp2_with fail
        refine CS.out.mono ?_
        rintro _ w1 ⟨rfl, hw⟩
        subst w1
        go_wp2_with fail
        refine CP.out.mono ?_
        rintro _ w1 ⟨rfl, hw⟩
        subst w1
        go_wp2_with fail
        refine CD.out.mono ?_
        rintro _ w1 ⟨rfl, hw⟩
        subst w1
        go_wp2_with fail
        go_ret
        refine ⟨?_, rfl⟩
        rw [HW2.out]
        exact ret_bool (by simp [Bool.beq_eq_decide_eq])

set_option maxHeartbeats 1600000 in
theorem blank_any (c : UInt8) (w : World) : Calls Tryz.prog 61 #[.int .u8 c.toNat] w fun e w' => e = .returned (.bool (blankB c)) ∧ w' = w := by
  have H1 := (cls_nums c.toNat).1
  have H2 := (cls_nums c.toNat).2.1
  have e : blankB c = decide ((c.toNat : Int) = 9 ∨ (c.toNat : Int) = 10 ∨ (c.toNat : Int) = 13 ∨ (c.toNat : Int) = 32) := by
    unfold blankB clsB
    rw [decide_eq_decide]; omega
  rw [e]
  clear H1 H2 e
  go_enter Tryz.func61, Tryz.ntmps61
  go_wp2
  all_goals go_ret
  all_goals refine ⟨ret_bool ?_, rfl⟩
  all_goals
    rw [Bool.eq_iff_iff]
    simp only [Bool.or_eq_true, beq_iff_eq, decide_eq_true_eq, true_iff]
    omega

set_option maxHeartbeats 3200000 in
theorem date_any (s : ByteArray) (i : Nat) (w : World) (hs : s.size ≤ 100000) (hi : i < s.size) : Calls Tryz.prog 100 #[.string s, .int .i64 i] w fun e w' => e = .returned (.bool (dateB (s.data.toList.drop i))) ∧ w' = w := by
  have hlen : (s.data.toList.drop i).length = s.size - i := by simp
  by_cases hl : s.size < i + 10
  · have HD : Hid (dateB (s.data.toList.drop i) = false) := by
      unfold Hid dateB
      rw [decide_eq_false (by omega)]; rfl
    go_enter Tryz.func100, Tryz.ntmps100
    go_wp2
    go_ret
    exact ⟨ret_bool HD.out.symm, rfl⟩
  · go_enter Tryz.func100, Tryz.ntmps100
    go_wp2
    go_loop [5] (fun x => ∃ k : Nat, k ≤ 10 ∧ x = .int .i64 k ∧ Hid (∀ j, j < k → dpat j ((s.data.toList.drop i).getD j 0) = true)) (fun x => 10 - (intOf x).toNat)
    case atStart => exact ⟨0, by omega, rfl, fun j hj => by omega⟩
    case round =>
      obtain ⟨k, hk, rfl, HK⟩ := hrel
      by_cases hkl : k < 10
      · have hks : i + k < s.size := by omega
        have HG : Hid ((s.data.toList.drop i).getD k 0 = s[i + k]) := by unfold Hid; rw [getD_drop, getD_at s (i + k) hks]
        have CC := hide (digit_any s[i + k] w)
        by_cases h47 : k = 4 ∨ k = 7
        · have HP : Hid (∀ c, dpat k c = decide (c.toNat = 45)) := fun c => by simp [dpat, h47]
          by_cases hd : (s[i + k].toNat : Int) = 45
          · have HN : Hid (∀ j, j < k + 1 → dpat j ((s.data.toList.drop i).getD j 0) = true) := fun j hj => by
              by_cases e : j = k
              · subst e; rw [HP.out, HG.out]; simp only [decide_eq_true_eq]; omega
              · exact HK.out j (by omega)
            rcases h47 with h47 | h47
            all_goals
              subst h47
              go_wp2_with fail
              go_round
              case rel => exact ⟨_, by omega, by go_num, HN⟩
              case measure => simp [intOf]
          · have HN : Hid (dateB (s.data.toList.drop i) = false) := by
              unfold Hid dateB
              rw [Bool.and_eq_false_iff]; right
              rw [List.all_eq_false]
              exact ⟨k, by simpa using hkl, by rw [HP.out, HG.out]; simp only [decide_eq_true_eq]; omega⟩
            rcases h47 with h47 | h47
            all_goals
              subst h47
              go_wp2_with fail
              go_ret
              exact ⟨ret_bool HN.out.symm, rfl⟩
        · have HP : Hid (∀ c, dpat k c = digB c) := fun c => by simp [dpat, h47]
          have h4 : ¬ (k : Int) = 4 := by omega
          have h7 : ¬ (k : Int) = 7 := by omega
          clear h47
          cases hd : digB s[i + k] with
          | true =>
            have HN : Hid (∀ j, j < k + 1 → dpat j ((s.data.toList.drop i).getD j 0) = true) := fun j hj => by
              by_cases e : j = k
              · subst e; rw [HP.out, HG.out]; exact hd
              · exact HK.out j (by omega)
            rw [hd] at CC
            clear hd
            go_wp2_with fail
            refine CC.out.mono ?_
            rintro _ w1 ⟨rfl, hw1⟩
            subst w1
            go_wp2_with fail
            go_round
            case rel => exact ⟨k + 1, by omega, by go_num, HN⟩
            case measure => simp [intOf]; omega
          | false =>
            have HN : Hid (dateB (s.data.toList.drop i) = false) := by
              unfold Hid dateB
              rw [Bool.and_eq_false_iff]; right
              rw [List.all_eq_false]
              exact ⟨k, by simpa using hkl, by rw [HP.out, HG.out, hd]; simp⟩
            rw [hd] at CC
            clear hd
            go_wp2_with fail
            refine CC.out.mono ?_
            rintro _ w1 ⟨rfl, hw1⟩
            subst w1
            go_wp2_with fail
            all_goals first | (go_ret; exact ⟨ret_bool HN.out.symm, rfl⟩) | (exfalso; simp_all; done)
      · have hke : k = 10 := by omega
        subst hke
        have HY : Hid (dateB (s.data.toList.drop i) = true) := by
          unfold Hid dateB
          rw [decide_eq_true (by omega), Bool.true_and, List.all_eq_true]
          exact fun j hj => HK.out j (by simpa using hj)
        go_wp2_with fail
        go_ret
        exact ⟨ret_bool HY.out.symm, rfl⟩

/-- Whether a text begins with another. -/
def begB (l m : List UInt8) : Bool := decide (m.length ≤ l.length ∧ l.take m.length = m)

set_option maxHeartbeats 1600000 in
theorem begins_any (s t : ByteArray) (i : Nat) (w : World) (hs : s.size ≤ 100000) (hi : i < s.size) (ht : t.size ≤ 10) : Calls Tryz.prog 106 #[.string s, .int .i64 i, .string t] w fun e w' => e = .returned (.bool (begB (s.data.toList.drop i) t.data.toList)) ∧ w' = w := by
  have hlen : (s.data.toList.drop i).length = s.size - i := by simp
  have htl : t.data.toList.length = t.size := by simp
  by_cases hl : i + t.size ≤ s.size
  · have HB : Hid (begB (s.data.toList.drop i) t.data.toList = ((s.extract i (i + t.size)).toList == t.toList)) := by
      rw [ByteArray.toList_eq, ByteArray.toList_eq]
      unfold Hid begB
      rw [Bool.eq_iff_iff]
      simp only [decide_eq_true_eq, beq_iff_eq]
      have e : (s.extract i (i + t.size)).data.toList = (s.data.toList.drop i).take t.size := by rw [sub_data]; unfold sub; congr 1; omega
      constructor
      · rintro ⟨_, h2⟩
        rw [htl, ← e] at h2
        exact h2
      · intro h
        refine ⟨by omega, ?_⟩
        rw [htl, ← e, h]
    go_enter Tryz.func106, Tryz.ntmps106
    go_wp2_with fail
    go_ret
    exact ⟨ret_bool HB.out.symm, rfl⟩
  · have HB : Hid (begB (s.data.toList.drop i) t.data.toList = false) := by
      unfold Hid begB
      exact decide_eq_false (by omega)
    go_enter Tryz.func106, Tryz.ntmps106
    go_wp2_with fail
    go_ret
    exact ⟨ret_bool HB.out.symm, rfl⟩

def marksV : Array Value := (marksL.map strV).toArray

set_option maxRecDepth 100000 in
set_option maxHeartbeats 1600000 in
theorem marks_any (w : World) : Calls Tryz.prog 105 #[] w fun e w' => e = .returned (.slice (some ⟨w.heap.size, 0, none⟩) 21 21) ∧ w' = w.alloc (.cells marksV 9) := by
  go_enter Tryz.func105, Tryz.ntmps105
  go_wp2
  go_ret
  exact ⟨rfl, rfl⟩
end Go.Proofs.YthnjmfkiohgkkaaGreatDoor

namespace Go.Proofs.YthnjmfkiohgkkaaGreatDoor
open Go.RowKit

/-- What the document's function answers of a token at place i. -/
def oneV (i : Nat) (o : Nat × Nat × Nat × Nat) : Value :=
  if o.2.2.1 = 0 then .tuple #[.int .i64 o.1, .int .i64 ((i + o.2.1 : Nat) : Int), .int .i64 0, .int .i64 0] else .tuple #[.int .i64 0, .int .i64 0, .int .i64 o.2.2.1, .int .i64 ((i + o.2.2.2 : Nat) : Int)]

theorem results_tmp4 {fn : Func} {t u v x : Tmp} (h : fn.results = #[.tmp t, .tmp u, .tmp v, .tmp x]) (tmps : Array Value) (P : Program) (w : World) :
    (results fn tmps).run P w = .ok (.tuple #[tmps.getD t undef, tmps.getD u undef, tmps.getD v undef, tmps.getD x undef]) w := by
  simp [results, h]

section
variable {L : List UInt8} {i K kind : Nat} {o : Nat × Nat × Nat × Nat}

theorem oneV_over (hk : kind = 1 ∨ kind = 2) (h : 32 < K - i) (ho : o = fin kind (K - i) (L.drop i)) : oneV i o = .tuple #[.int .i64 0, .int .i64 0, .int .i64 5, .int .i64 i] := by
  unfold fin at ho
  rw [if_pos ⟨hk, h⟩] at ho
  rw [ho]; simp [oneV]

theorem oneV_word (hK : i ≤ K) (hn : ¬ ((kind = 1 ∨ kind = 2) ∧ 32 < K - i)) (ho : o = fin kind (K - i) (L.drop i)) (hw : wordB (L.getD K 0) = true) : oneV i o = .tuple #[.int .i64 0, .int .i64 0, .int .i64 41, .int .i64 K] := by
  have e : i + (K - i) = K := by omega
  unfold fin at ho
  rw [if_neg hn, getD_drop, e, if_pos hw] at ho
  rw [ho]; simp [oneV, e]

theorem oneV_ok (hK : i ≤ K) (hn : ¬ ((kind = 1 ∨ kind = 2) ∧ 32 < K - i)) (ho : o = fin kind (K - i) (L.drop i)) (hw : wordB (L.getD K 0) = false) : oneV i o = .tuple #[.int .i64 kind, .int .i64 K, .int .i64 0, .int .i64 0] := by
  have e : i + (K - i) = K := by omega
  unfold fin at ho
  rw [if_neg hn, getD_drop, e, if_neg (by rw [hw]; simp)] at ho
  rw [ho]; simp only [oneV, if_true]; rw [e]
end

set_option maxRecDepth 100000 in
set_option maxHeartbeats 6400000 in
theorem one_date (s : ByteArray) (i : Nat) (w : World) (hs : s.size ≤ 100000) (hi : i < s.size) (hd : dateB (s.data.toList.drop i) = true) :
    Calls Tryz.prog 62 #[.string s, .int .i64 i] w fun e w' => e = .returned (oneV i (one (s.data.toList.drop i))) ∧ w' = w := by
  have CD := hide (date_any s i w hs hi)
  rw [hd] at CD
  obtain ⟨K, hK⟩ : ∃ K, K = i + 10 := ⟨_, rfl⟩
  have hKs : K ≤ s.size := by have := dateB_len hd; simp at this; omega
  have HO : Hid (one (s.data.toList.drop i) = fin 4 (K - i) (s.data.toList.drop i)) := by
    unfold Hid one
    rw [if_pos hd]; congr 1; omega
  have hKi : (i : Int) + 10 = (K : Int) := by omega
  clear hd
  have hik : i ≤ K := by omega
  clear hK
  go_enter Tryz.func62, Tryz.ntmps62
  go_wp2_with fail
  refine CD.out.mono ?_
  rintro _ w1 ⟨rfl, hw1⟩
  subst w1
  by_cases he : K < s.size
  · have CW := hide (word_any s[K] w)
    have HG : Hid (s.data.toList.getD K 0 = s[K]) := getD_at s K he
    cases hwb : wordB s[K] with
    | true =>
      have HV := hide (oneV_word (by omega) (by omega) HO.out (by rw [HG.out]; exact hwb))
      rw [hwb] at CW
      clear hwb HO HG
      go_wp2_with fail
      refine CW.out.mono ?_
      rintro _ w1 ⟨rfl, hw1⟩
      subst w1
      go_wp2_with fail
      try simp only [Exit.inBlock, Exit.then]
      refine bodyPost_ret (results_tmp4 rfl _ _ _) rfl ?_
      rw [HV.out]
      exact ⟨rfl, rfl⟩
    | false =>
      have HV := hide (oneV_ok (by omega) (by omega) HO.out (by rw [HG.out]; exact hwb))
      rw [hwb] at CW
      clear hwb HO HG
      go_wp2_with fail
      refine CW.out.mono ?_
      rintro _ w1 ⟨rfl, hw1⟩
      subst w1
      go_wp2_with fail
      try simp only [Exit.inBlock, Exit.then]
      refine bodyPost_ret (results_tmp4 rfl _ _ _) rfl ?_
      rw [HV.out]
      exact ⟨rfl, rfl⟩
  · have HV := hide (oneV_ok (by omega) (by omega) HO.out (by rw [getD_ge (by simp; omega)]; rfl))
    clear HO
    go_wp2_with fail
    try simp only [Exit.inBlock, Exit.then]
    refine bodyPost_ret (results_tmp4 rfl _ _ _) rfl ?_
    rw [HV.out]
    exact ⟨rfl, rfl⟩

end Go.Proofs.YthnjmfkiohgkkaaGreatDoor

namespace Go.Proofs.YthnjmfkiohgkkaaGreatDoor
open Go.RowKit

theorem oneV_quote {L : List UInt8} {i K : Nat} (h : i + 1 ≤ K) (hd : dateB (L.drop i) = false) (hc : clsB (L.getD i 0) = 7) (hs : span inQ (L.drop (i + 1)) = K - (i + 1)) :
    oneV i (one (L.drop i)) = if clsB (L.getD K 0) = 7 then .tuple #[.int .i64 5, .int .i64 ((K + 1 : Nat) : Int), .int .i64 0, .int .i64 0] else .tuple #[.int .i64 0, .int .i64 0, .int .i64 42, .int .i64 i] := by
  have e1 : i + (K - (i + 1) + 1) = K := by omega
  have e2 : i + (K - (i + 1) + 2) = K + 1 := by omega
  have ho : one (L.drop i) = if clsB (L.getD K 0) = 7 then (5, K - (i + 1) + 2, 0, 0) else (0, 0, 42, 0) := by
    unfold one
    rw [hd, List.drop_drop, hs, getD_drop, getD_drop, e1]
    simp only [Nat.add_zero, hc]
    simp
  rw [ho]
  split
  · simp only [oneV, if_true]; rw [e2]; rfl
  · simp [oneV]

set_option maxRecDepth 100000 in
set_option maxHeartbeats 6400000 in
theorem one_quote (s : ByteArray) (i : Nat) (w : World) (hs : s.size ≤ 100000) (hi : i < s.size) (hd : dateB (s.data.toList.drop i) = false) (hc : clsB s[i] = 7) :
    Calls Tryz.prog 62 #[.string s, .int .i64 i] w fun e w' => e = .returned (oneV i (one (s.data.toList.drop i))) ∧ w' = w := by
  have HD := hide hd
  have HC : Hid (clsB (s.data.toList.getD i 0) = 7) := by rw [getD_at s i hi]; exact hc
  have h34 : (s[i].toNat : Int) = 34 := (cls_nums s[i].toNat).2.2.2.2.2.2.1.1 hc
  have CD := hide (date_any s i w hs hi)
  rw [hd] at CD
  have C5 := hide (digit_any s[i] w)
  rw [show digB s[i] = false from by cases hx : digB s[i] with | false => rfl | true => (have := digB_cls.1 hx; omega)] at C5
  have C3 := hide (small_any s[i] w)
  rw [decide_eq_false (by omega)] at C3
  have C4 := hide (capital_any s[i] w)
  rw [decide_eq_false (by omega)] at C4
  rw [h34] at C5 C3 C4
  clear hd hc
  go_enter Tryz.func62, Tryz.ntmps62
  go_wp2_with fail
  refine CD.out.mono ?_
  rintro _ w1 ⟨rfl, hw1⟩
  subst w1
  go_wp2_with fail
  refine C5.out.mono ?_
  rintro _ w1 ⟨rfl, hw1⟩
  subst w1
  go_wp2_with fail
  refine C3.out.mono ?_
  rintro _ w1 ⟨rfl, hw1⟩
  subst w1
  go_wp2_with fail
  refine C4.out.mono ?_
  rintro _ w1 ⟨rfl, hw1⟩
  subst w1
  go_wp2_with fail
  clear C3 C4 C5 CD h34
  go_loop [9] (fun x => ∃ k : Nat, i + 1 ≤ k ∧ k ≤ s.size ∧ x = .int .i64 k ∧ Hid (∀ j, i + 1 ≤ j → j < k → inQ (s.data.toList.getD j 0) = true)) (fun x => s.size - (intOf x).toNat)
  case atStart => exact ⟨i + 1, Nat.le_refl _, by omega, by go_num, fun j h1 h2 => by omega⟩
  case round =>
    obtain ⟨K, hik, hKs, rfl, HK⟩ := hrel
    by_cases hlt : K < s.size
    · have HG2 : Hid (s.data.toList.getD K 0 = s[K]) := getD_at s K hlt
      have H7 := hide ((cls_nums s[K].toNat).2.2.2.2.2.2.1)
      have H1 := hide ((cls_nums s[K].toNat).1)
      by_cases h34 : (s[K].toNat : Int) = 34
      · have HV := hide (oneV_quote hik HD.out HC.out (span_drop _ _ (i + 1) K hik (by simp; omega) HK.out (fun _ => by rw [HG2.out]; exact decide_eq_false (fun h => h.1 (H7.out.2 h34)))))
        rw [if_pos (by rw [HG2.out]; exact H7.out.2 h34)] at HV
        clear HK HG2 H7 H1
        go_wp2_with fail
        try simp only [Exit.inBlock, Exit.then]
        refine bodyPost_ret (results_tmp4 rfl _ _ _) rfl ?_
        rw [HV.out]
        exact ⟨rfl, rfl⟩
      · by_cases h10 : (s[K].toNat : Int) = 10
        · have HV := hide (oneV_quote hik HD.out HC.out (span_drop _ _ (i + 1) K hik (by simp; omega) HK.out (fun _ => by rw [HG2.out]; exact decide_eq_false (fun h => h.2 (H1.out.2 h10)))))
          rw [if_neg (by rw [HG2.out]; exact fun h => h34 (H7.out.1 h))] at HV
          clear HK HG2 H7 H1
          go_wp2_with fail
          try simp only [Exit.inBlock, Exit.then]
          refine bodyPost_ret (results_tmp4 rfl _ _ _) rfl ?_
          rw [HV.out]
          exact ⟨rfl, rfl⟩
        · have HN : Hid (∀ j, i + 1 ≤ j → j < K + 1 → inQ (s.data.toList.getD j 0) = true) := fun j h1 h2 => by
            by_cases e : j = K
            · subst e; rw [HG2.out]; exact decide_eq_true ⟨fun h => h34 (H7.out.1 h), fun h => h10 (H1.out.1 h)⟩
            · exact HK.out j h1 (by omega)
          have n34 : ((s[K].toNat : Int) != 34) = true := by simpa using h34
          have n10 : ((s[K].toNat : Int) != 10) = true := by simpa using h10
          clear HK HG2 H7 H1 h34 h10
          go_wp2_with fail
          go_round
          case rel => exact ⟨K + 1, by omega, by omega, by go_num, HN⟩
          case measure => simp [intOf]; omega
    · have HV := hide (oneV_quote hik HD.out HC.out (span_drop _ _ (i + 1) K hik (by simp; omega) HK.out (fun h => by simp at h; omega)))
      rw [if_neg (by rw [getD_ge (by simp; omega)]; decide)] at HV
      clear HK
      have hKe : K = s.size := by omega
      subst hKe
      go_wp2_with fail
      try simp only [Exit.inBlock, Exit.then]
      refine bodyPost_ret (results_tmp4 rfl _ _ _) rfl ?_
      rw [HV.out]
      exact ⟨rfl, rfl⟩

theorem marks_len : ∀ k, k < 21 → (k < 8 → (marksL.getD k []).length = 2) ∧ (8 ≤ k → (marksL.getD k []).length = 1) ∧ marksL.getD k [] ∈ marksL := by decide

theorem mark_two (m : List UInt8) (h : m ∈ marksL) (hl : m.length = 2) : ∃ k, k < 8 ∧ m = marksL.getD k [] := by
  revert hl
  revert m
  decide

theorem mark_at (m : List UInt8) (h : m ∈ marksL) : ∃ k, k < 21 ∧ m = marksL.getD k [] := by
  revert m
  decide

/-- The first mark that begins there. -/
theorem one_mark {l : List UInt8} (hd : dateB l = false) (h3 : clsB (l.getD 0 0) ≠ 3) (h4 : clsB (l.getD 0 0) ≠ 4) (h5 : clsB (l.getD 0 0) ≠ 5) (h7 : clsB (l.getD 0 0) ≠ 7) {k : Nat} (hk : k < 21)
    (hn : ∀ j, j < k → begB l (marksL.getD j []) = false) (hy : begB l (marksL.getD k []) = true) : one l = (6, (marksL.getD k []).length, 0, 0) := by
  have hm := marks_len k hk
  have hb := of_decide_eq_true hy
  unfold one
  rw [hd, if_neg (by simp), if_neg h5, if_neg h3, if_neg h4, if_neg h7]
  rcases Nat.lt_or_ge k 8 with h8 | h8
  · have e := hm.1 h8
    rw [e] at hb ⊢
    rw [if_pos ⟨hb.1, decide_eq_true (by rw [hb.2]; exact hm.2.2)⟩]
  · have e := hm.2.1 h8
    rw [e] at hb ⊢
    rw [if_neg, if_pos (show markB _ = true from decide_eq_true (by rw [hb.2]; exact hm.2.2))]
    rintro ⟨h2, hmm⟩
    obtain ⟨j, hj, ej⟩ := mark_two _ (of_decide_eq_true hmm) (by simp; omega)
    have := hn j (by omega)
    have hj2 := (marks_len j (by omega)).1 hj
    refine absurd (of_decide_eq_false this) (fun h => h ⟨by omega, ?_⟩)
    rw [hj2, ← ej]

theorem one_nomark {l : List UInt8} (h0 : l ≠ []) (hd : dateB l = false) (h3 : clsB (l.getD 0 0) ≠ 3) (h4 : clsB (l.getD 0 0) ≠ 4) (h5 : clsB (l.getD 0 0) ≠ 5) (h7 : clsB (l.getD 0 0) ≠ 7)
    (hn : ∀ j, j < 21 → begB l (marksL.getD j []) = false) : one l = (0, 0, 41, 0) := by
  have no : ∀ m : List UInt8, m ∈ marksL → m.length ≤ l.length → l.take m.length = m → False := by
    intro m hm hl he
    obtain ⟨j, hj, rfl⟩ := mark_at m hm
    exact of_decide_eq_false (hn j hj) ⟨hl, he⟩
  unfold one
  rw [hd, if_neg (by simp), if_neg h5, if_neg h3, if_neg h4, if_neg h7, if_neg, if_neg]
  · intro h
    have hl : 1 ≤ l.length := List.length_pos_iff.2 h0
    have e : (l.take 1).length = 1 := by simp; omega
    exact no _ (of_decide_eq_true h) (by omega) (by rw [e])
  · rintro ⟨hl, h⟩
    have e : (l.take 2).length = 2 := by simp; omega
    exact no _ (of_decide_eq_true h) (by omega) (by rw [e])
end Go.Proofs.YthnjmfkiohgkkaaGreatDoor

namespace Go.Proofs.YthnjmfkiohgkkaaGreatDoor
open Go.RowKit

theorem numLen_plain {L : List UInt8} {i K : Nat} (hik : i ≤ K) (h : span digB (L.drop i) = K - i) (hn : ¬ (clsB (L.getD K 0) = 9 ∧ digB (L.getD (K + 1) 0) = true)) : numLen (L.drop i) = K - i := by
  have e1 : i + (K - i) = K := by omega
  have e2 : i + (K - i + 1) = K + 1 := by omega
  unfold numLen
  rw [h, getD_drop, getD_drop, e1, e2, if_neg hn]

theorem numLen_frac {L : List UInt8} {i P K : Nat} (hip : i ≤ P) (hpk : P + 1 ≤ K) (h : span digB (L.drop i) = P - i) (h9 : clsB (L.getD P 0) = 9) (hd : digB (L.getD (P + 1) 0) = true) (h2 : span digB (L.drop (P + 1)) = K - (P + 1)) : numLen (L.drop i) = K - i := by
  have e1 : i + (P - i) = P := by omega
  have e2 : i + (P - i + 1) = P + 1 := by omega
  unfold numLen
  rw [h, getD_drop, getD_drop, e1, e2, if_pos ⟨h9, hd⟩, List.drop_drop, e2, h2]
  omega

set_option maxRecDepth 100000 in
set_option maxHeartbeats 6400000 in
theorem one_number (s : ByteArray) (i : Nat) (w : World) (hs : s.size ≤ 100000) (hi : i < s.size) (hd : dateB (s.data.toList.drop i) = false) (hc : clsB s[i] = 5) :
    Calls Tryz.prog 62 #[.string s, .int .i64 i] w fun e w' => e = .returned (oneV i (one (s.data.toList.drop i))) ∧ w' = w := by
  have CD := hide (date_any s i w hs hi)
  rw [hd] at CD
  have HO1 : Hid (one (s.data.toList.drop i) = fin 3 (numLen (s.data.toList.drop i)) (s.data.toList.drop i)) := by
    have hg : (s.data.toList.drop i).getD 0 0 = s[i] := by rw [getD_drop]; exact getD_at s i hi
    unfold Hid one
    rw [hd, hg, hc]; simp
  have HL := hide (show s.data.toList.length = s.size by simp)
  have C5 := hide (digit_any s[i] w)
  rw [digB_cls.2 hc] at C5
  clear hd hc
  go_enter Tryz.func62, Tryz.ntmps62
  go_wp2_with fail
  refine CD.out.mono ?_
  rintro _ w1 ⟨rfl, hw1⟩
  subst w1
  go_wp2_with fail
  refine C5.out.mono ?_
  rintro _ w1 ⟨rfl, hw1⟩
  subst w1
  go_wp2_with fail
  clear C5 CD
  go_loop [9] (fun x => ∃ k : Nat, i ≤ k ∧ k ≤ s.size ∧ x = .int .i64 k ∧ Hid (∀ j, i ≤ j → j < k → digB (s.data.toList.getD j 0) = true)) (fun x => s.size - (intOf x).toNat)
  case atStart => exact ⟨i, Nat.le_refl _, by omega, rfl, fun j h1 h2 => by omega⟩
  case round =>
    obtain ⟨K, hik, hKs, rfl, HK⟩ := hrel
    by_cases hlt : K < s.size
    · have HG2 : Hid (s.data.toList.getD K 0 = s[K]) := getD_at s K hlt
      have CL := hide (digit_any s[K] w)
      cases hp : digB s[K] with
      | true =>
        have HN : Hid (∀ j, i ≤ j → j < K + 1 → digB (s.data.toList.getD j 0) = true) := fun j h1 h2 => by
          by_cases e : j = K
          · subst e; rw [HG2.out]; exact hp
          · exact HK.out j h1 (by omega)
        rw [hp] at CL
        clear hp HG2 HK HO1
        go_wp2_with fail
        refine CL.out.mono ?_
        rintro _ w1 ⟨rfl, hw1⟩
        subst w1
        go_wp2_with fail
        go_round
        case rel => exact ⟨K + 1, by omega, by omega, by go_num, HN⟩
        case measure => simp [intOf]; omega
      | false =>
        have HSP : Hid (span digB (s.data.toList.drop i) = K - i) := span_drop _ _ i K hik (by simp; omega) HK.out (fun _ => by rw [HG2.out]; exact hp)
        rw [hp] at CL
        have HP := hide hp
        clear hp HK
        have H9 := hide ((cls_nums s[K].toNat).2.2.2.2.2.2.2.2)
        by_cases h1 : K + 1 < s.size
        · have HG3 : Hid (s.data.toList.getD (K + 1) 0 = s[K + 1]) := getD_at s (K + 1) h1
          by_cases h46 : (s[K].toNat : Int) = 46
          · have CM := hide (digit_any s[K + 1] w)
            cases hq : digB s[K + 1] with
            | true =>
              rw [hq] at CM
              rw [h46] at CL
              have H46 := hide h46
              have HQ := hide hq
              clear hq
              go_wp2_with fail
              refine CL.out.mono ?_
              rintro _ w1 ⟨rfl, hw1⟩
              subst w1
              go_wp2_with fail
              refine CM.out.mono ?_
              rintro _ w1 ⟨rfl, hw1⟩
              subst w1
              go_wp2_with fail
              clear CL CM h46
              obtain ⟨P, hP⟩ : ∃ P, P = K := ⟨_, rfl⟩
              subst hP
              go_loop [9] (fun x => ∃ k : Nat, P + 1 ≤ k ∧ k ≤ s.size ∧ x = .int .i64 k ∧ Hid (∀ j, P + 1 ≤ j → j < k → digB (s.data.toList.getD j 0) = true)) (fun x => s.size - (intOf x).toNat)
              case atStart => exact ⟨P + 1, Nat.le_refl _, by omega, by go_num, fun j h1 h2 => by omega⟩
              case round =>
                obtain ⟨K, hpk, hKs, rfl, HZ⟩ := hrel
                have hik : i ≤ K := by omega
                have h9 : Hid (clsB (s.data.toList.getD P 0) = 9) := by rw [HG2.out]; exact H9.out.2 H46.out
                have hd1 : Hid (digB (s.data.toList.getD (P + 1) 0) = true) := by rw [HG3.out]; exact HQ.out
                clear HG3 HG2 H9 H46 HQ HP
                by_cases hlt : K < s.size
                · have HG2 : Hid (s.data.toList.getD K 0 = s[K]) := getD_at s K hlt
                  have CL := hide (digit_any s[K] w)
                  cases hp : digB s[K] with
                  | true =>
                    have HN : Hid (∀ j, P + 1 ≤ j → j < K + 1 → digB (s.data.toList.getD j 0) = true) := fun j h1 h2 => by
                      by_cases e : j = K
                      · subst e; rw [HG2.out]; exact hp
                      · exact HZ.out j h1 (by omega)
                    rw [hp] at CL
                    clear hp HG2 HZ HO1 HSP h9 hd1
                    go_wp2_with fail
                    refine CL.out.mono ?_
                    rintro _ w1 ⟨rfl, hw1⟩
                    subst w1
                    go_wp2_with fail
                    go_round
                    case rel => exact ⟨K + 1, by omega, by omega, by go_num, HN⟩
                    case measure => simp [intOf]; omega
                  | false =>
                    have HO : Hid (one (s.data.toList.drop i) = fin 3 (K - i) (s.data.toList.drop i)) := by
                      unfold Hid
                      rw [HO1.out, numLen_frac (by omega) hpk HSP.out h9.out hd1.out (span_drop _ _ (P + 1) K hpk (by simp; omega) HZ.out (fun _ => by rw [HG2.out]; exact hp))]
                    rw [hp] at CL
                    clear hp HG2 HZ HO1 HSP h9 hd1
                    go_wp2_with fail
                    refine CL.out.mono ?_
                    rintro _ w1 ⟨rfl, hw1⟩
                    subst w1
                    have CW := hide (word_any s[K] w)
                    have HG : Hid (s.data.toList.getD K 0 = s[K]) := getD_at s K hlt
                    cases hwb : wordB s[K] with
                    | true =>
                      have HV := hide (oneV_word (by omega) (by omega) HO.out (by rw [HG.out]; exact hwb))
                      rw [hwb] at CW
                      clear hwb HO HG
                      go_wp2_with fail
                      refine CW.out.mono ?_
                      rintro _ w1 ⟨rfl, hw1⟩
                      subst w1
                      go_wp2_with fail
                      try simp only [Exit.inBlock, Exit.then]
                      refine bodyPost_ret (results_tmp4 rfl _ _ _) rfl ?_
                      rw [HV.out]
                      exact ⟨rfl, rfl⟩
                    | false =>
                      have HV := hide (oneV_ok (by omega) (by omega) HO.out (by rw [HG.out]; exact hwb))
                      rw [hwb] at CW
                      clear hwb HO HG
                      go_wp2_with fail
                      refine CW.out.mono ?_
                      rintro _ w1 ⟨rfl, hw1⟩
                      subst w1
                      go_wp2_with fail
                      try simp only [Exit.inBlock, Exit.then]
                      refine bodyPost_ret (results_tmp4 rfl _ _ _) rfl ?_
                      rw [HV.out]
                      exact ⟨rfl, rfl⟩
                · have HO : Hid (one (s.data.toList.drop i) = fin 3 (K - i) (s.data.toList.drop i)) := by
                    unfold Hid
                    rw [HO1.out, numLen_frac (by omega) hpk HSP.out h9.out hd1.out (span_drop _ _ (P + 1) K hpk (by simp; omega) HZ.out (fun h => by simp at h; omega))]
                  clear HZ HO1 HSP h9 hd1
                  have HV := hide (oneV_ok (by omega) (by omega) HO.out (by rw [getD_ge (by simp; omega)]; rfl))
                  clear HO
                  go_wp2_with fail
                  try simp only [Exit.inBlock, Exit.then]
                  refine bodyPost_ret (results_tmp4 rfl _ _ _) rfl ?_
                  rw [HV.out]
                  exact ⟨rfl, rfl⟩
            | false =>
              rw [hq] at CM
              have HO : Hid (one (s.data.toList.drop i) = fin 3 (K - i) (s.data.toList.drop i)) := by
                unfold Hid
                rw [HO1.out, numLen_plain hik HSP.out (by rw [HG3.out, hq]; simp)]
              rw [h46] at CL
              have HWB : Hid (wordB s[K] = false) := decide_eq_false (by have := H9.out.2 h46; unfold clsB; omega)
              clear hq HO1
              go_wp2_with fail
              refine CL.out.mono ?_
              rintro _ w1 ⟨rfl, hw1⟩
              subst w1
              go_wp2_with fail
              refine CM.out.mono ?_
              rintro _ w1 ⟨rfl, hw1⟩
              subst w1
              have CW := hide (word_any s[K] w)
              have HG : Hid (s.data.toList.getD K 0 = s[K]) := getD_at s K hlt
              have HV := hide (oneV_ok (by omega) (by omega) HO.out (by rw [HG.out]; exact HWB.out))
              rw [HWB.out] at CW
              rw [h46] at CW
              clear HO HG
              go_wp2_with fail
              refine CW.out.mono ?_
              rintro _ w1 ⟨rfl, hw1⟩
              subst w1
              go_wp2_with fail
              try simp only [Exit.inBlock, Exit.then]
              refine bodyPost_ret (results_tmp4 rfl _ _ _) rfl ?_
              rw [HV.out]
              exact ⟨rfl, rfl⟩
          ·
            have HO : Hid (one (s.data.toList.drop i) = fin 3 (K - i) (s.data.toList.drop i)) := by
              unfold Hid
              rw [HO1.out, numLen_plain hik HSP.out (fun h => h46 (H9.out.1 (by rw [← HG2.out]; exact h.1)))]
            clear HO1
            go_wp2_with fail
            refine CL.out.mono ?_
            rintro _ w1 ⟨rfl, hw1⟩
            subst w1
            have CW := hide (word_any s[K] w)
            have HG : Hid (s.data.toList.getD K 0 = s[K]) := getD_at s K hlt
            cases hwb : wordB s[K] with
            | true =>
              have HV := hide (oneV_word (by omega) (by omega) HO.out (by rw [HG.out]; exact hwb))
              rw [hwb] at CW
              clear hwb HO HG
              go_wp2_with fail
              refine CW.out.mono ?_
              rintro _ w1 ⟨rfl, hw1⟩
              subst w1
              go_wp2_with fail
              try simp only [Exit.inBlock, Exit.then]
              refine bodyPost_ret (results_tmp4 rfl _ _ _) rfl ?_
              rw [HV.out]
              exact ⟨rfl, rfl⟩
            | false =>
              have HV := hide (oneV_ok (by omega) (by omega) HO.out (by rw [HG.out]; exact hwb))
              rw [hwb] at CW
              clear hwb HO HG
              go_wp2_with fail
              refine CW.out.mono ?_
              rintro _ w1 ⟨rfl, hw1⟩
              subst w1
              go_wp2_with fail
              try simp only [Exit.inBlock, Exit.then]
              refine bodyPost_ret (results_tmp4 rfl _ _ _) rfl ?_
              rw [HV.out]
              exact ⟨rfl, rfl⟩
        ·
          have HO : Hid (one (s.data.toList.drop i) = fin 3 (K - i) (s.data.toList.drop i)) := by
            unfold Hid
            rw [HO1.out, numLen_plain hik HSP.out (fun h => by rw [getD_ge (j := K + 1) (by rw [HL.out]; omega)] at h; exact absurd h.2 (by decide))]
          clear HO1
          go_wp2_with fail
          refine CL.out.mono ?_
          rintro _ w1 ⟨rfl, hw1⟩
          subst w1
          have CW := hide (word_any s[K] w)
          have HG : Hid (s.data.toList.getD K 0 = s[K]) := getD_at s K hlt
          cases hwb : wordB s[K] with
          | true =>
            have HV := hide (oneV_word (by omega) (by omega) HO.out (by rw [HG.out]; exact hwb))
            rw [hwb] at CW
            clear hwb HO HG
            go_wp2_with fail
            refine CW.out.mono ?_
            rintro _ w1 ⟨rfl, hw1⟩
            subst w1
            go_wp2_with fail
            try simp only [Exit.inBlock, Exit.then]
            refine bodyPost_ret (results_tmp4 rfl _ _ _) rfl ?_
            rw [HV.out]
            exact ⟨rfl, rfl⟩
          | false =>
            have HV := hide (oneV_ok (by omega) (by omega) HO.out (by rw [HG.out]; exact hwb))
            rw [hwb] at CW
            clear hwb HO HG
            go_wp2_with fail
            refine CW.out.mono ?_
            rintro _ w1 ⟨rfl, hw1⟩
            subst w1
            go_wp2_with fail
            try simp only [Exit.inBlock, Exit.then]
            refine bodyPost_ret (results_tmp4 rfl _ _ _) rfl ?_
            rw [HV.out]
            exact ⟨rfl, rfl⟩
    · have HSP : Hid (span digB (s.data.toList.drop i) = K - i) := span_drop _ _ i K hik (by simp; omega) HK.out (fun h => by simp at h; omega)
      have HO : Hid (one (s.data.toList.drop i) = fin 3 (K - i) (s.data.toList.drop i)) := by
        unfold Hid
        rw [HO1.out, numLen_plain hik HSP.out (fun h => by rw [getD_ge (j := K) (by rw [HL.out]; omega)] at h; exact absurd h.1 (by decide))]
      clear HO1 HK
      have HV := hide (oneV_ok (by omega) (by omega) HO.out (by rw [getD_ge (by simp; omega)]; rfl))
      clear HO
      go_wp2_with fail
      try simp only [Exit.inBlock, Exit.then]
      refine bodyPost_ret (results_tmp4 rfl _ _ _) rfl ?_
      rw [HV.out]
      exact ⟨rfl, rfl⟩

end Go.Proofs.YthnjmfkiohgkkaaGreatDoor

namespace Go.Proofs.YthnjmfkiohgkkaaGreatDoor
open Go.RowKit

set_option maxRecDepth 100000 in
set_option maxHeartbeats 6400000 in
theorem one_var (s : ByteArray) (i : Nat) (w : World) (hs : s.size ≤ 100000) (hi : i < s.size) (hd : dateB (s.data.toList.drop i) = false) (hc : clsB s[i] = 4) :
    Calls Tryz.prog 62 #[.string s, .int .i64 i] w fun e w' => e = .returned (oneV i (one (s.data.toList.drop i))) ∧ w' = w := by
  have CD := hide (date_any s i w hs hi)
  rw [hd] at CD
  have HO1 : Hid (one (s.data.toList.drop i) = fin 2 (span wordB (s.data.toList.drop i)) (s.data.toList.drop i)) := by
    have hg : (s.data.toList.drop i).getD 0 0 = s[i] := by rw [getD_drop]; exact getD_at s i hi
    unfold Hid one
    rw [hd, hg, hc]; simp
  have C5 := hide (digit_any s[i] w)
  rw [show digB s[i] = false from by cases hx : digB s[i] with | false => rfl | true => (have := digB_cls.1 hx; omega)] at C5
  have C3 := hide (small_any s[i] w)
  rw [decide_eq_false (by omega)] at C3
  have C4 := hide (capital_any s[i] w)
  rw [decide_eq_true hc] at C4
  clear hd hc
  go_enter Tryz.func62, Tryz.ntmps62
  go_wp2_with fail
  refine CD.out.mono ?_
  rintro _ w1 ⟨rfl, hw1⟩
  subst w1
  go_wp2_with fail
  refine C5.out.mono ?_
  rintro _ w1 ⟨rfl, hw1⟩
  subst w1
  go_wp2_with fail
  refine C3.out.mono ?_
  rintro _ w1 ⟨rfl, hw1⟩
  subst w1
  go_wp2_with fail
  refine C4.out.mono ?_
  rintro _ w1 ⟨rfl, hw1⟩
  subst w1
  go_wp2_with fail
  clear C5 C3 C4 CD
  go_loop [9] (fun x => ∃ k : Nat, i ≤ k ∧ k ≤ s.size ∧ x = .int .i64 k ∧ Hid (∀ j, i ≤ j → j < k → wordB (s.data.toList.getD j 0) = true)) (fun x => s.size - (intOf x).toNat)
  case atStart => exact ⟨i, Nat.le_refl _, by omega, rfl, fun j h1 h2 => by omega⟩
  case round =>
    obtain ⟨K, hik, hKs, rfl, HK⟩ := hrel
    by_cases hlt : K < s.size
    · have HG2 : Hid (s.data.toList.getD K 0 = s[K]) := getD_at s K hlt
      cases hp : wordB s[K] with
      | true =>
        have HN : Hid (∀ j, i ≤ j → j < K + 1 → wordB (s.data.toList.getD j 0) = true) := fun j h1 h2 => by
          by_cases e : j = K
          · subst e; rw [HG2.out]; exact hp
          · exact HK.out j h1 (by omega)
        have CL := hide (word_any s[K] w)
        rw [hp] at CL
        clear hp HG2 HK HO1
        go_wp2_with fail
        refine CL.out.mono ?_
        rintro _ w1 ⟨rfl, hw1⟩
        subst w1
        go_wp2_with fail
        go_round
        case rel => exact ⟨K + 1, by omega, by omega, by go_num, HN⟩
        case measure => simp [intOf]; omega
      | false =>
        have HO : Hid (one (s.data.toList.drop i) = fin 2 (K - i) (s.data.toList.drop i)) := by
          unfold Hid
          rw [HO1.out, span_drop _ _ i K hik (by simp; omega) HK.out (fun _ => by rw [HG2.out]; exact hp)]
        have CL := hide (word_any s[K] w)
        rw [hp] at CL
        clear HK HO1
        have HP2 := hide hp
        clear hp
        go_wp2_with fail
        refine CL.out.mono ?_
        rintro _ w1 ⟨rfl, hw1⟩
        subst w1
        by_cases hov : 32 < K - i
        · have HV := hide (oneV_over (by omega) hov HO.out)
          have hov' : 32 < (K : Int) - (i : Int) := by omega
          clear hov HO
          go_wp2_with fail
          try simp only [Exit.inBlock, Exit.then]
          refine bodyPost_ret (results_tmp4 rfl _ _ _) rfl ?_
          rw [HV.out]
          exact ⟨rfl, rfl⟩
        · have hov' : ¬ 32 < (K : Int) - (i : Int) := by omega
          have CW := hide (word_any s[K] w)
          have HG : Hid (s.data.toList.getD K 0 = s[K]) := getD_at s K hlt
          have HV := hide (oneV_ok (by omega) (fun h => hov h.2) HO.out (by rw [HG.out]; exact HP2.out))
          rw [HP2.out] at CW
          clear HO HG
          go_wp2_with fail
          refine CW.out.mono ?_
          rintro _ w1 ⟨rfl, hw1⟩
          subst w1
          go_wp2_with fail
          try simp only [Exit.inBlock, Exit.then]
          refine bodyPost_ret (results_tmp4 rfl _ _ _) rfl ?_
          rw [HV.out]
          exact ⟨rfl, rfl⟩

    · have HO : Hid (one (s.data.toList.drop i) = fin 2 (K - i) (s.data.toList.drop i)) := by
        unfold Hid
        rw [HO1.out, span_drop _ _ i K hik (by simp; omega) HK.out (fun h => by simp at h; omega)]
      clear HO1 HK
      by_cases hov : 32 < K - i
      · have HV := hide (oneV_over (by omega) hov HO.out)
        have hov' : 32 < (K : Int) - (i : Int) := by omega
        clear hov HO
        go_wp2_with fail
        try simp only [Exit.inBlock, Exit.then]
        refine bodyPost_ret (results_tmp4 rfl _ _ _) rfl ?_
        rw [HV.out]
        exact ⟨rfl, rfl⟩
      · have hov' : ¬ 32 < (K : Int) - (i : Int) := by omega
        have HV := hide (oneV_ok (by omega) (fun h => hov h.2) HO.out (by rw [getD_ge (by simp; omega)]; rfl))
        clear HO
        go_wp2_with fail
        try simp only [Exit.inBlock, Exit.then]
        refine bodyPost_ret (results_tmp4 rfl _ _ _) rfl ?_
        rw [HV.out]
        exact ⟨rfl, rfl⟩

end Go.Proofs.YthnjmfkiohgkkaaGreatDoor

namespace Go.Proofs.YthnjmfkiohgkkaaGreatDoor
open Go.RowKit

set_option maxRecDepth 100000 in
set_option maxHeartbeats 6400000 in
theorem one_name (s : ByteArray) (i : Nat) (w : World) (hs : s.size ≤ 100000) (hi : i < s.size) (hd : dateB (s.data.toList.drop i) = false) (hc : clsB s[i] = 3) :
    Calls Tryz.prog 62 #[.string s, .int .i64 i] w fun e w' => e = .returned (oneV i (one (s.data.toList.drop i))) ∧ w' = w := by
  have CD := hide (date_any s i w hs hi)
  rw [hd] at CD
  have HO1 : Hid (one (s.data.toList.drop i) = fin 1 (span nameB (s.data.toList.drop i)) (s.data.toList.drop i)) := by
    have hg : (s.data.toList.drop i).getD 0 0 = s[i] := by rw [getD_drop]; exact getD_at s i hi
    unfold Hid one
    rw [hd, hg, hc]; simp
  have C5 := hide (digit_any s[i] w)
  rw [show digB s[i] = false from by cases hx : digB s[i] with | false => rfl | true => (have := digB_cls.1 hx; omega)] at C5
  have C3 := hide (small_any s[i] w)
  rw [decide_eq_true hc] at C3
  clear hd hc
  go_enter Tryz.func62, Tryz.ntmps62
  go_wp2_with fail
  refine CD.out.mono ?_
  rintro _ w1 ⟨rfl, hw1⟩
  subst w1
  go_wp2_with fail
  refine C5.out.mono ?_
  rintro _ w1 ⟨rfl, hw1⟩
  subst w1
  go_wp2_with fail
  refine C3.out.mono ?_
  rintro _ w1 ⟨rfl, hw1⟩
  subst w1
  go_wp2_with fail
  clear C5 C3 CD
  go_loop [9] (fun x => ∃ k : Nat, i ≤ k ∧ k ≤ s.size ∧ x = .int .i64 k ∧ Hid (∀ j, i ≤ j → j < k → nameB (s.data.toList.getD j 0) = true)) (fun x => s.size - (intOf x).toNat)
  case atStart => exact ⟨i, Nat.le_refl _, by omega, rfl, fun j h1 h2 => by omega⟩
  case round =>
    obtain ⟨K, hik, hKs, rfl, HK⟩ := hrel
    by_cases hlt : K < s.size
    · have HG2 : Hid (s.data.toList.getD K 0 = s[K]) := getD_at s K hlt
      cases hp : nameB s[K] with
      | true =>
        have HN : Hid (∀ j, i ≤ j → j < K + 1 → nameB (s.data.toList.getD j 0) = true) := fun j h1 h2 => by
          by_cases e : j = K
          · subst e; rw [HG2.out]; exact hp
          · exact HK.out j h1 (by omega)
        have L3 := hide (small_any s[K] w)
        have L5 := hide (digit_any s[K] w)
        have HC := (cls_nums s[K].toNat).2.2.2.2.2.1
        by_cases h3 : clsB s[K] = 3
        · rw [decide_eq_true h3] at L3
          clear hp HG2 HK HO1 HC h3
          go_wp2_with fail
          refine L3.out.mono ?_
          rintro _ w1 ⟨rfl, hw1⟩
          subst w1
          go_wp2_with fail
          go_round
          case rel => exact ⟨K + 1, by omega, by omega, by go_num, HN⟩
          case measure => simp [intOf]; omega
        · rw [decide_eq_false h3] at L3
          by_cases h5 : clsB s[K] = 5
          · rw [digB_cls.2 h5] at L5
            clear hp HG2 HK HO1 HC h3 h5
            go_wp2_with fail
            refine L3.out.mono ?_
            rintro _ w1 ⟨rfl, hw1⟩
            subst w1
            go_wp2_with fail
            refine L5.out.mono ?_
            rintro _ w1 ⟨rfl, hw1⟩
            subst w1
            go_wp2_with fail
            go_round
            case rel => exact ⟨K + 1, by omega, by omega, by go_num, HN⟩
            case measure => simp [intOf]; omega
          · rw [show digB s[K] = false from by cases hx : digB s[K] with | false => rfl | true => exact absurd (digB_cls.1 hx) h5] at L5
            have h6 : (s[K].toNat : Int) = 95 := HC.1 (by have := of_decide_eq_true hp; unfold clsB at *; omega)
            rw [h6] at L3 L5
            clear hp HG2 HK HO1 HC h3 h5
            go_wp2_with fail
            refine L3.out.mono ?_
            rintro _ w1 ⟨rfl, hw1⟩
            subst w1
            go_wp2_with fail
            refine L5.out.mono ?_
            rintro _ w1 ⟨rfl, hw1⟩
            subst w1
            go_wp2_with fail
            go_round
            case rel => exact ⟨K + 1, by omega, by omega, by go_num, HN⟩
            case measure => simp [intOf]; omega
      | false =>
        have HO : Hid (one (s.data.toList.drop i) = fin 1 (K - i) (s.data.toList.drop i)) := by
          unfold Hid
          rw [HO1.out, span_drop _ _ i K hik (by simp; omega) HK.out (fun _ => by rw [HG2.out]; exact hp)]
        have L3 := hide (small_any s[K] w)
        have L5 := hide (digit_any s[K] w)
        have HC := (cls_nums s[K].toNat).2.2.2.2.2.1
        have hq := of_decide_eq_false hp
        have h6 : ¬ (s[K].toNat : Int) = 95 := fun h => hq (.inr (.inr (HC.2 h)))
        rw [decide_eq_false (fun h => hq (.inl h))] at L3
        rw [show digB s[K] = false from by cases hx : digB s[K] with | false => rfl | true => exact absurd (.inr (.inl (digB_cls.1 hx))) hq] at L5
        clear hp hq HC HK HO1 HG2
        go_wp2_with fail
        refine L3.out.mono ?_
        rintro _ w1 ⟨rfl, hw1⟩
        subst w1
        go_wp2_with fail
        refine L5.out.mono ?_
        rintro _ w1 ⟨rfl, hw1⟩
        subst w1
        by_cases hov : 32 < K - i
        · have HV := hide (oneV_over (by omega) hov HO.out)
          have hov' : 32 < (K : Int) - (i : Int) := by omega
          clear hov HO
          go_wp2_with fail
          try simp only [Exit.inBlock, Exit.then]
          refine bodyPost_ret (results_tmp4 rfl _ _ _) rfl ?_
          rw [HV.out]
          exact ⟨rfl, rfl⟩
        · have hov' : ¬ 32 < (K : Int) - (i : Int) := by omega
          have CW := hide (word_any s[K] w)
          have HG : Hid (s.data.toList.getD K 0 = s[K]) := getD_at s K hlt
          cases hwb : wordB s[K] with
          | true =>
            have HV := hide (oneV_word (by omega) (fun h => hov h.2) HO.out (by rw [HG.out]; exact hwb))
            rw [hwb] at CW
            clear hwb HO HG
            go_wp2_with fail
            refine CW.out.mono ?_
            rintro _ w1 ⟨rfl, hw1⟩
            subst w1
            go_wp2_with fail
            try simp only [Exit.inBlock, Exit.then]
            refine bodyPost_ret (results_tmp4 rfl _ _ _) rfl ?_
            rw [HV.out]
            exact ⟨rfl, rfl⟩
          | false =>
            have HV := hide (oneV_ok (by omega) (fun h => hov h.2) HO.out (by rw [HG.out]; exact hwb))
            rw [hwb] at CW
            clear hwb HO HG
            go_wp2_with fail
            refine CW.out.mono ?_
            rintro _ w1 ⟨rfl, hw1⟩
            subst w1
            go_wp2_with fail
            try simp only [Exit.inBlock, Exit.then]
            refine bodyPost_ret (results_tmp4 rfl _ _ _) rfl ?_
            rw [HV.out]
            exact ⟨rfl, rfl⟩

    · have HO : Hid (one (s.data.toList.drop i) = fin 1 (K - i) (s.data.toList.drop i)) := by
        unfold Hid
        rw [HO1.out, span_drop _ _ i K hik (by simp; omega) HK.out (fun h => by simp at h; omega)]
      clear HO1 HK
      by_cases hov : 32 < K - i
      · have HV := hide (oneV_over (by omega) hov HO.out)
        have hov' : 32 < (K : Int) - (i : Int) := by omega
        clear hov HO
        go_wp2_with fail
        try simp only [Exit.inBlock, Exit.then]
        refine bodyPost_ret (results_tmp4 rfl _ _ _) rfl ?_
        rw [HV.out]
        exact ⟨rfl, rfl⟩
      · have hov' : ¬ 32 < (K : Int) - (i : Int) := by omega
        have HV := hide (oneV_ok (by omega) (fun h => hov h.2) HO.out (by rw [getD_ge (by simp; omega)]; rfl))
        clear HO
        go_wp2_with fail
        try simp only [Exit.inBlock, Exit.then]
        refine bodyPost_ret (results_tmp4 rfl _ _ _) rfl ?_
        rw [HV.out]
        exact ⟨rfl, rfl⟩

end Go.Proofs.YthnjmfkiohgkkaaGreatDoor

namespace Go.Proofs.YthnjmfkiohgkkaaGreatDoor
open Go.RowKit

theorem marksV_at (k : Nat) (hk : k < 21) : marksV[k]? = some (.string ⟨(marksL.getD k []).toArray⟩) := by
  have hl : k < marksL.length := hk
  have e : marksL.getD k [] = marksL[k] := by rw [List.getD_eq_getElem?_getD, List.getElem?_eq_getElem hl]; rfl
  rw [e]
  unfold marksV
  rw [List.getElem?_toArray, List.getElem?_map, List.getElem?_eq_getElem hl]
  rfl

theorem marks_size (k : Nat) : (⟨(marksL.getD k []).toArray⟩ : ByteArray).size = (marksL.getD k []).length := by
  show (marksL.getD k []).toArray.size = _
  simp

set_option maxRecDepth 100000 in
set_option maxHeartbeats 6400000 in
theorem one_sign (s : ByteArray) (i : Nat) (w : World) (hs : s.size ≤ 100000) (hi : i < s.size) (hd : dateB (s.data.toList.drop i) = false) (h3 : clsB s[i] ≠ 3) (h4 : clsB s[i] ≠ 4) (h5 : clsB s[i] ≠ 5) (h7 : clsB s[i] ≠ 7) :
    Calls Tryz.prog 62 #[.string s, .int .i64 i] w fun e w' => e = .returned (oneV i (one (s.data.toList.drop i))) ∧ Below w.heap.size w w' := by
  have hg : (s.data.toList.drop i).getD 0 0 = s[i] := by rw [getD_drop]; exact getD_at s i hi
  have hne : s.data.toList.drop i ≠ [] := by intro h; have := congrArg List.length h; simp at this; omega
  have HY := hide (fun k hk hn hy => one_mark (l := s.data.toList.drop i) (k := k) hd (by rw [hg]; exact h3) (by rw [hg]; exact h4) (by rw [hg]; exact h5) (by rw [hg]; exact h7) hk hn hy)
  have HN := hide (one_nomark (l := s.data.toList.drop i) hne hd (by rw [hg]; exact h3) (by rw [hg]; exact h4) (by rw [hg]; exact h5) (by rw [hg]; exact h7))
  have h34 : ¬ (s[i].toNat : Int) = 34 := fun h => h7 ((cls_nums s[i].toNat).2.2.2.2.2.2.1.2 h)
  have CD := hide (date_any s i w hs hi)
  rw [hd] at CD
  have C5 := hide (digit_any s[i] w)
  rw [show digB s[i] = false from by cases hx : digB s[i] with | false => rfl | true => exact absurd (digB_cls.1 hx) h5] at C5
  have C3 := hide (small_any s[i] w)
  rw [decide_eq_false h3] at C3
  have C4 := hide (capital_any s[i] w)
  rw [decide_eq_false h4] at C4
  have CM := hide (marks_any w)
  obtain ⟨B, hB⟩ : ∃ B, w.heap.size = B := ⟨_, rfl⟩
  rw [hB] at CM ⊢
  have HB := hide hB
  have hbel : Below B w (w.alloc (.cells marksV 9)) := (Below.refl _ _).alloc (by omega) _
  have HBel := hide hbel
  have HCell : Hid (∀ k, k < 21 → (w.alloc (.cells marksV 9)).cell? ⟨B, k, none⟩ = some (.string ⟨(marksL.getD k []).toArray⟩)) := fun k hk => by
    rw [← HB.out, cell_of_row _ w.heap.size k _ 9 (0, 0) (heap_alloc_new w _)]
    exact marksV_at k hk
  clear hd h3 h4 h5 h7 hg hne hB hbel
  go_enter Tryz.func62, Tryz.ntmps62
  go_wp2_with fail
  refine CD.out.mono ?_
  rintro _ w1 ⟨rfl, hw1⟩
  subst w1
  go_wp2_with fail
  refine C5.out.mono ?_
  rintro _ w1 ⟨rfl, hw1⟩
  subst w1
  go_wp2_with fail
  refine C3.out.mono ?_
  rintro _ w1 ⟨rfl, hw1⟩
  subst w1
  go_wp2_with fail
  refine C4.out.mono ?_
  rintro _ w1 ⟨rfl, hw1⟩
  subst w1
  go_wp2_with fail
  refine CM.out.mono ?_
  rintro _ w1 ⟨rfl, hw1⟩
  rw [← hw1] at HBel HCell
  clear hw1 C3 C4 C5 CD CM h34
  go_wp2_with fail
  go_loop [12] (fun x => ∃ k : Nat, k ≤ 21 ∧ x = .int .i64 k ∧ Hid (∀ j, j < k → begB (s.data.toList.drop i) (marksL.getD j []) = false)) (fun x => 21 - (intOf x).toNat)
  case atStart => exact ⟨0, by omega, rfl, fun j h2 => by omega⟩
  case round =>
    obtain ⟨k, hk, rfl, HK⟩ := hrel
    by_cases hlt : k < 21
    · have cK := HCell.out k hlt
      have hml : (marksL.getD k []).length ≤ 2 := by have := marks_len k hlt; rcases Nat.lt_or_ge k 8 with h | h <;> omega
      have CB := hide (begins_any s ⟨(marksL.getD k []).toArray⟩ i w1 hs hi (by rw [marks_size]; omega))
      have hsz := marks_size k
      have HYk := hide (HY.out k hlt HK.out)
      obtain ⟨M, hM⟩ : ∃ M, marksL.getD k [] = M := ⟨_, rfl⟩
      have HN2 : Hid (begB (s.data.toList.drop i) M = false → ∀ j, j < k + 1 → begB (s.data.toList.drop i) (marksL.getD j []) = false) := fun h j hj => by
        by_cases e : j = k
        · subst e; rw [hM]; exact h
        · exact HK.out j (by omega)
      rw [hM] at cK hml CB hsz HYk
      clear hM HY
      obtain ⟨MB, hMB⟩ : ∃ MB : ByteArray, ⟨M.toArray⟩ = MB := ⟨_, rfl⟩
      have hMl : MB.data.toList = M := by rw [← hMB]
      rw [hMB] at cK CB hsz
      rw [hMl] at CB
      clear hMB hMl
      cases hb : begB (s.data.toList.drop i) M with
      | true =>
        rw [hb] at CB
        have HV : Hid (oneV i (one (s.data.toList.drop i)) = .tuple #[.int .i64 6, .int .i64 ((i : Int) + (M.length : Int)), .int .i64 0, .int .i64 0]) := by
          unfold Hid
          rw [HYk.out hb]
          simp only [oneV, if_true]
          rfl
        clear HYk HN2 HK hb
        go_wp2_with fail
        refine CB.out.mono ?_
        rintro _ w2 ⟨rfl, hw2⟩
        subst w2
        go_wp2_with fail
        go_quiet (fail)
        go_wp2_with fail
        try simp only [Exit.inBlock, Exit.then]
        refine bodyPost_ret (results_tmp4 rfl _ _ _) rfl ?_
        rw [HV.out]
        exact ⟨rfl, HBel.out.trans ((below_drewN w1 nq).mono (by have := HBel.out.size; have := HB.out; omega))⟩
      | false =>
        rw [hb] at CB
        have HN3 := hide (HN2.out hb)
        clear HYk HN2 HK hb
        go_wp2_with fail
        refine CB.out.mono ?_
        rintro _ w2 ⟨rfl, hw2⟩
        subst w2
        go_wp2_with fail
        go_round
        case rel => exact ⟨k + 1, by omega, by go_num, HN3⟩
        case measure => simp [intOf]; omega
    · have hke : k = 21 := by omega
      subst hke
      have HV := hide (HN.out HK.out)
      go_wp2_with fail
      try simp only [Exit.inBlock, Exit.then]
      refine bodyPost_ret (results_tmp4 rfl _ _ _) rfl ?_
      rw [HV.out]
      exact ⟨rfl, HBel.out⟩

theorem same_below {P : Program} {f : Nat} {args : Array Value} {w : World} {Q : Ending → Prop} (h : Calls P f args w fun e w' => Q e ∧ w' = w) : Calls P f args w fun e w' => Q e ∧ Below w.heap.size w w' :=
  h.mono fun _ _ ⟨h1, h2⟩ => ⟨h1, h2 ▸ Below.refl _ _⟩

theorem one_any (s : ByteArray) (i : Nat) (w : World) (hs : s.size ≤ 100000) (hi : i < s.size) :
    Calls Tryz.prog 62 #[.string s, .int .i64 i] w fun e w' => e = .returned (oneV i (one (s.data.toList.drop i))) ∧ Below w.heap.size w w' := by
  cases hd : dateB (s.data.toList.drop i) with
  | true => exact same_below (one_date s i w hs hi hd)
  | false =>
    by_cases h3 : clsB s[i] = 3
    · exact same_below (one_name s i w hs hi hd h3)
    · by_cases h4 : clsB s[i] = 4
      · exact same_below (one_var s i w hs hi hd h4)
      · by_cases h5 : clsB s[i] = 5
        · exact same_below (one_number s i w hs hi hd h5)
        · by_cases h7 : clsB s[i] = 7
          · exact same_below (one_quote s i w hs hi hd h7)
          · exact one_sign s i w hs hi hd h3 h4 h5 h7
end Go.Proofs.YthnjmfkiohgkkaaGreatDoor

namespace Go.Proofs.YthnjmfkiohgkkaaGreatDoor
open Go.RowKit

theorem one_five {l : List UInt8} (h : (one l).2.2.1 = 0) (h5 : (one l).1 = 5) : 2 ≤ (one l).2.1 := by
  unfold one at h h5 ⊢
  by_cases hd : dateB l = true
  · rw [if_pos hd] at h h5; rw [fin_ok h] at h5; simp at h5
  · rw [if_neg hd] at h h5 ⊢
    by_cases c5 : clsB (l.getD 0 0) = 5
    · rw [if_pos c5] at h h5; rw [fin_ok h] at h5; simp at h5
    · rw [if_neg c5] at h h5 ⊢
      by_cases c3 : clsB (l.getD 0 0) = 3
      · rw [if_pos c3] at h h5; rw [fin_ok h] at h5; simp at h5
      · rw [if_neg c3] at h h5 ⊢
        by_cases c4 : clsB (l.getD 0 0) = 4
        · rw [if_pos c4] at h h5; rw [fin_ok h] at h5; simp at h5
        · rw [if_neg c4] at h h5 ⊢
          by_cases c7 : clsB (l.getD 0 0) = 7
          · rw [if_pos c7] at h ⊢
            by_cases hq : clsB (l.getD (span inQ (l.drop 1) + 1) 0) = 7
            · rw [if_pos hq]; simp
            · rw [if_neg hq] at h; simp at h
          · rw [if_neg c7] at h h5 ⊢
            by_cases h2 : 2 ≤ l.length ∧ markB (l.take 2) = true
            · rw [if_pos h2] at h5; simp at h5
            · rw [if_neg h2] at h h5 ⊢
              by_cases h1 : markB (l.take 1) = true
              · rw [if_pos h1] at h5; simp at h5
              · rw [if_neg h1] at h; simp at h

/-- Two rows of the call's own, of tokens and of texts. -/
structure Two (B : Nat) (tv rv : Value) (tk : List Tok) (rm : List (List UInt8)) (w0 w : World) : Prop where
  bel : Below B w0 w
  size : B ≤ w.heap.size
  tks : w.ownsRow B 50 3 tv tk.length (cellsT tk)
  rms : w.ownsRow B 9 1 rv rm.length (rm.map strV)

section
variable {B : Nat} {tv rv : Value} {tk : List Tok} {rm : List (List UInt8)} {w0 w w1 : World}

theorem own_kinds {e e' k k' n n' : Nat} {v v' : Value} {xs xs' : List Value} (h : w.ownsRow B e k v n xs) (h' : w.ownsRow B e' k' v' n' xs') (hne : e ≠ e') : v'.ownBlock = none ∨ v'.ownBlock ≠ v.ownBlock := by
  rcases h'.2 with ⟨rfl, _⟩ | ⟨g, cap, cur, rfl, _, hz, _⟩
  · exact .inl rfl
  · refine .inr fun e1 => ?_
    rcases h.2 with ⟨rfl, _⟩ | ⟨g', cap', cur', rfl, _, hz', _⟩
    · cases e1
    · have : g' = g := by simpa [Value.ownBlock] using e1.symm
      subst this
      rw [hz] at hz'
      simp at hz'
      exact hne hz'.2.symm

theorem grown_below (hs : B ≤ w.heap.size) {row : Option Nat} (hg : w.grownBy w1 row) (hr : ∀ k, row = some k → B ≤ k) (hb : Below B w0 w) : Below B w0 w1 :=
  hb.trans ⟨hg.os, hg.tape, hg.output, hg.size, fun k hk => hg.block k (by omega) fun e => by have := hr k e.symm; omega⟩

theorem Two.tok (h : Two B tv rv tk rm w0 w) {v : Value} (t : Tok) (hown : w1.ownsRow B 50 3 v (tk.length + 1) (cellsT tk ++ [.int .i64 t.kind, strV t.text, .int .i64 t.place])) (hg : w.grownBy w1 tv.ownBlock) : Two B v rv (tk ++ [t]) rm w0 w1 := by
  refine ⟨grown_below h.size hg (fun k hk => (h.tks.lt k hk).1) h.bel, Nat.le_trans h.size hg.size, ?_, h.rms.kept hg (own_kinds h.tks h.rms (by decide))⟩
  simp only [cellsT_snoc, List.length_append, List.length_cons, List.length_nil]
  exact hown

theorem Two.rem (h : Two B tv rv tk rm w0 w) {v : Value} (t : List UInt8) (hown : w1.ownsRow B 9 1 v (rm.length + 1) (rm.map strV ++ [strV t])) (hg : w.grownBy w1 rv.ownBlock) : Two B tv v tk (rm ++ [t]) w0 w1 := by
  refine ⟨grown_below h.size hg (fun k hk => (h.rms.lt k hk).1) h.bel, Nat.le_trans h.size hg.size, h.tks.kept hg (own_kinds h.rms h.tks (by decide)), ?_⟩
  simp only [List.map_append, List.map_cons, List.map_nil, List.length_append, List.length_cons, List.length_nil]
  exact hown

theorem Two.below (h : Two B tv rv tk rm w0 w) (hb : Below w.heap.size w w1) : Two B tv rv tk rm w0 w1 := by
  have ow : ∀ {e k n : Nat} {v : Value} {xs : List Value}, w.ownsRow B e k v n xs → w1.ownsRow B e k v n xs := fun {e k n v xs} ho => by
    refine ⟨ho.1, ?_⟩
    rcases ho.2 with h3 | ⟨g, cap, cur, h4, h5, h6, h7⟩
    · exact .inl h3
    · exact .inr ⟨g, cap, cur, h4, h5, (hb.block g (Array.getElem?_eq_some_iff.1 h6).1).trans h6, h7⟩
  exact ⟨h.bel.trans (hb.mono h.size), Nat.le_trans h.size hb.size, ow h.tks, ow h.rms⟩
end

set_option maxRecDepth 100000 in
set_option maxHeartbeats 8000000 in
theorem walk_any (s : ByteArray) (w : World) (B : Nat) (hB : w.heap.size = B) :
    Calls Tryz.prog 36 #[.string s] w fun r w' => ∃ tv rv, r = .returned (.tuple #[tv, rv, .int .i64 (lexT s.data.toList).err, .int .i64 (lexT s.data.toList).place]) ∧ Two B tv rv (lexT s.data.toList).tk (lexT s.data.toList).rm w w' := by
  have hsl : s.data.toList.length = s.size := by simp
  by_cases hs : 65536 < s.size
  · have HL : Hid (lexT s.data.toList = ⟨[], [], 5, 0⟩) := by unfold Hid lexT; rw [if_pos (by omega)]
    rw [HL.out]
    clear hsl HL
    go_enter Tryz.func36, Tryz.ntmps36
    go_wp2_with fail
    try simp only [Exit.inBlock, Exit.then]
    refine bodyPost_ret (results_tmp4 rfl _ _ _) rfl ?_
    exact ⟨_, _, rfl, ⟨Below.refl _ _, by omega, ⟨rfl, .inl ⟨rfl, rfl⟩⟩, ⟨rfl, .inl ⟨rfl, rfl⟩⟩⟩⟩
  · have HL : Hid (lexT s.data.toList = lexR s.data.toList) := by unfold Hid lexT; rw [if_neg (by omega)]
    rw [HL.out]
    have HB := hide hB
    have HLen := hide hsl
    clear HL hB hsl
    obtain ⟨iT, hiT, zT0, zT1, zT2⟩ := info_parts infoTok
    obtain ⟨iS, hiS, zS0, zS1, zS2⟩ := info_parts infoStr
    go_enter Tryz.func36, Tryz.ntmps36
    go_wp2_with fail
    go_loopw [6, 7, 8] (fun tv rv x wr => ∃ (k : Nat) (tk : List Tok) (rm : List (List UInt8)), k ≤ s.size ∧ x = .int .i64 k ∧ tk.length ≤ k ∧ rm.length ≤ k ∧ Hid (Two B tv rv tk rm w wr) ∧ Hid (W (s.data.toList.drop k) k tk rm = lexR s.data.toList)) (fun _ _ x _ => s.size - (intOf x).toNat)
    case atStart => exact ⟨0, [], [], Nat.zero_le _, rfl, Nat.zero_le _, Nat.zero_le _, ⟨Below.refl _ _, by rw [HB.out]; exact Nat.le_refl _, ⟨rfl, .inl ⟨rfl, rfl⟩⟩, ⟨rfl, .inl ⟨rfl, rfl⟩⟩⟩, rfl⟩
    case round =>
      obtain ⟨k, tk, rm, hk, rfl, htk, hrm, HT, HW⟩ := hrel
      by_cases hlt : k < s.size
      · have HG : Hid (s.data.toList.getD k 0 = s[k]) := getD_at s k hlt
        have HDC := hide (drop_cons s.data.toList k (by rw [HLen.out]; exact hlt))
        rw [HG.out] at HDC
        have CB := hide (blank_any s[k] wr)
        cases hb : blankB s[k] with
        | true =>
          have HW2 : Hid (W (s.data.toList.drop (k + 1)) (k + 1) tk rm = lexR s.data.toList) := by
            unfold Hid
            rw [← HW.out, HDC.out, W_blank _ _ _ _ _ hb]
          rw [hb] at CB
          clear hb HW HG HDC
          go_wp2_with fail
          refine CB.out.mono ?_
          rintro _ w1 ⟨rfl, hw1⟩
          subst w1
          go_wp2_with fail
          go_roundw
          case rel => exact ⟨k + 1, tk, rm, by omega, by go_num, by omega, by omega, HT, HW2⟩
          case measure => simp [intOf]; omega
        | false =>
          have HBk := hide hb
          rw [hb] at CB
          clear hb
          have H8 := hide ((cls_nums s[k].toNat).2.2.2.2.2.2.2.1)
          by_cases h35 : (s[k].toNat : Int) = 35
          · have h8 : clsB s[k] = 8 := H8.out.2 h35
            have HW2 := HW
            rw [HDC.out, W_remark _ _ _ _ _ h8] at HW2
            rw [h35] at CB
            clear HW HG HDC H8 HBk h8
            go_wp2_with fail
            refine CB.out.mono ?_
            rintro _ w1 ⟨rfl, hw1⟩
            subst w1
            go_wp2_with fail
            clear CB
            go_loop [9] (fun x => ∃ m : Nat, k ≤ m ∧ m ≤ s.size ∧ x = .int .i64 m ∧ Hid (∀ j, k ≤ j → j < m → noEnd (s.data.toList.getD j 0) = true)) (fun x => s.size - (intOf x).toNat)
            case atStart => exact ⟨k, Nat.le_refl _, by omega, rfl, fun j h1 h2 => by omega⟩
            case round =>
              obtain ⟨m, hkm, hms, rfl, HM⟩ := hrel
              have go : ∀ (_ : m < s.size → noEnd (s.data.toList.getD m 0) = false) (_ : k + 1 ≤ m), W (s.data.toList.drop m) m tk (rm ++ [sub s.data.toList (k + 1) m]) = lexR s.data.toList := by
                intro hm hkm1
                rw [← HW2.out, span_drop _ _ (k + 1) m hkm1 (by rw [HLen.out]; exact hms) (fun j h1 h2 => HM.out j (by omega) h2) (fun h => hm (by rw [HLen.out] at h; exact h)), List.drop_drop]
                have e : k + 1 + (m - (k + 1)) = m := by omega
                rw [e]; rfl
              have GO := hide go
              clear go
              by_cases hml : m < s.size
              · have HG : Hid (s.data.toList.getD m 0 = s[m]) := getD_at s m hml
                have H1 := hide ((cls_nums s[m].toNat).1)
                by_cases h10 : (s[m].toNat : Int) = 10
                · have hkm1 : k + 1 ≤ m := by
                    by_cases e : m = k
                    · subst e; omega
                    · omega
                  have HW3 := hide (GO.out (fun _ => by rw [HG.out]; exact decide_eq_false (fun h => h (H1.out.2 h10))) hkm1)
                  have b1 : (k : Int) + 1 ≤ (m : Int) := by omega
                  clear HM GO HW2
                  go_wp2_with (at_builtin; go_must (refine wpList_append_lies _ rfl _ _ 22 rfl B 9 iS _ 1 16 Tryz.underlying22 hiS zS0 zS1 zS2 rfl (by omega) _ rm.length (rm.map strV) rfl (HT.out.rms.alloc _) ⟨wr.heap.size, 0, none⟩ 1 1 [.string (s.extract (k + 1) m)] rfl rfl (World.news_of_block (cs := #[.string (s.extract (k + 1) m)]) (t := 9) (fr := (0, 0)) (heap_alloc_new wr _)) (by simp [Value.oneCell']) (by omega) (by unfold maxLen; omega) (by omega) (by simp; have := HT.out.size; omega) (wr.heap.size + 1) (by simp) ?_))
                  intro g cap w1 hown hgrow hat hlt1
                  have HT2 := hide (HT.out.rem (sub s.data.toList (k + 1) m) (by rw [← sub_data, strV_data]; exact hown) ((grown_alloc wr _ _).trans hgrow))
                  clear hown hgrow hat hlt1
                  go_wp2_with fail
                  go_roundw
                  case rel => exact ⟨m, tk, rm ++ [sub s.data.toList (k + 1) m], by omega, rfl, by omega, by simp; omega, HT2, HW3⟩
                  case measure => simp [intOf]; omega
                · have n10 : ((s[m].toNat : Int) != 10) = true := by simpa using h10
                  have HN : Hid (∀ j, k ≤ j → j < m + 1 → noEnd (s.data.toList.getD j 0) = true) := fun j h1 h2 => by
                    by_cases e : j = m
                    · subst e; rw [HG.out]; exact decide_eq_true (fun h => h10 (H1.out.1 h))
                    · exact HM.out j h1 (by omega)
                  clear HM HG H1 GO HW2 h10
                  go_wp2_with fail
                  go_round
                  case rel => exact ⟨m + 1, by omega, by omega, by go_num, HN⟩
                  case measure => simp [intOf]; omega
              · have hkm1 : k + 1 ≤ m := by omega
                have HW3 := hide (GO.out (fun h => absurd h hml) hkm1)
                have b1 : (k : Int) + 1 ≤ (m : Int) := by omega
                clear HM GO HW2
                go_wp2_with (at_builtin; go_must (refine wpList_append_lies _ rfl _ _ 22 rfl B 9 iS _ 1 16 Tryz.underlying22 hiS zS0 zS1 zS2 rfl (by omega) _ rm.length (rm.map strV) rfl (HT.out.rms.alloc _) ⟨wr.heap.size, 0, none⟩ 1 1 [.string (s.extract (k + 1) m)] rfl rfl (World.news_of_block (cs := #[.string (s.extract (k + 1) m)]) (t := 9) (fr := (0, 0)) (heap_alloc_new wr _)) (by simp [Value.oneCell']) (by omega) (by unfold maxLen; omega) (by omega) (by simp; have := HT.out.size; omega) (wr.heap.size + 1) (by simp) ?_))
                intro g cap w1 hown hgrow hat hlt1
                have HT2 := hide (HT.out.rem (sub s.data.toList (k + 1) m) (by rw [← sub_data, strV_data]; exact hown) ((grown_alloc wr _ _).trans hgrow))
                clear hown hgrow hat hlt1
                go_wp2_with fail
                go_roundw
                case rel => exact ⟨m, tk, rm ++ [sub s.data.toList (k + 1) m], by omega, rfl, by omega, by simp; omega, HT2, HW3⟩
                case measure => simp [intOf]; omega
          · have h8 : clsB s[k] ≠ 8 := fun h => h35 (H8.out.1 h)
            have CO := hide (one_any s k wr (by omega) hlt)
            by_cases he : (one (s.data.toList.drop k)).2.2.1 = 0
            · have HLn := hide (one_len (l := s.data.toList.drop k) (by rw [HDC.out]; simp) he)
              have H5 := hide (fun h => one_five he h)
              have HW2 : Hid (W (s.data.toList.drop (k + (one (s.data.toList.drop k)).2.1)) (k + (one (s.data.toList.drop k)).2.1) (tk ++ [tokOf (one (s.data.toList.drop k)).1 (one (s.data.toList.drop k)).2.1 (s.data.toList.drop k) k]) rm = lexR s.data.toList) := by
                have h := HW.out
                have he' := he
                rw [HDC.out] at h he'
                rw [W_tok _ _ _ _ _ HBk.out h8 he', ← HDC.out, List.drop_drop] at h
                exact h
              unfold oneV at CO
              rw [if_pos he] at CO
              have hK := HLn.out
              simp only [List.length_drop, HLen.out] at hK
              clear HW HG HDC H8 HBk h8 HLn he
              generalize one (s.data.toList.drop k) = o at CO H5 HW2 hK
              obtain ⟨kd, m, ee, pp⟩ := o
              simp only at CO H5 HW2 hK
              obtain ⟨K, hKe⟩ : ∃ K, K = k + m := ⟨_, rfl⟩
              rw [← hKe] at CO HW2
              have hkK : k < K := by omega
              have hKs : K ≤ s.size := by omega
              have HKe := hide hKe
              clear hKe
              go_wp2_with fail
              refine CB.out.mono ?_
              rintro _ w1 ⟨rfl, hw1⟩
              subst w1
              go_wp2_with fail
              refine CO.out.mono ?_
              rintro _ w1 ⟨rfl, hb1⟩
              have HT1 := hide (HT.out.below hb1)
              clear hb1 CB CO
              by_cases h5 : kd = 5
              · subst h5
                have hm2 : 2 ≤ m := H5.out rfl
                have HTk : Hid (tokOf 5 m (s.data.toList.drop k) k = ⟨5, (s.extract (k + 1) (K - 1)).data.toList, k⟩) := by
                  unfold Hid tokOf
                  rw [if_pos rfl, sub_data]
                  unfold sub
                  rw [List.drop_take, List.drop_drop]
                  have e : m - 1 - 1 = K - 1 - (k + 1) := by have := HKe.out; omega
                  rw [e]
                have b1 : (k : Int) + 1 ≤ (K : Int) - 1 := by have := HKe.out; omega
                have eK : (K : Int) - 1 = ((K - 1 : Nat) : Int) := by omega
                have b2 : k + 1 ≤ K - 1 := by have := HKe.out; omega
                have b3 : K - 1 ≤ s.size := by omega
                clear H5 hK
                go_wp2_with (at_builtin; go_must (refine wpList_append_lies _ rfl _ _ 42 rfl B 50 iT _ 3 32 Tryz.underlying42 hiT zT0 zT1 zT2 rfl (by omega) _ tk.length (cellsT tk) rfl (HT1.out.tks.alloc _) ⟨w1.heap.size, 0, none⟩ 1 1 [.int .i64 5, .string (s.extract (k + 1) (K - 1)), .int .i64 k] rfl rfl (World.news_of_block (cs := #[.int .i64 5, .string (s.extract (k + 1) (K - 1)), .int .i64 k]) (t := 50) (fr := (0, 0)) (heap_alloc_new w1 _)) (by simp [Value.oneCell']) (by omega) (by unfold maxLen; omega) (by omega) (by simp; have := HT1.out.size; omega) (w1.heap.size + 1) (by simp) ?_))
                intro g cap w2 hown hgrow hat hlt1
                have HT2 := hide (HT1.out.tok (tokOf 5 m (s.data.toList.drop k) k) (by rw [HTk.out]; rw [strV_data]; exact hown) ((grown_alloc w1 _ _).trans hgrow))
                clear hown hgrow hat hlt1
                go_wp2_with fail
                go_roundw
                case rel => exact ⟨K, _, rm, by omega, rfl, by simp; omega, by omega, HT2, HW2⟩
                case measure => simp [intOf]; omega
              · have HTk : Hid (tokOf kd m (s.data.toList.drop k) k = ⟨kd, (s.extract k K).data.toList, k⟩) := by
                  unfold Hid tokOf
                  rw [if_neg h5, sub_data]
                  unfold sub
                  have e : m = K - k := by have := HKe.out; omega
                  rw [e]
                have h5' : ¬ (kd : Int) = 5 := by omega
                clear H5 hK h5
                go_wp2_with (at_builtin; go_must (refine wpList_append_lies _ rfl _ _ 42 rfl B 50 iT _ 3 32 Tryz.underlying42 hiT zT0 zT1 zT2 rfl (by omega) _ tk.length (cellsT tk) rfl (HT1.out.tks.alloc _) ⟨w1.heap.size, 0, none⟩ 1 1 [.int .i64 kd, .string (s.extract k K), .int .i64 k] rfl rfl (World.news_of_block (cs := #[.int .i64 kd, .string (s.extract k K), .int .i64 k]) (t := 50) (fr := (0, 0)) (heap_alloc_new w1 _)) (by simp [Value.oneCell']) (by omega) (by unfold maxLen; omega) (by omega) (by simp; have := HT1.out.size; omega) (w1.heap.size + 1) (by simp) ?_))
                intro g cap w2 hown hgrow hat hlt1
                have HT2 := hide (HT1.out.tok (tokOf kd m (s.data.toList.drop k) k) (by rw [HTk.out]; rw [strV_data]; exact hown) ((grown_alloc w1 _ _).trans hgrow))
                clear hown hgrow hat hlt1
                go_wp2_with fail
                go_roundw
                case rel => exact ⟨K, _, rm, by omega, rfl, by simp; omega, by omega, HT2, HW2⟩
                case measure => simp [intOf]; omega
            · have HE := hide (W_err s[k] (s.data.toList.drop (k + 1)) k tk rm HBk.out h8 (by rw [← HDC.out]; exact he))
              rw [← HDC.out, HW.out] at HE
              unfold oneV at CO
              rw [if_neg he] at CO
              have hne : ((one (s.data.toList.drop k)).2.2.1 : Int) ≠ 0 := by omega
              clear HW HG HDC H8 HBk h8 he
              generalize (one (s.data.toList.drop k)).2.2.1 = ee at *
              generalize k + (one (s.data.toList.drop k)).2.2.2 = pp at *
              go_wp2_with fail
              refine CB.out.mono ?_
              rintro _ w1 ⟨rfl, hw1⟩
              subst w1
              go_wp2_with fail
              refine CO.out.mono ?_
              rintro _ w1 ⟨rfl, hb1⟩
              have HT1 := hide (HT.out.below hb1)
              clear hb1 CB CO
              go_wp2_with fail
              try simp only [Exit.inBlock, Exit.then]
              refine bodyPost_ret (results_tmp4 rfl _ _ _) rfl ?_
              rw [HE.out]
              exact ⟨_, _, rfl, ⟨HT1.out.bel, HT1.out.size, ⟨rfl, .inl ⟨rfl, rfl⟩⟩, ⟨rfl, .inl ⟨rfl, rfl⟩⟩⟩⟩
      · have HE : Hid (lexR s.data.toList = ⟨tk, rm, 0, s.size⟩) := by
          have e : k = s.size := by omega
          unfold Hid
          rw [← HW.out, List.drop_eq_nil_of_le (by rw [HLen.out]; omega), W_nil, e]
        go_wp2_with fail
        try simp only [Exit.inBlock, Exit.then]
        refine bodyPost_ret (results_tmp4 rfl _ _ _) rfl ?_
        rw [HE.out]
        exact ⟨_, _, rfl, HT.out⟩
end Go.Proofs.YthnjmfkiohgkkaaGreatDoor

namespace Go.Proofs.YthnjmfkiohgkkaaGreatDoor
open Go.RowKit

/-- A row of tokens lies at an address. -/
def RowT (w : World) (a : Option Addr) (tk : List Tok) : Prop :=
  ∀ j t, tk[j]? = some t → ∃ b o, a = some ⟨b, o, none⟩ ∧ w.cell? ⟨b, o + j * 3, none⟩ = some (.int .i64 t.kind) ∧ w.cell? ⟨b, o + j * 3 + 1, none⟩ = some (strV t.text) ∧ w.cell? ⟨b, o + j * 3 + 2, none⟩ = some (.int .i64 t.place)

/-- A row of texts lies at an address. -/
def RowS (w : World) (a : Option Addr) (rm : List (List UInt8)) : Prop := ∀ j t, rm[j]? = some t → ∃ b o, a = some ⟨b, o, none⟩ ∧ w.cell? ⟨b, o + j, none⟩ = some (strV t)

theorem add_at (g j : Nat) : (⟨g, 0, none⟩ : Addr).add j = ⟨g, j, none⟩ := by unfold Addr.add; split <;> simp_all

theorem cellsT_at (tk : List Tok) : ∀ (j : Nat) (t : Tok), tk[j]? = some t → (cellsT tk)[j * 3]? = some (.int .i64 t.kind) ∧ (cellsT tk)[j * 3 + 1]? = some (strV t.text) ∧ (cellsT tk)[j * 3 + 2]? = some (.int .i64 t.place) := by
  induction tk with
  | nil => intro j t h; simp at h
  | cons a l ih =>
    intro j t h
    have e : cellsT (a :: l) = .int .i64 a.kind :: strV a.text :: .int .i64 a.place :: cellsT l := by simp [cellsT]
    rw [e]
    cases j with
    | zero => simp at h; subst h; simp
    | succ j =>
      have := ih j t (by simpa using h)
      have e1 : (j + 1) * 3 = j * 3 + 3 := by omega
      rw [e1]
      simpa using this

theorem own_rowT {w : World} {B : Nat} {v : Value} {tk : List Tok} (h : w.ownsRow B 50 3 v tk.length (cellsT tk)) : ∃ a c, v = .slice a tk.length c ∧ RowT w a tk := by
  rcases h.2 with ⟨h1, h2⟩ | ⟨g, cap, cur, rfl, h2, h3, h4⟩
  · refine ⟨none, 0, by rw [h1, h2], fun j t hj => ?_⟩
    have : tk = [] := List.eq_nil_of_length_eq_zero h2
    subst this; simp at hj
  · refine ⟨some ⟨g, 0, none⟩, cap, rfl, fun j t hj => ?_⟩
    have := cellsT_at tk j t hj
    have hc : ∀ j u, (cellsT tk)[j]? = some u → w.cell? ⟨g, j, none⟩ = some u := fun j u hu => by have := h.cells (g := g) rfl j u hu; rwa [add_at] at this
    refine ⟨g, 0, rfl, ?_⟩
    rw [Nat.zero_add]
    exact ⟨hc _ _ this.1, hc _ _ this.2.1, hc _ _ this.2.2⟩

set_option maxRecDepth 100000 in
set_option maxHeartbeats 1600000 in
theorem refTokens_any (s : ByteArray) (w : World) :
    Calls Tryz.prog 13 #[.string s] w fun r w' => ∃ v, r = .returned (.tuple #[v, .int .i64 (lexT s.data.toList).err, .int .i64 (lexT s.data.toList).place]) ∧
      w'.ownsRow w.heap.size 50 3 v (lexT s.data.toList).tk.length (cellsT (lexT s.data.toList).tk) ∧ Below w.heap.size w w' := by
  have CC := hide (walk_any s w _ rfl)
  generalize lexT s.data.toList = Z at *
  go_enter Tryz.func13, Tryz.ntmps13
  go_wp2_with fail
  refine CC.out.mono ?_
  rintro _ w1 ⟨tv, rv, rfl, h⟩
  have HH := hide h
  clear h CC
  go_wp2_with fail
  go_ret3
  exact ⟨_, rfl, HH.out.tks, HH.out.bel⟩

end Go.Proofs.YthnjmfkiohgkkaaGreatDoor
