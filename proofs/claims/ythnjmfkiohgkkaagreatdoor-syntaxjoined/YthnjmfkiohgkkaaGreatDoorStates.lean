/- The scanner's states: in a name, a var, a number, a fraction, a date, a quote, a mark. -/
import Derived.Test.YthnjmfkiohgkkaaGreatDoorEnds
import Derived.Test.YthnjmfkiohgkkaaGreatDoorRem
namespace Go.Proofs.YthnjmfkiohgkkaaGreatDoor
open Go.RowKit

set_option maxRecDepth 100000 in
set_option maxHeartbeats 1600000 in
theorem inName_ok (B : Nat) (T : ByteArray) (S : St) (i : Nat) (c : Int) (w : World) (h : Sc B T S w) (hn : S.tk.length ≤ 1000000) (hT : T.size ≤ 1000000) (hi : i < T.size) (hf : S.frm ≤ i) :
    Calls Tryz.prog 111 #[.pointer (some ⟨B, 0, none⟩), .int .i64 i, .int .i32 c] w fun r w' => r = .returned (.tuple #[]) ∧ Sc B T (nameS T.data.toList S i c) w' ∧ Fr B w w' := by
  have H := hide h
  have CC := hide (classOf_any c w)
  by_cases hc : cls c = 3 ∨ cls c = 5 ∨ cls c = 6
  · have HA : Hid (nameS T.data.toList S i c = S) := by unfold Hid nameS; rw [if_pos hc]
    clear h
    rcases hc with hc | hc | hc
    all_goals
      rw [hc] at CC
      clear hc
      go_enter Tryz.func111, Tryz.ntmps111
      go_wp2_with fail
      refine CC.out.mono ?_
      rintro _ w1 ⟨rfl, hw1⟩
      subst w1
      go_wp2_with fail
      go_end0
      rw [HA.out]
      exact ⟨rfl, H.out, Fr.refl B w⟩
  · have HA : Hid (nameS T.data.toList S i c = wordS T.data.toList S 1 i c) := by unfold Hid nameS; rw [if_neg hc]
    have CF := hide (endWord_ok B T S 1 i c w h hn hT (by omega) hf)
    obtain ⟨n3, n5, n6⟩ : cls c ≠ 3 ∧ cls c ≠ 5 ∧ cls c ≠ 6 := by omega
    generalize cls c = k at CC n3 n5 n6
    clear h hc
    go_enter Tryz.func111, Tryz.ntmps111
    go_wp2_with fail
    refine CC.out.mono ?_
    rintro _ w1 ⟨rfl, hw1⟩
    subst w1
    go_wp2_with fail
    refine CF.out.mono ?_
    rintro _ w1 ⟨rfl, h1, h2⟩
    have HS := hide h1
    have HF := hide h2
    clear h1 h2
    go_wp2_with fail
    go_end0
    rw [HA.out]
    exact ⟨rfl, HS.out, HF.out⟩

set_option maxRecDepth 100000 in
set_option maxHeartbeats 1600000 in
theorem inVar_ok (B : Nat) (T : ByteArray) (S : St) (i : Nat) (c : Int) (w : World) (h : Sc B T S w) (hn : S.tk.length ≤ 1000000) (hT : T.size ≤ 1000000) (hi : i < T.size) (hf : S.frm ≤ i) :
    Calls Tryz.prog 112 #[.pointer (some ⟨B, 0, none⟩), .int .i64 i, .int .i32 c] w fun r w' => r = .returned (.tuple #[]) ∧ Sc B T (varS T.data.toList S i c) w' ∧ Fr B w w' := by
  have H := hide h
  have CC := hide (classOf_any c w)
  by_cases hc : cls c = 3 ∨ cls c = 4 ∨ cls c = 5 ∨ cls c = 6
  · have HA : Hid (varS T.data.toList S i c = S) := by unfold Hid varS; rw [if_pos hc]
    clear h
    rcases hc with hc | hc | hc | hc
    all_goals
      rw [hc] at CC
      clear hc
      go_enter Tryz.func112, Tryz.ntmps112
      go_wp2_with fail
      refine CC.out.mono ?_
      rintro _ w1 ⟨rfl, hw1⟩
      subst w1
      go_wp2_with fail
      go_end0
      rw [HA.out]
      exact ⟨rfl, H.out, Fr.refl B w⟩
  · have HA : Hid (varS T.data.toList S i c = wordS T.data.toList S 2 i c) := by unfold Hid varS; rw [if_neg hc]
    have CF := hide (endWord_ok B T S 2 i c w h hn hT (by omega) hf)
    obtain ⟨n3, n4, n5, n6⟩ : cls c ≠ 3 ∧ cls c ≠ 4 ∧ cls c ≠ 5 ∧ cls c ≠ 6 := by omega
    generalize cls c = k at CC n3 n4 n5 n6
    clear h hc
    go_enter Tryz.func112, Tryz.ntmps112
    go_wp2_with fail
    refine CC.out.mono ?_
    rintro _ w1 ⟨rfl, hw1⟩
    subst w1
    go_wp2_with fail
    refine CF.out.mono ?_
    rintro _ w1 ⟨rfl, h1, h2⟩
    have HS := hide h1
    have HF := hide h2
    clear h1 h2
    go_wp2_with fail
    go_end0
    rw [HA.out]
    exact ⟨rfl, HS.out, HF.out⟩

set_option maxRecDepth 100000 in
set_option maxHeartbeats 1600000 in
theorem inFraction_ok (B : Nat) (T : ByteArray) (S : St) (i : Nat) (c : Int) (w : World) (h : Sc B T S w) (hn : S.tk.length ≤ 1000000) (hi : i < T.size) (hf : S.frm ≤ i) :
    Calls Tryz.prog 146 #[.pointer (some ⟨B, 0, none⟩), .int .i64 i, .int .i32 c] w fun r w' => r = .returned (.tuple #[]) ∧ Sc B T (fractionS T.data.toList S i c) w' ∧ Fr B w w' := by
  have H := hide h
  have CC := hide (classOf_any c w)
  by_cases hc : cls c = 5
  · have HA : Hid (fractionS T.data.toList S i c = S) := by unfold Hid fractionS; rw [if_pos hc]
    clear h
    rw [hc] at CC
    clear hc
    go_enter Tryz.func146, Tryz.ntmps146
    go_wp2_with fail
    refine CC.out.mono ?_
    rintro _ w1 ⟨rfl, hw1⟩
    subst w1
    go_wp2_with fail
    go_end0
    rw [HA.out]
    exact ⟨rfl, H.out, Fr.refl B w⟩
  · have HA : Hid (fractionS T.data.toList S i c = apartS T.data.toList S 3 i c) := by unfold Hid fractionS; rw [if_neg hc]
    have CF := hide (endApart_ok B T S 3 i c w h hn (by omega) hf)
    generalize cls c = k at CC hc
    clear h
    go_enter Tryz.func146, Tryz.ntmps146
    go_wp2_with fail
    refine CC.out.mono ?_
    rintro _ w1 ⟨rfl, hw1⟩
    subst w1
    go_wp2_with fail
    refine CF.out.mono ?_
    rintro _ w1 ⟨rfl, h1, h2⟩
    have HS := hide h1
    have HF := hide h2
    clear h1 h2
    go_wp2_with fail
    go_end0
    rw [HA.out]
    exact ⟨rfl, HS.out, HF.out⟩

set_option maxRecDepth 100000 in
set_option maxHeartbeats 1600000 in
theorem inDate_ok (B : Nat) (T : ByteArray) (S : St) (i : Nat) (c : Int) (w : World) (h : Sc B T S w) (hn : S.tk.length ≤ 1000000) (hT : T.size ≤ 1000000) (hi : i < T.size) (hf : S.frm ≤ i) :
    Calls Tryz.prog 115 #[.pointer (some ⟨B, 0, none⟩), .int .i64 i, .int .i32 c] w fun r w' => r = .returned (.tuple #[]) ∧ Sc B T (dateS T.data.toList S i c) w' ∧ Fr B w w' := by
  have H := hide h
  have c2 := h.frmc
  by_cases hc : i = S.frm + 10
  · have HA : Hid (dateS T.data.toList S i c = apartS T.data.toList S 4 i c) := by unfold Hid dateS; rw [if_pos hc]
    have CF := hide (endApart_ok B T S 4 i c w h hn (by omega) hf)
    have hc1 : (i : Int) ≤ (S.frm : Int) + 10 := by omega
    have hc2 : (S.frm : Int) + 10 ≤ (i : Int) := by omega
    clear h hc
    go_enter Tryz.func115, Tryz.ntmps115
    go_wp2_with fail
    refine CF.out.mono ?_
    rintro _ w1 ⟨rfl, h1, h2⟩
    have HS := hide h1
    have HF := hide h2
    clear h1 h2
    go_wp2_with fail
    go_end0
    rw [HA.out]
    exact ⟨rfl, HS.out, HF.out⟩
  · have HA : Hid (dateS T.data.toList S i c = S) := by unfold Hid dateS; rw [if_neg hc]
    have hc' : ¬ (i : Int) = (S.frm : Int) + 10 := by omega
    clear h hc
    go_enter Tryz.func115, Tryz.ntmps115
    go_wp2_with fail
    go_end0
    rw [HA.out]
    exact ⟨rfl, H.out, Fr.refl B w⟩

set_option maxRecDepth 100000 in
set_option maxHeartbeats 1600000 in
theorem inNumber_ok (B : Nat) (T : ByteArray) (S : St) (i : Nat) (c : Int) (w : World) (h : Sc B T S w) (hn : S.tk.length ≤ 1000000) (hT : T.size ≤ 1000000) (hi : i < T.size) (hf : S.frm ≤ i) (hd : cls c = 9 → i + 1 < T.size) :
    Calls Tryz.prog 113 #[.pointer (some ⟨B, 0, none⟩), .int .i64 i, .int .i32 c] w fun r w' => r = .returned (.tuple #[]) ∧ Sc B T (numberS T.data.toList S i c) w' ∧ Fr B w w' := by
  have H := hide h
  have CC := hide (classOf_any c w)
  have c0 := h.text
  have c1 := h.fnc
  have f1 := h.frz 1
  by_cases hc : cls c = 5
  · have HA : Hid (numberS T.data.toList S i c = S) := by unfold Hid numberS; rw [if_pos hc]
    clear h hd
    rw [hc] at CC
    clear hc
    go_enter Tryz.func113, Tryz.ntmps113
    go_wp2_with fail
    refine CC.out.mono ?_
    rintro _ w1 ⟨rfl, hw1⟩
    subst w1
    go_wp2_with fail
    go_end0
    rw [HA.out]
    exact ⟨rfl, H.out, Fr.refl B w⟩
  · by_cases hp : cls c = 9
    · have hi1 : i + 1 < T.size := hd hp
      have hi2 : (i : Int) + 1 < (T.size : Int) := by omega
      have hb255 : (T[i + 1].toNat : Int) ≤ 255 := by have := T[i + 1].toNat_lt; omega
      have C2 := hide (classOf_any (T[i + 1].toNat : Int) w)
      have HD := hide (cls_digit T[i + 1])
      have HG := hide (getD_at T (i + 1) hi1)
      by_cases h5 : cls (T[i + 1].toNat : Int) = 5
      · have HA : Hid (numberS T.data.toList S i c = { S with fn := 146 }) := by unfold Hid numberS; rw [if_neg hc, if_pos ⟨hp, by rw [HG.out]; exact HD.out.1 h5⟩]
        rw [hp] at CC
        rw [h5] at C2
        clear h hd hc hp h5
        go_enter Tryz.func113, Tryz.ntmps113
        go_wp2_with fail
        refine CC.out.mono ?_
        rintro _ w1 ⟨rfl, hw1⟩
        subst w1
        go_wp2_with fail
        refine CC.out.mono ?_
        rintro _ w1 ⟨rfl, hw1⟩
        subst w1
        go_wp2_with fail
        refine C2.out.mono ?_
        rintro _ w1 ⟨rfl, hw1⟩
        subst w1
        go_wp2_with fail
        go_end0
        rw [HA.out]
        exact ⟨rfl, H.out.setFn 146, (Fr.refl B w).set _ _⟩
      · have HA : Hid (numberS T.data.toList S i c = apartS T.data.toList S 3 i c) := by
          unfold Hid numberS
          rw [if_neg hc, if_neg (fun h => h5 (HD.out.2 (by rw [← HG.out]; exact h.2)))]
        have CF := hide (endApart_ok B T S 3 i c w h hn (by omega) hf)
        rw [hp] at CC
        clear HD
        generalize cls (T[i + 1].toNat : Int) = k at C2 h5
        clear h hd hc hp
        go_enter Tryz.func113, Tryz.ntmps113
        go_wp2_with fail
        refine CC.out.mono ?_
        rintro _ w1 ⟨rfl, hw1⟩
        subst w1
        go_wp2_with fail
        refine CC.out.mono ?_
        rintro _ w1 ⟨rfl, hw1⟩
        subst w1
        go_wp2_with fail
        refine C2.out.mono ?_
        rintro _ w1 ⟨rfl, hw1⟩
        subst w1
        go_wp2_with fail
        refine CF.out.mono ?_
        rintro _ w1 ⟨rfl, h1, h2⟩
        have HS := hide h1
        have HF := hide h2
        clear h1 h2
        go_wp2_with fail
        go_end0
        rw [HA.out]
        exact ⟨rfl, HS.out, HF.out⟩
    · have HA : Hid (numberS T.data.toList S i c = apartS T.data.toList S 3 i c) := by unfold Hid numberS; rw [if_neg hc, if_neg (fun h => hp h.1)]
      have CF := hide (endApart_ok B T S 3 i c w h hn (by omega) hf)
      generalize cls c = k at CC hc hp
      clear h hd
      go_enter Tryz.func113, Tryz.ntmps113
      go_wp2_with fail
      refine CC.out.mono ?_
      rintro _ w1 ⟨rfl, hw1⟩
      subst w1
      go_wp2_with fail
      refine CC.out.mono ?_
      rintro _ w1 ⟨rfl, hw1⟩
      subst w1
      go_wp2_with fail
      refine CF.out.mono ?_
      rintro _ w1 ⟨rfl, h1, h2⟩
      have HS := hide h1
      have HF := hide h2
      clear h1 h2
      go_wp2_with fail
      go_end0
      rw [HA.out]
      exact ⟨rfl, HS.out, HF.out⟩

end Go.Proofs.YthnjmfkiohgkkaaGreatDoor
