/- The ends of tokens: a token that may not be followed by a word's byte; a name or var; a date, a number, a fraction, a quote. -/
import Derived.Test.YthnjmfkiohgkkaaGreatDoorBetween
import Derived.Test.YthnjmfkiohgkkaaGreatDoorAdd
import Derived.BigQuiet
import Derived.Deep.RegionWith
namespace Go.Proofs.YthnjmfkiohgkkaaGreatDoor
open Go.RowKit

theorem sub_data (T : ByteArray) (a b : Nat) : (T.extract a b).data.toList = sub T.data.toList a b := by
  simp only [ByteArray.data_extract, Array.toList_extract, List.extract_eq_take_drop]
  rfl

set_option maxRecDepth 100000 in
set_option maxHeartbeats 1600000 in
theorem endApart_ok (B : Nat) (T : ByteArray) (S : St) (kind i : Nat) (c : Int) (w : World) (h : Sc B T S w) (hn : S.tk.length ≤ 1000000) (hi : i ≤ T.size) (hf : S.frm ≤ i) :
    Calls Tryz.prog 147 #[.pointer (some ⟨B, 0, none⟩), .int .i64 kind, .int .i64 i, .int .i32 c] w fun r w' => r = .returned (.tuple #[]) ∧ Sc B T (apartS T.data.toList S kind i c) w' ∧ Fr B w w' := by
  have H := hide h
  have CC := hide (classOf_any c w)
  have c0 := h.text
  have c2 := h.frmc
  by_cases hc : cls c = 3 ∨ cls c = 4 ∨ cls c = 5 ∨ cls c = 6
  · have CF := hide (fail_ok B T S 41 i w h)
    have HA : Hid (apartS T.data.toList S kind i c = { S with err := 41, place := i }) := by unfold Hid apartS; rw [if_pos hc]
    rcases hc with hc | hc | hc | hc
    all_goals
      rw [hc] at CC
      clear h hc
      go_enter Tryz.func147, Tryz.ntmps147
      go_wp2_with fail
      refine CC.out.mono ?_
      rintro _ w1 ⟨rfl, hw1⟩
      subst w1
      go_wp2_with fail
      refine CF.out.mono ?_
      rintro _ w1 ⟨rfl, h1, h2⟩
      have HS := hide h1
      have HF := hide h2
      clear h1 h2
      go_wp2_with fail
      go_end0
      rw [HA.out]
      exact ⟨rfl, HS.out, HF.out⟩
  · have CA := hide (fun w' (h' : Sc B T S w') => add_ok B T S kind (T.extract S.frm i) w' h' hn)
    have HA : Hid (apartS T.data.toList S kind i c = betweenS T.data.toList { S with fn := 66, tk := S.tk ++ [⟨kind, (T.extract S.frm i).data.toList, S.frm⟩] } i c) := by unfold Hid apartS; rw [if_neg hc, sub_data]
    obtain ⟨n3, n4, n5, n6⟩ : cls c ≠ 3 ∧ cls c ≠ 4 ∧ cls c ≠ 5 ∧ cls c ≠ 6 := by omega
    generalize cls c = k at CC n3 n4 n5 n6
    clear h hc
    have b1 : (S.frm : Int) ≤ (i : Int) := by omega
    have b2 : (i : Int) ≤ (T.size : Int) := by omega
    go_enter Tryz.func147, Tryz.ntmps147
    go_wp2_with fail
    refine CC.out.mono ?_
    rintro _ w1 ⟨rfl, hw1⟩
    subst w1
    go_wp2_with fail
    go_region_with (go_at_call 148; refine (CA.out w.drew H.out.drew).mono ?_; rintro _ w1 ⟨rfl, h1, h2⟩)
    all_goals
      have HS := hide h1
      have HF := hide h2
      clear h1 h2
      have CB := hide (between_ok B T _ i c w1 HS.out hi)
      go_wp2_with fail
      refine CB.out.mono ?_
      rintro _ w2 ⟨rfl, h1, h2⟩
      have HS2 := hide h1
      have HF2 := hide h2
      clear h1 h2
      go_wp2_with fail
      go_end0
      rw [HA.out]
      exact ⟨rfl, HS2.out, ((Fr.refl B w).drew.trans HF.out).trans HF2.out⟩

set_option maxRecDepth 100000 in
set_option maxHeartbeats 1600000 in
theorem endWord_ok (B : Nat) (T : ByteArray) (S : St) (kind i : Nat) (c : Int) (w : World) (h : Sc B T S w) (hn : S.tk.length ≤ 1000000) (hT : T.size ≤ 1000000) (hi : i ≤ T.size) (hf : S.frm ≤ i) :
    Calls Tryz.prog 145 #[.pointer (some ⟨B, 0, none⟩), .int .i64 kind, .int .i64 i, .int .i32 c] w fun r w' => r = .returned (.tuple #[]) ∧ Sc B T (wordS T.data.toList S kind i c) w' ∧ Fr B w w' := by
  have c2 := h.frmc
  by_cases hl : 32 < i - S.frm
  · have HA : Hid (wordS T.data.toList S kind i c = { S with err := 5, place := S.frm }) := by unfold Hid wordS; rw [if_pos hl]
    have hl' : 32 < (i : Int) - (S.frm : Int) := by omega
    have CF := hide (fail_ok B T S 5 S.frm w h)
    clear h
    go_enter Tryz.func145, Tryz.ntmps145
    go_wp2_with fail
    refine CF.out.mono ?_
    rintro _ w1 ⟨rfl, h1, h2⟩
    have HS := hide h1
    have HF := hide h2
    clear h1 h2
    go_wp2_with fail
    refine bodyPost_ret (results_none rfl _ _ _) rfl ?_
    rw [HA.out]
    exact ⟨rfl, HS.out, HF.out⟩
  · have HA : Hid (wordS T.data.toList S kind i c = apartS T.data.toList S kind i c) := by unfold Hid wordS; rw [if_neg hl]
    have hl' : ¬ 32 < (i : Int) - (S.frm : Int) := by omega
    have CF := hide (endApart_ok B T S kind i c w h hn hi hf)
    clear h
    go_enter Tryz.func145, Tryz.ntmps145
    go_wp2_with fail
    refine CF.out.mono ?_
    rintro _ w1 ⟨rfl, h1, h2⟩
    have HS := hide h1
    have HF := hide h2
    clear h1 h2
    go_wp2_with fail
    go_end0
    rw [HA.out]
    exact ⟨rfl, HS.out, HF.out⟩
end Go.Proofs.YthnjmfkiohgkkaaGreatDoor
