/- The scanner's states: in a quote, a remark, a mark. -/
import Derived.Test.YthnjmfkiohgkkaaGreatDoorStates
namespace Go.Proofs.YthnjmfkiohgkkaaGreatDoor
open Go.RowKit

theorem inRemark_ok (B : Nat) (T : ByteArray) (S : St) (i : Nat) (c : Int) (w : World) (h : Sc B T S w) (hn : S.rm.length ≤ 1000000) (hT : T.size ≤ 1000000) (hi : i < T.size) (hf : S.frm + 1 ≤ i) :
    Calls Tryz.prog 117 #[.pointer (some ⟨B, 0, none⟩), .int .i64 i, .int .i32 c] w fun r w' => r = .returned (.tuple #[]) ∧ Sc B T (remarkS T.data.toList S i c) w' ∧ Fr B w w' := by
  by_cases hc : cls c = 1
  · have HA : remarkS T.data.toList S i c = { S with fn := 66, rm := S.rm ++ [sub T.data.toList (S.frm + 1) i] } := by unfold remarkS; rw [if_pos hc]
    rw [HA, ← sub_data]
    exact inRemark_end B T S i c w h hn hc hT (by omega) hf
  · have HA : remarkS T.data.toList S i c = S := by unfold remarkS; rw [if_neg hc]
    rw [HA]
    refine (inRemark_other B i c w hc).mono ?_
    rintro _ w1 ⟨rfl, rfl⟩
    exact ⟨rfl, h, Fr.refl _ _⟩

set_option maxRecDepth 100000 in
set_option maxHeartbeats 1600000 in
theorem inQuote_ok (B : Nat) (T : ByteArray) (S : St) (i : Nat) (c : Int) (w : World) (h : Sc B T S w) (hn : S.tk.length ≤ 1000000) (hT : T.size ≤ 1000000) (hi : i < T.size) (hf : S.frm + 1 ≤ i) :
    Calls Tryz.prog 116 #[.pointer (some ⟨B, 0, none⟩), .int .i64 i, .int .i32 c] w fun r w' => r = .returned (.tuple #[]) ∧ Sc B T (quoteS T.data.toList S i c) w' ∧ Fr B w w' := by
  have H := hide h
  have CC := hide (classOf_any c w)
  have c0 := h.text
  have c2 := h.frmc
  by_cases h7 : cls c = 7
  · have HA : Hid (quoteS T.data.toList S i c = { S with fn := 66, tk := S.tk ++ [⟨5, (T.extract (S.frm + 1) i).data.toList, S.frm⟩] }) := by unfold Hid quoteS; rw [if_pos h7, sub_data]
    have CA := hide (fun w' (h' : Sc B T S w') => add_ok B T S 5 (T.extract (S.frm + 1) i) w' h' hn)
    have wr : IntKind.i64.wrap ((S.frm : Int) + 1) = (S.frm : Int) + 1 := by rw [IntKind.wrap_i64]; omega
    have b0 : (0 : Int) ≤ (S.frm : Int) + 1 := by omega
    have b1 : (S.frm : Int) + 1 ≤ (i : Int) := by omega
    have b2 : (i : Int) ≤ (T.size : Int) := by omega
    rw [h7] at CC
    clear h h7
    go_enter Tryz.func116, Tryz.ntmps116
    go_wp2_with fail
    refine CC.out.mono ?_
    rintro _ w1 ⟨rfl, hw1⟩
    subst w1
    go_wp2_with fail
    go_region_with (go_at_call 148; refine (CA.out w.drew H.out.drew).mono ?_; rintro _ w1 ⟨rfl, h1, h2⟩)
    all_goals
      have HS := hide h1
      have HF := hide h2
      clear h1 h2
      go_wp2_with fail
      go_end0
      rw [HA.out]
      exact ⟨rfl, HS.out, (Fr.refl B w).drew.trans HF.out⟩
  · by_cases h1 : cls c = 1
    · have HA : Hid (quoteS T.data.toList S i c = { S with err := 42, place := S.frm }) := by unfold Hid quoteS; rw [if_neg h7, if_pos h1]
      have CF := hide (fail_ok B T S 42 S.frm w h)
      rw [h1] at CC
      clear h h7 h1
      go_enter Tryz.func116, Tryz.ntmps116
      go_wp2_with fail
      refine CC.out.mono ?_
      rintro _ w1 ⟨rfl, hw1⟩
      subst w1
      go_wp2_with fail
      refine CF.out.mono ?_
      rintro _ w1 ⟨rfl, h1, h2⟩
      have HS := hide h1
      have HF := hide h2
      clear h1 h2
      go_wp2_with fail
      go_end0
      rw [HA.out]
      exact ⟨rfl, HS.out, HF.out⟩
    · have HA : Hid (quoteS T.data.toList S i c = S) := by unfold Hid quoteS; rw [if_neg h7, if_neg h1]
      generalize cls c = k at CC h7 h1
      clear h
      go_enter Tryz.func116, Tryz.ntmps116
      go_wp2_with fail
      refine CC.out.mono ?_
      rintro _ w1 ⟨rfl, hw1⟩
      subst w1
      go_wp2_with fail
      go_end0
      rw [HA.out]
      exact ⟨rfl, H.out, Fr.refl B w⟩

theorem below_drewN (w : World) (n : Nat) : Below w.heap.size w (w.drewN n) := ⟨rfl, rfl, rfl, Nat.le_refl _, fun _ _ => rfl⟩

set_option maxRecDepth 100000 in
set_option maxHeartbeats 3200000 in
theorem inMark_ok (B : Nat) (T : ByteArray) (S : St) (i : Nat) (c : Int) (w : World) (h : Sc B T S w) (hn : S.tk.length ≤ 1000000) (hT : T.size ≤ 1000000) (hi : i < T.size) (hf : S.frm ≤ i) :
    Calls Tryz.prog 118 #[.pointer (some ⟨B, 0, none⟩), .int .i64 i, .int .i32 c] w fun r w' => r = .returned (.tuple #[]) ∧ Sc B T (markS T.data.toList S i c) w' ∧ Fr B w w' := by
  have H := hide h
  have M2 := hide (isMark_any (T.extract S.frm (i + 1)))
  have M1 := hide (isMark_any (T.extract S.frm i))
  rw [ByteArray.toList_eq, sub_data] at M1 M2
  have c0 := h.text
  have c2 := h.frmc
  have wr : IntKind.i64.wrap ((i : Int) + 1) = (i : Int) + 1 := by rw [IntKind.wrap_i64]; omega
  have b0 : (0 : Int) ≤ (i : Int) + 1 := by omega
  have b1 : (S.frm : Int) ≤ (i : Int) := by omega
  have b2 : (i : Int) ≤ (T.size : Int) := by omega
  have b3 : (S.frm : Int) ≤ (i : Int) + 1 := by omega
  have b4 : (i : Int) + 1 ≤ (T.size : Int) := by omega
  have HA : Hid (markS T.data.toList S i c = _) := hide (by unfold markS; rfl)
  cases h2 : markB (sub T.data.toList S.frm (i + 1)) with
  | true =>
    rw [h2] at M2
    rw [if_pos h2] at HA
    have CA := hide (fun w' (h' : Sc B T S w') => add_ok B T S 6 (T.extract S.frm (i + 1)) w' h' hn)
    rw [sub_data] at CA
    clear h h2 M1
    go_enter Tryz.func118, Tryz.ntmps118
    go_wp2_with fail
    go_quiet (fail)
    go_wp2_with fail
    refine (M2.out _).mono ?_
    rintro _ w1 ⟨rfl, hw1⟩
    subst w1
    go_wp2_with fail
    refine (CA.out _ (H.out.below (below_drewN w nq))).mono ?_
    rintro _ w1 ⟨rfl, h1, h2⟩
    have HS := hide h1
    have HF := hide h2
    clear h1 h2
    go_wp2_with fail
    go_end0
    rw [HA.out]
    exact ⟨rfl, HS.out, (Fr.of_below H.out.1 (below_drewN w nq)).trans HF.out⟩
  | false =>
    rw [h2] at M2
    rw [if_neg (by rw [h2]; simp)] at HA
    cases h1 : markB (sub T.data.toList S.frm i) with
    | true =>
      rw [h1] at M1
      rw [if_pos h1] at HA
      have CA := hide (fun w' (h' : Sc B T S w') => add_ok B T S 6 (T.extract S.frm i) w' h' hn)
      rw [sub_data] at CA
      clear h h2 h1
      go_enter Tryz.func118, Tryz.ntmps118
      go_wp2_with fail
      go_quiet (fail)
      go_wp2_with fail
      refine (M2.out _).mono ?_
      rintro _ w1 ⟨rfl, hw1⟩
      subst w1
      go_wp2_with fail
      refine (M1.out _).mono ?_
      rintro _ w1 ⟨rfl, hw1⟩
      subst w1
      go_wp2_with fail
      refine (CA.out _ (H.out.below (below_drewN w nq))).mono ?_
      rintro _ w1 ⟨rfl, h1, h2⟩
      have HS := hide h1
      have HF := hide h2
      clear h1 h2
      have CB := hide (between_ok B T _ i c w1 HS.out (by omega))
      go_wp2_with fail
      refine CB.out.mono ?_
      rintro _ w2 ⟨rfl, h1, h2⟩
      have HS2 := hide h1
      have HF2 := hide h2
      clear h1 h2
      go_wp2_with fail
      go_end0
      rw [HA.out]
      exact ⟨rfl, HS2.out, ((Fr.of_below H.out.1 (below_drewN w nq)).trans HF.out).trans HF2.out⟩
    | false =>
      rw [h1] at M1
      rw [if_neg (by rw [h1]; simp)] at HA
      have CF := hide (fun w' (h' : Sc B T S w') => fail_ok B T S 41 S.frm w' h')
      clear h h2 h1
      go_enter Tryz.func118, Tryz.ntmps118
      go_wp2_with fail
      go_quiet (fail)
      go_wp2_with fail
      refine (M2.out _).mono ?_
      rintro _ w1 ⟨rfl, hw1⟩
      subst w1
      go_wp2_with fail
      refine (M1.out _).mono ?_
      rintro _ w1 ⟨rfl, hw1⟩
      subst w1
      go_wp2_with fail
      refine (CF.out _ (H.out.below (below_drewN w nq))).mono ?_
      rintro _ w1 ⟨rfl, h1, h2⟩
      have HS := hide h1
      have HF := hide h2
      clear h1 h2
      go_wp2_with fail
      go_end0
      rw [HA.out]
      exact ⟨rfl, HS.out, (Fr.of_below H.out.1 (below_drewN w nq)).trans HF.out⟩
end Go.Proofs.YthnjmfkiohgkkaaGreatDoor
