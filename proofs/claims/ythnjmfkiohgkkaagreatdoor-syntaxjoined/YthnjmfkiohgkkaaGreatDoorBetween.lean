/- Between tokens: what begins. -/
import Derived.Test.YthnjmfkiohgkkaaGreatDoorDate
namespace Go.Proofs.YthnjmfkiohgkkaaGreatDoor
open Go.RowKit

theorem extract_end (s : ByteArray) (a : Nat) : (s.extract a s.size).data.toList = s.data.toList.drop a := by
  simp only [ByteArray.data_extract, Array.toList_extract, List.extract_eq_take_drop]
  exact List.take_of_length_le (by simp)

set_option maxRecDepth 100000 in
set_option maxHeartbeats 1600000 in
theorem between_0 (B : Nat) (T : ByteArray) (S : St) (i : Nat) (c : Int) (w : World) (h : Sc B T S w) (hc : cls c = 0) :
    Calls Tryz.prog 66 #[.pointer (some ⟨B, 0, none⟩), .int .i64 i, .int .i32 c] w fun r w' => r = .returned (.tuple #[]) ∧ Sc B T (betweenS T.data.toList S i c) w' ∧ Fr B w w' := by
  have H := hide h
  have H1 := hide (h.setFrm i)
  have F1 := hide ((Fr.refl B w).set 2 (.int .i64 i))
  have CC := hide (classOf_any c (w.setCell ⟨B, 2, none⟩ (.int .i64 i)))
  rw [hc] at CC
  have c0 := h.text
  have c1 := h.fnc
  have c2 := h.frmc
  have f1 := h.frz 1
  have f2 := h.frz 2
  have HB : Hid (betweenS T.data.toList S i c = { S with frm := i, err := 41, place := i }) := by unfold Hid betweenS; rw [hc]; rfl
  clear h hc
  go_enter Tryz.func66, Tryz.ntmps66
  go_wp2_with fail
  refine CC.out.mono ?_
  rintro _ w1 ⟨rfl, hw1⟩
  subst w1
  have CF := hide (fail_ok B T { S with frm := i } 41 i _ H1.out)
  go_wp2_with fail
  refine CF.out.mono ?_
  rintro _ w1 ⟨rfl, h1, h2⟩
  have HS := hide h1
  have HF := hide h2
  clear h1 h2
  go_wp2_with fail
  go_end0
  rw [HB.out]
  exact ⟨rfl, HS.out, F1.out.trans HF.out⟩

set_option maxRecDepth 100000 in
set_option maxHeartbeats 1600000 in
theorem between_1 (B : Nat) (T : ByteArray) (S : St) (i : Nat) (c : Int) (w : World) (h : Sc B T S w) (hc : cls c = 1) :
    Calls Tryz.prog 66 #[.pointer (some ⟨B, 0, none⟩), .int .i64 i, .int .i32 c] w fun r w' => r = .returned (.tuple #[]) ∧ Sc B T (betweenS T.data.toList S i c) w' ∧ Fr B w w' := by
  have H := hide h
  have H1 := hide (h.setFrm i)
  have F1 := hide ((Fr.refl B w).set 2 (.int .i64 i))
  have CC := hide (classOf_any c (w.setCell ⟨B, 2, none⟩ (.int .i64 i)))
  rw [hc] at CC
  have c0 := h.text
  have c1 := h.fnc
  have c2 := h.frmc
  have f1 := h.frz 1
  have f2 := h.frz 2
  have HB : Hid (betweenS T.data.toList S i c = { S with frm := i }) := by unfold Hid betweenS; rw [hc]; rfl
  clear h hc
  go_enter Tryz.func66, Tryz.ntmps66
  go_wp2_with fail
  refine CC.out.mono ?_
  rintro _ w1 ⟨rfl, hw1⟩
  subst w1
  go_wp2_with fail
  go_end0
  rw [HB.out]
  exact ⟨rfl, H1.out, F1.out⟩

set_option maxRecDepth 100000 in
set_option maxHeartbeats 1600000 in
theorem between_2 (B : Nat) (T : ByteArray) (S : St) (i : Nat) (c : Int) (w : World) (h : Sc B T S w) (hc : cls c = 2) :
    Calls Tryz.prog 66 #[.pointer (some ⟨B, 0, none⟩), .int .i64 i, .int .i32 c] w fun r w' => r = .returned (.tuple #[]) ∧ Sc B T (betweenS T.data.toList S i c) w' ∧ Fr B w w' := by
  have H := hide h
  have H1 := hide (h.setFrm i)
  have F1 := hide ((Fr.refl B w).set 2 (.int .i64 i))
  have CC := hide (classOf_any c (w.setCell ⟨B, 2, none⟩ (.int .i64 i)))
  rw [hc] at CC
  have c0 := h.text
  have c1 := h.fnc
  have c2 := h.frmc
  have f1 := h.frz 1
  have f2 := h.frz 2
  have HB : Hid (betweenS T.data.toList S i c = { S with frm := i }) := by unfold Hid betweenS; rw [hc]; rfl
  clear h hc
  go_enter Tryz.func66, Tryz.ntmps66
  go_wp2_with fail
  refine CC.out.mono ?_
  rintro _ w1 ⟨rfl, hw1⟩
  subst w1
  go_wp2_with fail
  go_end0
  rw [HB.out]
  exact ⟨rfl, H1.out, F1.out⟩

set_option maxRecDepth 100000 in
set_option maxHeartbeats 1600000 in
theorem between_3 (B : Nat) (T : ByteArray) (S : St) (i : Nat) (c : Int) (w : World) (h : Sc B T S w) (hc : cls c = 3) :
    Calls Tryz.prog 66 #[.pointer (some ⟨B, 0, none⟩), .int .i64 i, .int .i32 c] w fun r w' => r = .returned (.tuple #[]) ∧ Sc B T (betweenS T.data.toList S i c) w' ∧ Fr B w w' := by
  have H := hide h
  have H1 := hide (h.setFrm i)
  have F1 := hide ((Fr.refl B w).set 2 (.int .i64 i))
  have CC := hide (classOf_any c (w.setCell ⟨B, 2, none⟩ (.int .i64 i)))
  rw [hc] at CC
  have c0 := h.text
  have c1 := h.fnc
  have c2 := h.frmc
  have f1 := h.frz 1
  have f2 := h.frz 2
  have HB : Hid (betweenS T.data.toList S i c = { S with frm := i, fn := 111 }) := by unfold Hid betweenS; rw [hc]; rfl
  clear h hc
  go_enter Tryz.func66, Tryz.ntmps66
  go_wp2_with fail
  refine CC.out.mono ?_
  rintro _ w1 ⟨rfl, hw1⟩
  subst w1
  go_wp2_with fail
  go_end0
  rw [HB.out]
  exact ⟨rfl, H1.out.setFn 111, F1.out.set _ _⟩

set_option maxRecDepth 100000 in
set_option maxHeartbeats 1600000 in
theorem between_4 (B : Nat) (T : ByteArray) (S : St) (i : Nat) (c : Int) (w : World) (h : Sc B T S w) (hc : cls c = 4) :
    Calls Tryz.prog 66 #[.pointer (some ⟨B, 0, none⟩), .int .i64 i, .int .i32 c] w fun r w' => r = .returned (.tuple #[]) ∧ Sc B T (betweenS T.data.toList S i c) w' ∧ Fr B w w' := by
  have H := hide h
  have H1 := hide (h.setFrm i)
  have F1 := hide ((Fr.refl B w).set 2 (.int .i64 i))
  have CC := hide (classOf_any c (w.setCell ⟨B, 2, none⟩ (.int .i64 i)))
  rw [hc] at CC
  have c0 := h.text
  have c1 := h.fnc
  have c2 := h.frmc
  have f1 := h.frz 1
  have f2 := h.frz 2
  have HB : Hid (betweenS T.data.toList S i c = { S with frm := i, fn := 112 }) := by unfold Hid betweenS; rw [hc]; rfl
  clear h hc
  go_enter Tryz.func66, Tryz.ntmps66
  go_wp2_with fail
  refine CC.out.mono ?_
  rintro _ w1 ⟨rfl, hw1⟩
  subst w1
  go_wp2_with fail
  go_end0
  rw [HB.out]
  exact ⟨rfl, H1.out.setFn 112, F1.out.set _ _⟩

set_option maxRecDepth 100000 in
set_option maxHeartbeats 1600000 in
theorem between_5 (B : Nat) (T : ByteArray) (S : St) (i : Nat) (c : Int) (w : World) (h : Sc B T S w) (hc : cls c = 5) (hi : i ≤ T.size) :
    Calls Tryz.prog 66 #[.pointer (some ⟨B, 0, none⟩), .int .i64 i, .int .i32 c] w fun r w' => r = .returned (.tuple #[]) ∧ Sc B T (betweenS T.data.toList S i c) w' ∧ Fr B w w' := by
  have H := hide h
  have H1 := hide (h.setFrm i)
  have F1 := hide ((Fr.refl B w).set 2 (.int .i64 i))
  have CC := hide (classOf_any c (w.setCell ⟨B, 2, none⟩ (.int .i64 i)))
  rw [hc] at CC
  have c0 := h.text
  have c1 := h.fnc
  have c2 := h.frmc
  have f1 := h.frz 1
  have f2 := h.frz 2
  have HB : Hid (betweenS T.data.toList S i c = { S with frm := i, fn := if dateB (T.data.toList.drop i) then 115 else 113 }) := by unfold Hid betweenS; rw [hc]; rfl
  clear h hc
  go_enter Tryz.func66, Tryz.ntmps66
  go_wp2_with fail
  refine CC.out.mono ?_
  rintro _ w1 ⟨rfl, hw1⟩
  subst w1
  have H2 := hide (H1.out.setFn 113)
  have F2 := hide (F1.out.set 1 (.func (.func 113) #[.pointer (some ⟨B, 0, none⟩)] #[]))
  have CD := hide (beginsDate_any (T.extract i T.size) ((w.setCell ⟨B, 2, none⟩ (.int .i64 i)).setCell ⟨B, 1, none⟩ (.func (.func 113) #[.pointer (some ⟨B, 0, none⟩)] #[])))
  rw [extract_end] at CD
  go_wp2_with fail
  refine CD.out.mono ?_
  rintro _ w1 ⟨rfl, hb1⟩
  have H3 : Hid (Sc B T { S with frm := i, fn := 113 } w1) := H2.out.below hb1
  have F3 : Hid (Fr B w w1) := F2.out.trans (Fr.of_below H2.out.1 hb1)
  clear hb1
  have c1' := H3.out.fnc
  have f1' := H3.out.frz 1
  cases hd : dateB (T.data.toList.drop i) with
  | true =>
    go_wp2_with fail
    go_end0
    rw [HB.out, hd]
    exact ⟨rfl, H3.out.setFn 115, F3.out.set _ _⟩
  | false =>
    go_wp2_with fail
    go_end0
    rw [HB.out, hd]
    exact ⟨rfl, H3.out, F3.out⟩

set_option maxRecDepth 100000 in
set_option maxHeartbeats 1600000 in
theorem between_6 (B : Nat) (T : ByteArray) (S : St) (i : Nat) (c : Int) (w : World) (h : Sc B T S w) (hc : cls c = 6) :
    Calls Tryz.prog 66 #[.pointer (some ⟨B, 0, none⟩), .int .i64 i, .int .i32 c] w fun r w' => r = .returned (.tuple #[]) ∧ Sc B T (betweenS T.data.toList S i c) w' ∧ Fr B w w' := by
  have H := hide h
  have H1 := hide (h.setFrm i)
  have F1 := hide ((Fr.refl B w).set 2 (.int .i64 i))
  have CC := hide (classOf_any c (w.setCell ⟨B, 2, none⟩ (.int .i64 i)))
  rw [hc] at CC
  have c0 := h.text
  have c1 := h.fnc
  have c2 := h.frmc
  have f1 := h.frz 1
  have f2 := h.frz 2
  have HB : Hid (betweenS T.data.toList S i c = { S with frm := i, err := 41, place := i }) := by unfold Hid betweenS; rw [hc]; rfl
  clear h hc
  go_enter Tryz.func66, Tryz.ntmps66
  go_wp2_with fail
  refine CC.out.mono ?_
  rintro _ w1 ⟨rfl, hw1⟩
  subst w1
  have CF := hide (fail_ok B T { S with frm := i } 41 i _ H1.out)
  go_wp2_with fail
  refine CF.out.mono ?_
  rintro _ w1 ⟨rfl, h1, h2⟩
  have HS := hide h1
  have HF := hide h2
  clear h1 h2
  go_wp2_with fail
  go_end0
  rw [HB.out]
  exact ⟨rfl, HS.out, F1.out.trans HF.out⟩

set_option maxRecDepth 100000 in
set_option maxHeartbeats 1600000 in
theorem between_7 (B : Nat) (T : ByteArray) (S : St) (i : Nat) (c : Int) (w : World) (h : Sc B T S w) (hc : cls c = 7) :
    Calls Tryz.prog 66 #[.pointer (some ⟨B, 0, none⟩), .int .i64 i, .int .i32 c] w fun r w' => r = .returned (.tuple #[]) ∧ Sc B T (betweenS T.data.toList S i c) w' ∧ Fr B w w' := by
  have H := hide h
  have H1 := hide (h.setFrm i)
  have F1 := hide ((Fr.refl B w).set 2 (.int .i64 i))
  have CC := hide (classOf_any c (w.setCell ⟨B, 2, none⟩ (.int .i64 i)))
  rw [hc] at CC
  have c0 := h.text
  have c1 := h.fnc
  have c2 := h.frmc
  have f1 := h.frz 1
  have f2 := h.frz 2
  have HB : Hid (betweenS T.data.toList S i c = { S with frm := i, fn := 116 }) := by unfold Hid betweenS; rw [hc]; rfl
  clear h hc
  go_enter Tryz.func66, Tryz.ntmps66
  go_wp2_with fail
  refine CC.out.mono ?_
  rintro _ w1 ⟨rfl, hw1⟩
  subst w1
  go_wp2_with fail
  go_end0
  rw [HB.out]
  exact ⟨rfl, H1.out.setFn 116, F1.out.set _ _⟩

set_option maxRecDepth 100000 in
set_option maxHeartbeats 1600000 in
theorem between_8 (B : Nat) (T : ByteArray) (S : St) (i : Nat) (c : Int) (w : World) (h : Sc B T S w) (hc : cls c = 8) :
    Calls Tryz.prog 66 #[.pointer (some ⟨B, 0, none⟩), .int .i64 i, .int .i32 c] w fun r w' => r = .returned (.tuple #[]) ∧ Sc B T (betweenS T.data.toList S i c) w' ∧ Fr B w w' := by
  have H := hide h
  have H1 := hide (h.setFrm i)
  have F1 := hide ((Fr.refl B w).set 2 (.int .i64 i))
  have CC := hide (classOf_any c (w.setCell ⟨B, 2, none⟩ (.int .i64 i)))
  rw [hc] at CC
  have c0 := h.text
  have c1 := h.fnc
  have c2 := h.frmc
  have f1 := h.frz 1
  have f2 := h.frz 2
  have HB : Hid (betweenS T.data.toList S i c = { S with frm := i, fn := 117 }) := by unfold Hid betweenS; rw [hc]; rfl
  clear h hc
  go_enter Tryz.func66, Tryz.ntmps66
  go_wp2_with fail
  refine CC.out.mono ?_
  rintro _ w1 ⟨rfl, hw1⟩
  subst w1
  go_wp2_with fail
  go_end0
  rw [HB.out]
  exact ⟨rfl, H1.out.setFn 117, F1.out.set _ _⟩

set_option maxRecDepth 100000 in
set_option maxHeartbeats 1600000 in
theorem between_9 (B : Nat) (T : ByteArray) (S : St) (i : Nat) (c : Int) (w : World) (h : Sc B T S w) (hc : cls c = 9) :
    Calls Tryz.prog 66 #[.pointer (some ⟨B, 0, none⟩), .int .i64 i, .int .i32 c] w fun r w' => r = .returned (.tuple #[]) ∧ Sc B T (betweenS T.data.toList S i c) w' ∧ Fr B w w' := by
  have H := hide h
  have H1 := hide (h.setFrm i)
  have F1 := hide ((Fr.refl B w).set 2 (.int .i64 i))
  have CC := hide (classOf_any c (w.setCell ⟨B, 2, none⟩ (.int .i64 i)))
  rw [hc] at CC
  have c0 := h.text
  have c1 := h.fnc
  have c2 := h.frmc
  have f1 := h.frz 1
  have f2 := h.frz 2
  have HB : Hid (betweenS T.data.toList S i c = { S with frm := i, fn := 118 }) := by unfold Hid betweenS; rw [hc]; rfl
  clear h hc
  go_enter Tryz.func66, Tryz.ntmps66
  go_wp2_with fail
  refine CC.out.mono ?_
  rintro _ w1 ⟨rfl, hw1⟩
  subst w1
  go_wp2_with fail
  go_end0
  rw [HB.out]
  exact ⟨rfl, H1.out.setFn 118, F1.out.set _ _⟩

set_option maxRecDepth 100000 in
set_option maxHeartbeats 1600000 in
theorem between_10 (B : Nat) (T : ByteArray) (S : St) (i : Nat) (c : Int) (w : World) (h : Sc B T S w) (hc : cls c = 10) :
    Calls Tryz.prog 66 #[.pointer (some ⟨B, 0, none⟩), .int .i64 i, .int .i32 c] w fun r w' => r = .returned (.tuple #[]) ∧ Sc B T (betweenS T.data.toList S i c) w' ∧ Fr B w w' := by
  have H := hide h
  have H1 := hide (h.setFrm i)
  have F1 := hide ((Fr.refl B w).set 2 (.int .i64 i))
  have CC := hide (classOf_any c (w.setCell ⟨B, 2, none⟩ (.int .i64 i)))
  rw [hc] at CC
  have c0 := h.text
  have c1 := h.fnc
  have c2 := h.frmc
  have f1 := h.frz 1
  have f2 := h.frz 2
  have HB : Hid (betweenS T.data.toList S i c = { S with frm := i, fn := 118 }) := by unfold Hid betweenS; rw [hc]; rfl
  clear h hc
  go_enter Tryz.func66, Tryz.ntmps66
  go_wp2_with fail
  refine CC.out.mono ?_
  rintro _ w1 ⟨rfl, hw1⟩
  subst w1
  go_wp2_with fail
  go_end0
  rw [HB.out]
  exact ⟨rfl, H1.out.setFn 118, F1.out.set _ _⟩

theorem between_ok (B : Nat) (T : ByteArray) (S : St) (i : Nat) (c : Int) (w : World) (h : Sc B T S w) (hi : i ≤ T.size) :
    Calls Tryz.prog 66 #[.pointer (some ⟨B, 0, none⟩), .int .i64 i, .int .i32 c] w fun r w' => r = .returned (.tuple #[]) ∧ Sc B T (betweenS T.data.toList S i c) w' ∧ Fr B w w' := by
  rcases cls_cases c with e | e | e | e | e | e | e | e | e | e | e
  · exact between_0 B T S i c w h e
  · exact between_1 B T S i c w h e
  · exact between_2 B T S i c w h e
  · exact between_3 B T S i c w h e
  · exact between_4 B T S i c w h e
  · exact between_5 B T S i c w h e hi
  · exact between_6 B T S i c w h e
  · exact between_7 B T S i c w h e
  · exact between_8 B T S i c w h e
  · exact between_9 B T S i c w h e
  · exact between_10 B T S i c w h e
end Go.Proofs.YthnjmfkiohgkkaaGreatDoor
