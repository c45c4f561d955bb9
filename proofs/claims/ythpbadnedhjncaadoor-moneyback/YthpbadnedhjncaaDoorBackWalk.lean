/- MoneyBack, walked. -/
import Derived.Test.YthpbadnedhjncaaDoorWorks
import Derived.Test.YthpbadnedhjncaaDoorBack2
namespace Go.Proofs.YthpbadnedhjncaaDoor
open Go.RowKit

theorem strB_nums (l : List Int) (h : ∀ z ∈ l, 0 ≤ z ∧ z ≤ 255) : strB (strOfNums l) = l := by
  unfold strB
  rw [strOfNums_data, List.map_map]
  conv => rhs; rw [← List.map_id l]
  apply List.map_congr_left
  intro z hz
  have hb := h z hz
  simp only [Function.comp, id]
  rw [UInt8.toNat_ofNat']
  omega

theorem strOfNums_strB (s : ByteArray) : strOfNums (strB s) = s := by
  unfold strOfNums strB
  apply ByteArray.ext
  apply Array.ext'
  simp
  rw [List.map_congr_left (g := id)]
  · simp
  · intro b _
    simp [Function.comp]

theorem text_bytes (m : Int) (h0 : -1000000000000000 ≤ m) (h1 : m ≤ 1000000000000000) : (∀ z ∈ textM m, 0 ≤ z ∧ z ≤ 255) ∧ (textM m).length ≤ 20 := by
  obtain ⟨neg, ds, cs, g1, g2, g3, g4, g5⟩ := text_comp m h0 h1
  have hd : ∀ l : List Int, allDig l = true → ∀ z ∈ l, 0 ≤ z ∧ z ≤ 255 := by
    intro l hl z hz
    unfold allDig at hl
    rw [List.all_eq_true] at hl
    have := of_decide_eq_true (hl z hz)
    omega
  have hcs : cs.length ≤ 2 ∧ allDig cs = true := by
    rcases g1.c with h | ⟨h1, h2, _⟩
    · rw [h]; exact ⟨by decide, rfl⟩
    · exact ⟨by omega, h2⟩
  rw [g2]
  refine ⟨fun z hz => ?_, ?_⟩
  · unfold comp at hz
    rcases List.mem_append.1 hz with h | h
    · cases neg <;> simp at h; omega
    · rcases List.mem_append.1 h with h | h
      · exact hd ds g1.d.2.1 z h
      · split at h
        · simp at h
        · rcases List.mem_cons.1 h with h | h
          · omega
          · exact hd cs hcs.2 z h
  · rw [comp_len]
    split <;> split <;> omega

theorem parse_cases (l : List Int) : (∃ n, parseM l = (n, 0)) ∨ (∃ e, parseM l = (0, e) ∧ e ≠ 0) := by
  unfold parseM
  split
  · exact .inr ⟨21, rfl, by decide⟩
  · split
    · exact .inr ⟨21, rfl, by decide⟩
    · split
      · exact .inr ⟨21, rfl, by decide⟩
      · split
        · exact .inr ⟨22, rfl, by decide⟩
        · split
          · exact .inr ⟨22, rfl, by decide⟩
          · exact .inl ⟨_, rfl⟩

set_option maxRecDepth 100000 in
set_option maxHeartbeats 4000000 in
theorem back_walk (m : Int) (s : ByteArray) (w : World) (hs : s.size ≤ 140737488355328) (ht : Tab w) : Calls Tryd.prog 8 #[.int .i64 m, .string s] w fun e w' => e = .returned (.bool true) ∧ Below w.heap.size w w' := by
  have CW := hide (fun w ht => works_any w ht)
  have C1 := hide (fun w ht => print_any m w ht)
  have HT := hide ht
  clear ht
  -- what is read of s
  have CS := hide (fun w => parse_any s w hs)
  have HC := hide (parse_cases (strB s))
  cases hm : may m with
  | false =>
    have e1 : printM m = ([], 22) := by unfold printM; rw [if_neg (by rw [hm]; simp)]
    rw [e1] at C1
    clear hm e1
    rcases HC.out with ⟨n, hn⟩ | ⟨e, he, hne⟩
    · obtain ⟨t1, t2⟩ := text_parse _ _ hn
      have C3 := hide (fun w ht => print_any n w ht)
      have e2 : printM n = (strB s, 0) := by unfold printM; rw [if_pos t1, t2]
      rw [e2] at C3
      have e3 := strOfNums_strB s
      dsimp only at C1 C3
      rw [e3] at C3
      rw [hn] at CS
      unfold pairV at CS
      dsimp only at CS
      clear t1 t2 e2 e3 hn HC
      go_enter Tryd.func8, Tryd.ntmps8
      go_wp2_with fail
      refine (CW.out _ HT.out).mono ?_
      rintro _ w1 ⟨rfl, hb1⟩
      have HT1 := hide (HT.out.below hb1 (Nat.le_refl _))
      go_wp2_with fail
      refine (C1.out _ HT1.out).mono ?_
      rintro _ w2 ⟨rfl, hb2⟩
      have HB2 : Hid (Below w.heap.size w w2) := hb1.trans (hb2.mono hb1.size)
      go_wp2_with fail
      refine (CS.out _).mono ?_
      rintro _ w3 ⟨rfl, hb3⟩
      have HB3 : Hid (Below w.heap.size w w3) := HB2.out.trans (hb3.mono HB2.out.size)
      have HT3 := hide (HT.out.below HB3.out (Nat.le_refl _))
      clear hb1 hb2 hb3
      go_wp2_with fail
      refine (C3.out _ HT3.out).mono ?_
      rintro _ w4 ⟨rfl, hb4⟩
      go_wp2_with fail
      go_ret
      exact ⟨rfl, HB3.out.trans (hb4.mono HB3.out.size)⟩
    · rw [he] at CS
      unfold pairV at CS
      dsimp only at C1 CS
      have hneb : (e == 0) = false := by simp [hne]
      clear he HC
      go_enter Tryd.func8, Tryd.ntmps8
      go_wp2_with fail
      refine (CW.out _ HT.out).mono ?_
      rintro _ w1 ⟨rfl, hb1⟩
      have HT1 := hide (HT.out.below hb1 (Nat.le_refl _))
      go_wp2_with fail
      refine (C1.out _ HT1.out).mono ?_
      rintro _ w2 ⟨rfl, hb2⟩
      have HB2 : Hid (Below w.heap.size w w2) := hb1.trans (hb2.mono hb1.size)
      go_wp2_with fail
      refine (CS.out _).mono ?_
      rintro _ w3 ⟨rfl, hb3⟩
      have HB3 : Hid (Below w.heap.size w w3) := HB2.out.trans (hb3.mono HB2.out.size)
      clear hb1 hb2 hb3
      go_wp2_with fail
      go_ret
      exact ⟨rfl, HB3.out⟩
  | true =>
    have hb := may_yes hm
    have e1 : printM m = (textM m, 0) := by unfold printM; rw [if_pos hm]
    have tb := text_bytes m hb.1 hb.2
    have hsz : (strOfNums (textM m)).size ≤ 140737488355328 := by rw [strOfNums_size]; omega
    have CP := hide (fun w => parse_any (strOfNums (textM m)) w hsz)
    rw [strB_nums _ tb.1, parse_text m hm] at CP
    rw [e1] at C1
    unfold pairV at CP
    dsimp only at C1 CP
    generalize strOfNums (textM m) = st at *
    clear hm e1 tb hsz
    rcases HC.out with ⟨n, hn⟩ | ⟨e, he, hne⟩
    · obtain ⟨t1, t2⟩ := text_parse _ _ hn
      have C3 := hide (fun w ht => print_any n w ht)
      have e2 : printM n = (strB s, 0) := by unfold printM; rw [if_pos t1, t2]
      rw [e2] at C3
      have e3 := strOfNums_strB s
      dsimp only at C3
      rw [e3] at C3
      rw [hn] at CS
      unfold pairV at CS
      dsimp only at CS
      clear t1 t2 e2 e3 hn HC
      go_enter Tryd.func8, Tryd.ntmps8
      go_wp2_with fail
      refine (CW.out _ HT.out).mono ?_
      rintro _ w1 ⟨rfl, hb1⟩
      have HT1 := hide (HT.out.below hb1 (Nat.le_refl _))
      go_wp2_with fail
      refine (C1.out _ HT1.out).mono ?_
      rintro _ w2 ⟨rfl, hb2⟩
      have HB2 : Hid (Below w.heap.size w w2) := hb1.trans (hb2.mono hb1.size)
      go_wp2_with fail
      refine (CP.out _).mono ?_
      rintro _ w3 ⟨rfl, hb3⟩
      have HB3 : Hid (Below w.heap.size w w3) := HB2.out.trans (hb3.mono HB2.out.size)
      clear hb1 hb2 hb3
      go_wp2_with fail
      refine (CS.out _).mono ?_
      rintro _ w4 ⟨rfl, hb4⟩
      have HB4 : Hid (Below w.heap.size w w4) := HB3.out.trans (hb4.mono HB3.out.size)
      have HT4 := hide (HT.out.below HB4.out (Nat.le_refl _))
      clear hb4
      go_wp2_with fail
      refine (C3.out _ HT4.out).mono ?_
      rintro _ w5 ⟨rfl, hb5⟩
      go_wp2_with fail
      go_ret
      exact ⟨rfl, HB4.out.trans (hb5.mono HB4.out.size)⟩
    · rw [he] at CS
      unfold pairV at CS
      dsimp only at CS
      have hneb : (e == 0) = false := by simp [hne]
      clear he HC
      go_enter Tryd.func8, Tryd.ntmps8
      go_wp2_with fail
      refine (CW.out _ HT.out).mono ?_
      rintro _ w1 ⟨rfl, hb1⟩
      have HT1 := hide (HT.out.below hb1 (Nat.le_refl _))
      go_wp2_with fail
      refine (C1.out _ HT1.out).mono ?_
      rintro _ w2 ⟨rfl, hb2⟩
      have HB2 : Hid (Below w.heap.size w w2) := hb1.trans (hb2.mono hb1.size)
      go_wp2_with fail
      refine (CP.out _).mono ?_
      rintro _ w3 ⟨rfl, hb3⟩
      have HB3 : Hid (Below w.heap.size w w3) := HB2.out.trans (hb3.mono HB2.out.size)
      clear hb1 hb2 hb3
      go_wp2_with fail
      refine (CS.out _).mono ?_
      rintro _ w4 ⟨rfl, hb4⟩
      have HB4 : Hid (Below w.heap.size w w4) := HB3.out.trans (hb4.mono HB3.out.size)
      clear hb4
      go_wp2_with fail
      go_ret
      exact ⟨rfl, HB4.out⟩

end Go.Proofs.YthpbadnedhjncaaDoor
