/- The page's table: Add. -/
import Derived.Test.YtijpdoclmplclaaRefT
import Derived.Deep.QuietTactic
namespace Go.Proofs.Ytijpdoclmplclaa
open Go.RowKit Go.Shelf Go.Maps

section
variable {Z : Nat → Prop} {B : Nat} {av : Value} {most : Int} {l : List Bytes} {w : World}

set_option maxRecDepth 100000 in
set_option maxHeartbeats 3200000 in
theorem radd_any (h : RTab Z B av most l w) (s : ByteArray) (hz : ∀ g, w.heap.size ≤ g → Z g) :
    Calls Try.prog 35 #[ptr B, .string s] w fun e w' => e = .returned (.tuple #[.int .i64 (addM most l s.data.toList).1, .int .i64 (addM most l s.data.toList).2.1]) ∧
      (∃ av', RTab Z B av' most (addM most l s.data.toList).2.2 w') ∧ Fr Z w w' := by
  have H := hide h
  have CN : Hid (∀ w, Calls Try.prog 10 #[.string s] w fun e w' => e = .returned (.bool (isNameB s.data.toList)) ∧ w' = w) := fun w => risName_any s w
  have CF := hide (rfind_any h s)
  have hl : l.length ≤ 4096 := by have := h.len; have := h.most2; omega
  cases hb : isNameB s.data.toList with
  | false =>
    have e : Hid (addM most l s.data.toList = (0, 71, l)) := by unfold Hid addM; rw [if_pos hb]
    rw [e.out]
    rw [hb] at CN
    clear h hb e hz CF
    go_enter Try.func35, Try.ntmps35
    go_wp2_with (first | (go_at_call 10; refine (CN.out _).mono ?_; rintro _ w1 ⟨rfl, hw1⟩; subst w1))
    go_ret2
    exact ⟨rfl, ⟨_, H.out⟩, .refl _ _⟩
  | true =>
    rw [hb] at CN
    have c0 := cell_of_row w B 0 _ _ _ h.box
    have c1 := cell_of_row w B 1 _ _ _ h.box
    simp at c0 c1
    have HROW := hide h.row
    obtain ⟨ta, tc, rfl⟩ := owns_slice h.row
    by_cases hm : s.data.toList ∈ l
    · have e : Hid (addM most l s.data.toList = ((posB l s.data.toList : Int), 0, l)) := by unfold Hid addM; rw [if_neg (by rw [hb]; simp), if_pos hm]
      rw [e.out]
      rw [decide_eq_true hm] at CF
      clear h hb e hz hm
      go_enter Try.func35, Try.ntmps35
      go_wp2_with (first | (go_at_call 10; refine (CN.out _).mono ?_; rintro _ w1 ⟨rfl, hw1⟩; subst w1) | (go_at_call 36; refine CF.out.mono ?_; rintro _ w1 ⟨rfl, hw1⟩; subst w1))
      go_ret2
      exact ⟨rfl, ⟨_, H.out⟩, .refl _ _⟩
    · rw [decide_eq_false hm] at CF
      by_cases hf : (l.length : Int) = most
      · have e : Hid (addM most l s.data.toList = (0, 72, l)) := by unfold Hid addM; rw [if_neg (by rw [hb]; simp), if_neg hm, if_pos hf]
        rw [e.out]
        have hq : decide (most ≤ (l.length : Int)) = true := decide_eq_true (by omega)
        clear h hb e hz hm hf
        go_enter Try.func35, Try.ntmps35
        go_wp2_with (first | (go_at_call 10; refine (CN.out _).mono ?_; rintro _ w1 ⟨rfl, hw1⟩; subst w1) | (go_at_call 36; refine CF.out.mono ?_; rintro _ w1 ⟨rfl, hw1⟩; subst w1))
        go_quiet (fail)
        go_wp2_with fail
        go_ret2
        exact ⟨rfl, ⟨_, H.out.below (below_drewN _ _)⟩, .of_below (below_drewN _ _)⟩
      · have e : Hid (addM most l s.data.toList = ((l.length : Int), 0, l ++ [s.data.toList])) := by unfold Hid addM; rw [if_neg (by rw [hb]; simp), if_neg hm, if_neg hf]
        rw [e.out]
        have hlt : (l.length : Int) < most := by have := h.len; omega
        have hq : decide (most ≤ (l.length : Int)) = false := decide_eq_false (by omega)
        have HM := hide hlt
        have HZ := hide hz
        obtain ⟨iM, hiM, zM0, zM1, zM2⟩ := info_parts' infoS
        clear h hb e hz hm hf hlt
        go_enter Try.func35, Try.ntmps35
        go_wp2_with (first | (go_at_call 10; refine (CN.out _).mono ?_; rintro _ w1 ⟨rfl, hw1⟩; subst w1) | (go_at_call 36; refine CF.out.mono ?_; rintro _ w1 ⟨rfl, hw1⟩; subst w1))
        go_quiet (fail)
        rename_i nq
        have HRD : Hid ((w.drewN nq).ownsRow 0 9 1 (.slice ta l.length tc) l.length (strs l)) := HROW.out
        go_wp2_with (at_builtin; go_must (refine wpList_append_two _ rfl _ _ 39 rfl 0 9 iM _ 1 16 Try.underlying39 hiM zM0 zM1 zM2 rfl (by decide) _ _ _ rfl (HRD.out.alloc _) ⟨(w.drewN nq).heap.size, 0, none⟩ 1 [.string s] rfl rfl (news_at rfl) (by simp [Value.oneCell']) (by unfold maxLen; omega) (by omega) (Nat.zero_le _) ?_))
        intro g cap w2 hown hg
        have HD : Hid (RTab Z B (.slice ta l.length tc) most l (w.drewN nq)) := hide (H.out.below (below_drewN w nq))
        have HF0 : Hid (Fr Z w (w.drewN nq)) := hide (.of_below (below_drewN w nq))
        have HZ0 : Hid (∀ g, (w.drewN nq).heap.size ≤ g → Z g) := HZ.out
        have hg2 : ((Value.slice ta l.length tc).ownBlock = some g ∧ ((w.drewN nq).alloc (.cells #[.string s] 9)).grownBy w2 (some g)) ∨ (g = (w.drewN nq).heap.size + 1 ∧ ((w.drewN nq).alloc (.cells #[.string s] 9)).grownBy w2 none) := hg
        clear hg HRD
        generalize w.drewN nq = w0 at hg2 HD HF0 HZ0
        have hg := hg2
        clear hg2
        have hB := loc_lt HD.out.box
        have hBn : (Value.slice ta l.length tc).ownBlock ≠ some B := by
          intro e
          rcases HD.out.row.2 with ⟨h1, _⟩ | ⟨g', _, cur, h1, _, h3, _⟩
          · rw [h1] at e; cases e
          · rw [h1] at e; cases e; rw [HD.out.box] at h3; cases h3
        have box2 := (grown_old rfl hg hB hBn).trans HD.out.box
        have HF2 := hide (HF0.out.trans (grown_fr (Z := Z) rfl hg HD.out.za))
        have HGB : Hid (g ≠ B) := by
          intro e
          rcases hg with ⟨h1, _⟩ | ⟨h1, _⟩
          · exact hBn (by rw [h1, e])
          · omega
        have HGZ : Hid (Z g) := by
          rcases hg with ⟨h1, _⟩ | ⟨h1, _⟩
          · exact HD.out.za g h1
          · exact HZ0.out g (by omega)
        have HOWN := hide hown
        have b1 := cell_of_row w2 B 1 _ _ _ box2
        have f1 := frozen_of_row w2 B 1 _ _ box2
        simp at b1
        have box3 := loc_set (i := 1) (v := .slice (some ⟨g, 0, none⟩) (l.length + 1) cap) box2
        have b3 := cell_of_row _ B 1 _ _ _ box3
        simp at b3
        have BX3 := hide box3
        clear hown hg box2 box3 hBn c0 c1 CF CN
        go_wp2_with fail
        go_ret2
        refine ⟨?_, ⟨.slice (some ⟨g, 0, none⟩) (l.length + 1) cap, ?_⟩, HF2.out.trans (.setCell _ _ HD.out.zB)⟩
        · have e : (l.length : Int) + 1 - 1 = l.length := by omega
          first | rfl | (simp [e]; done) | (rw [e]; rfl)
        · refine ⟨BX3.out, ?_, HD.out.zB, fun k hk => by cases hk; exact HGZ.out, by have := HM.out; simp; omega, HD.out.most2⟩
          rw [show strs (l ++ [s.data.toList]) = strs l ++ [.string s] from by unfold strs; rw [List.map_append, List.map_cons, List.map_nil, str_ba], show (l ++ [s.data.toList]).length = l.length + 1 from by simp]
          exact owns_keep HOWN.out fun k hk => by cases hk; exact heap_setCell_other _ _ _ _ HGB.out
end
end Go.Proofs.Ytijpdoclmplclaa
