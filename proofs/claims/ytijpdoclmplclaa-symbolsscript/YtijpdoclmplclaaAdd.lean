/- Add of a table. -/
import Derived.Test.YtijpdoclmplclaaPut
import Derived.Deep.QuietTactic
namespace Go.Proofs.Ytijpdoclmplclaa
open Go.RowKit Go.Shelf Go.Maps Go.WideMaps

/-- What Add answers: the number, the error, the names then. -/
def addM (most : Int) (l : List Bytes) (s : Bytes) : Int × Int × List Bytes :=
  if isNameB s = false then (0, 71, l) else if s ∈ l then (posB l s, 0, l) else if (l.length : Int) = most then (0, 72, l) else (l.length, 0, l ++ [s])

theorem below_drewN (w : World) (q : Nat) : Below w.heap.size w (w.drewN q) := ⟨rfl, rfl, rfl, Nat.le_refl _, fun _ _ => rfl⟩

section
variable {Z : Nat → Prop} {B M : Nat} {nv : Value} {d : Int} {sv : Value} {most : Int} {l : List Bytes} {w : World}

set_option maxRecDepth 100000 in
set_option maxHeartbeats 3200000 in
theorem add_any (h : Tab Z B M nv d sv most l w) (s : ByteArray) (hz : ∀ g, w.heap.size ≤ g → Z g) :
    Calls Try.prog 22 #[ptr B, .string s] w fun e w' => e = .returned (.tuple #[.int .i64 (addM most l s.data.toList).1, .int .i64 (addM most l s.data.toList).2.1]) ∧
      (∃ nv' d' sv', Tab Z B M nv' d' sv' most (addM most l s.data.toList).2.2 w') ∧ Fr Z w w' := by
  have H := hide h
  have C := hide (made_any h)
  have CN := hide (isName_any s w)
  cases hb : isNameB s.data.toList with
  | false =>
    have e : Hid (addM most l s.data.toList = (0, 71, l)) := by unfold Hid addM; rw [if_pos hb]
    rw [e.out]
    rw [hb] at CN
    clear h hb e hz
    go_enter Try.func22, Try.ntmps22
    go_wp2_with (first | (go_at_call 38; refine C.out.mono ?_; rintro _ w1 ⟨rfl, hw1⟩; subst w1) | (go_at_call 9; refine CN.out.mono ?_; rintro _ w1 ⟨rfl, hw1⟩; subst w1))
    go_ret2
    exact ⟨rfl, ⟨_, _, _, H.out⟩, .refl _ _⟩
  | true =>
    have hsz : s.size ≤ 32 := by have := (name_short hb).2; simpa using this
    have HK := hide (keyOf_string_mk (P := Try.prog) Try.underlying9 (s := s) (by unfold maxLen; omega))
    rw [hb] at CN
    obtain ⟨c0, c1, c2, -, -, -, -, -⟩ := h.cells
    obtain ⟨D, hown, hN⟩ := h.map
    have HN := hide (hN s.data.toList)
    have HOWN := hide hown
    have hl := h.len2
    obtain ⟨ta, tc, rfl⟩ := h.form
    by_cases hm : s.data.toList ∈ l
    · have e : Hid (addM most l s.data.toList = ((posB l s.data.toList : Int), 0, l)) := by unfold Hid addM; rw [if_neg (by rw [hb]; simp), if_pos hm]
      have hh : Hid (Maps.has D (.string s.data.toList) = true) := by rw [HN.out.1]; exact hide (decide_eq_true hm)
      rw [e.out]
      clear h hb e hz hN hown hm
      go_enter Try.func22, Try.ntmps22
      go_wp2_with (first | (go_at_call 38; refine C.out.mono ?_; rintro _ w1 ⟨rfl, hw1⟩; subst w1) | (go_at_call 9; refine CN.out.mono ?_; rintro _ w1 ⟨rfl, hw1⟩; subst w1) | (at_lookup; go_must (refine wpList_lookup_own_ok_int _ rfl _ _ 56 rfl 9 3 .i64 law Try.underlying56 Try.underlying3 (Try.zeroValue3 _) M l.length _ rfl HOWN.out _ _ rfl HK.out ?_; intro c hat hwc; rw [hh.out])))
      have hc : Hid (c = posB l s.data.toList) := by
        have := hat.symm.trans HN.out.2
        injection this with e
        injection e
      clear hat hwc
      go_wp2_with fail
      go_ret2
      rw [hc.out]
      exact ⟨rfl, ⟨_, _, _, H.out⟩, .refl _ _⟩
    · have hh : Hid (Maps.has D (.string s.data.toList) = false) := by rw [HN.out.1]; exact hide (decide_eq_false hm)
      by_cases hf : (l.length : Int) = most
      · have e : Hid (addM most l s.data.toList = (0, 72, l)) := by unfold Hid addM; rw [if_neg (by rw [hb]; simp), if_neg hm, if_pos hf]
        rw [e.out]
        have hq : ((l.length : Int) == most) = true := by simpa using hf
        clear h hb e hz hN hown hm hf
        go_enter Try.func22, Try.ntmps22
        go_wp2_with (first | (go_at_call 38; refine C.out.mono ?_; rintro _ w1 ⟨rfl, hw1⟩; subst w1) | (go_at_call 9; refine CN.out.mono ?_; rintro _ w1 ⟨rfl, hw1⟩; subst w1) | (at_lookup; go_must (refine wpList_lookup_own_ok_int _ rfl _ _ 56 rfl 9 3 .i64 law Try.underlying56 Try.underlying3 (Try.zeroValue3 _) M l.length _ rfl HOWN.out _ _ rfl HK.out ?_; intro c hat hwc; rw [hh.out])))
        clear hat hwc
        go_wp2_with fail
        go_quiet (fail)
        go_wp2_with fail
        go_ret2
        exact ⟨rfl, ⟨_, _, _, H.out.below (below_drewN _ _)⟩, .of_below (below_drewN _ _)⟩
      · have e : Hid (addM most l s.data.toList = ((l.length : Int), 0, l ++ [s.data.toList])) := by unfold Hid addM; rw [if_neg (by rw [hb]; simp), if_neg hm, if_neg hf]
        rw [e.out]
        have hq : ((l.length : Int) == most) = false := by simpa using hf
        have CC := hide (fun w => clone_any s w (by omega))
        have HZ := hide hz
        have CP : Hid (∀ w1, Below w.heap.size w w1 → Calls Try.prog 44 #[ptr B, .string s] w1 fun e w' => e = .returned (.int .i64 l.length) ∧ (∃ nv', Tab Z B M nv' 0 (.slice none 0 0) most (l ++ [s.data.toList]) w') ∧ Fr Z w1 w') :=
          hide fun w1 hb1 => put_any (H.out.below hb1) s hb hm (by have := H.out.len; omega) fun g hg => HZ.out g (Nat.le_trans hb1.size hg)
        clear h hb e hz hN hown hm hf
        go_enter Try.func22, Try.ntmps22
        go_wp2_with (first | (go_at_call 38; refine C.out.mono ?_; rintro _ w1 ⟨rfl, hw1⟩; subst w1) | (go_at_call 9; refine CN.out.mono ?_; rintro _ w1 ⟨rfl, hw1⟩; subst w1) | (at_lookup; go_must (refine wpList_lookup_own_ok_int _ rfl _ _ 56 rfl 9 3 .i64 law Try.underlying56 Try.underlying3 (Try.zeroValue3 _) M l.length _ rfl HOWN.out _ _ rfl HK.out ?_; intro c hat hwc; rw [hh.out])))
        clear hat hwc
        go_wp2_with fail
        go_quiet (fail)
        go_wp2_with fail
        refine (CC.out _).mono ?_
        rintro _ w1 ⟨rfl, hw1⟩
        have HB1 := hide ((below_drewN w _).trans hw1)
        clear hw1
        go_wp2_with fail
        refine (CP.out _ HB1.out).mono ?_
        rintro _ w2 ⟨rfl, ht, hf⟩
        have HT := hide ht
        have HF := hide hf
        clear ht hf
        go_wp2_with fail
        go_ret2
        obtain ⟨nv', ht⟩ := HT.out
        exact ⟨rfl, ⟨_, _, _, ht⟩, (Fr.of_below HB1.out).trans HF.out⟩
end
end Go.Proofs.Ytijpdoclmplclaa
