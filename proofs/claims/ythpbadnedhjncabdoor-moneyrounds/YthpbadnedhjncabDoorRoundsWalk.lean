/- MoneyRounds, walked. -/
import Derived.Test.YthpbadnedhjncabDoorRoundsEq
import Derived.Test.YthpbadnedhjncabDoorRoundsNe
namespace Go.Proofs.YthpbadnedhjncabDoor
open Go.RowKit

theorem scale_cases (m n d r : Int) : (∃ a, scaleM m n d r = (a, 0)) ∨ ∃ e, scaleM m n d r = (0, e) ∧ e ≠ 0 := by
  unfold scaleM
  split
  · exact .inr ⟨22, rfl, by decide⟩
  · split
    · exact .inr ⟨4, rfl, by decide⟩
    · split
      · exact .inr ⟨1, rfl, by decide⟩
      · unfold tailM
        dsimp only
        generalize (if upM _ _ _ _ _ = true then _ else _ : Int) = k
        by_cases h : 1000000000000000 < k
        · rw [if_pos h]; exact .inr ⟨22, rfl, by decide⟩
        · rw [if_neg h]; exact .inl ⟨_, rfl⟩

set_option maxRecDepth 100000 in
set_option maxHeartbeats 4000000 in
theorem rounds_walk (m n d : Int) (w : World) (ht : Tab w) : Calls Tryd.prog 5 #[.int .i64 m, .int .i64 n, .int .i64 d] w fun e w' => e = .returned (.bool true) ∧ Below w.heap.size w w' := by
  have CW := hide (fun w ht => works_any w ht)
  have C3 := hide (fun w => scale_any m n d 3 w (by decide) (by decide))
  have C4 := hide (fun w => scale_any m n d 4 w (by decide) (by decide))
  rcases scale_cases m n d 3 with ⟨a, h3⟩ | ⟨e, h3, he⟩
  · rcases scale_cases m n d 4 with ⟨b, h4⟩ | ⟨f, h4, hf⟩
    · by_cases hab : a = b
      · subst hab
        by_cases hd : d = 1
        · subst hd
          exact rounds_eq1 m n a w ht h3 h4
        · exact rounds_eq2 m n d a w ht h3 h4 hd
      · by_cases hd : d = 1
        · exact absurd ((rounds_all m n d a b h3 h4).1.2.2.1 hd) hab
        · exact rounds_ne m n d a b w ht h3 h4 hab hd
    · rw [h3] at C3
      rw [h4] at C4
      unfold pairV at C3 C4
      dsimp only at C3 C4
      have HT := hide ht
      clear ht h3 h4
      have hfb : (f == 0) = false := by simp [hf]
      go_enter Tryd.func5, Tryd.ntmps5
      go_wp2_with fail
      refine (CW.out _ HT.out).mono ?_
      rintro _ w1 ⟨rfl, hb1⟩
      go_wp2_with fail
      refine (C3.out _).mono ?_
      rintro _ w2 ⟨rfl, hb2⟩
      have HB2 : Hid (Below w.heap.size w w2) := hb1.trans (hb2.mono hb1.size)
      go_wp2_with fail
      refine (C4.out _).mono ?_
      rintro _ w3 ⟨rfl, hb3⟩
      have HB3 : Hid (Below w.heap.size w w3) := HB2.out.trans (hb3.mono HB2.out.size)
      clear hb1 hb2 hb3
      by_cases ha : a = 0
      · subst ha
        go_wp2_with fail
        go_ret
        exact ⟨rfl, HB3.out⟩
      · go_wp2_with fail
        go_ret
        exact ⟨rfl, HB3.out⟩
  · rw [h3] at C3
    unfold pairV at C3 C4
    dsimp only at C3
    generalize (scaleM m n d 4).1 = b at *
    generalize (scaleM m n d 4).2 = f at *
    have HT := hide ht
    clear ht h3
    have heb : (e == 0) = false := by simp [he]
    go_enter Tryd.func5, Tryd.ntmps5
    go_wp2_with fail
    refine (CW.out _ HT.out).mono ?_
    rintro _ w1 ⟨rfl, hb1⟩
    go_wp2_with fail
    refine (C3.out _).mono ?_
    rintro _ w2 ⟨rfl, hb2⟩
    have HB2 : Hid (Below w.heap.size w w2) := hb1.trans (hb2.mono hb1.size)
    go_wp2_with fail
    refine (C4.out _).mono ?_
    rintro _ w3 ⟨rfl, hb3⟩
    have HB3 : Hid (Below w.heap.size w w3) := HB2.out.trans (hb3.mono HB2.out.size)
    clear hb1 hb2 hb3
    go_wp2_with fail
    go_ret
    exact ⟨rfl, HB3.out⟩

end Go.Proofs.YthpbadnedhjncabDoor
