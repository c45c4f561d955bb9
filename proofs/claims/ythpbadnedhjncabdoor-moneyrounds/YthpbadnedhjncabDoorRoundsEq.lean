/- MoneyRounds, walked where both ends are one. -/
import Derived.Test.YthpbadnedhjncabDoorRoundsNear
namespace Go.Proofs.YthpbadnedhjncabDoor
open Go.RowKit

set_option maxRecDepth 100000 in
set_option maxHeartbeats 8000000 in
theorem rounds_eq1 (m n a : Int) (w : World) (ht : Tab w) (h3 : scaleM m n 1 3 = (a, 0)) (h4 : scaleM m n 1 4 = (a, 0)) : Calls Tryd.prog 5 #[.int .i64 m, .int .i64 n, .int .i64 1] w fun e w' => e = .returned (.bool true) ∧ Below w.heap.size w w' := by
  have CW := hide (fun w ht => works_any w ht)
  have HT := hide ht
  clear ht
  have C3 := hide (fun w => scale_any m n 1 3 w (by decide) (by decide))
  have C4 := hide (fun w => scale_any m n 1 4 w (by decide) (by decide))
  rw [h3] at C3
  rw [h4] at C4
  unfold pairV at C3 C4
  obtain ⟨⟨g1, g2, g3, g4, g5⟩, HR'⟩ := rounds_all m n 1 a a h3 h4
  have HR := hide HR'
  clear HR'
  obtain ⟨hm, hd0, hd1, hn0, hn1, -, -⟩ := scale_ok h3
  have hm' := may_yes hm
  clear h3 h4 hm
  dsimp only at C3 C4
  clear g3
  go_enter Tryd.func5, Tryd.ntmps5
  go_wp2_with fail
  refine (CW.out _ HT.out).mono ?_
  rintro _ w1 ⟨rfl, hb1⟩
  go_wp2_with fail
  refine (C3.out _).mono ?_
  rintro _ w2 ⟨rfl, hb2⟩
  have HB2 : Hid (Below w.heap.size w w2) := hb1.trans (hb2.mono hb1.size)
  go_wp2_with fail
  refine (C4.out _).mono ?_
  rintro _ w3 ⟨rfl, hb3⟩
  have HB3 : Hid (Below w.heap.size w w3) := HB2.out.trans (hb3.mono HB2.out.size)
  clear hb1 hb2 hb3
  go_wp2
  go_loopw [12, 13, 14, 15, 11] (fun _ _ _ _ i wr => ∃ k : Int, 1 ≤ k ∧ k ≤ 7 ∧ i = .int .i64 k ∧ Below w.heap.size w wr) (fun _ _ _ _ i _ => (7 - intOf i).toNat)
  case atStart => exact ⟨1, by decide, by decide, rfl, HB3.out⟩
  case round =>
    obtain ⟨k, hk0, hk1, rfl, hbel⟩ := hrel
    obtain rfl | rfl | rfl | rfl | rfl | rfl | rfl : k = 1 ∨ k = 2 ∨ k = 3 ∨ k = 4 ∨ k = 5 ∨ k = 6 ∨ k = 7 := by omega
    · obtain ⟨x, y, R⟩ := HR.out 1 (by decide) (by decide)
      have CX := hide (fun w => scale_any m n 1 1 w (by decide) (by decide))
      have CY := hide (fun w => scale_any (-m) n 1 1 w (by decide) (by decide))
      rw [R.sx] at CX
      rw [R.sy] at CY
      unfold pairV at CX CY
      dsimp only at CX CY
      have hx := R.ab
      have hy := R.op (by decide) (by decide)
      have CN := hide (fun w => nearer_any a a w)
      rw [← R.dn rfl] at CN
      clear R
      subst hy
      have hx : x = a := by rcases hx with h | h <;> exact h
      subst hx
      go_wp2_with fail
      refine (CX.out _).mono ?_
      rintro _ w4 ⟨rfl, hb4⟩
      have HB4 : Hid (Below w.heap.size w w4) := hbel.trans (hb4.mono hbel.size)
      clear hb4
      go_wp2_with fail
      refine (CY.out _).mono ?_
      rintro _ w5 ⟨rfl, hb5⟩
      have HB5 : Hid (Below w.heap.size w w5) := HB4.out.trans (hb5.mono HB4.out.size)
      clear hb5
      go_wp2_with (go_at_call 12; refine (CN.out _).mono ?_; rintro _ w6 ⟨rfl, hww⟩; subst hww)
      exact ⟨⟨2, by decide, by decide, rfl, HB5.out⟩, by simp [intOf]⟩
    · obtain ⟨x, y, R⟩ := HR.out 2 (by decide) (by decide)
      have CX := hide (fun w => scale_any m n 1 2 w (by decide) (by decide))
      have CY := hide (fun w => scale_any (-m) n 1 2 w (by decide) (by decide))
      rw [R.sx] at CX
      rw [R.sy] at CY
      unfold pairV at CX CY
      dsimp only at CX CY
      have hx := R.ab
      have hy := R.op (by decide) (by decide)
      have CN := hide (fun w => nearer_any a a w)
      have hn := R.up rfl
      have hnn : (if 0 ≤ a then a else a) = a := by split <;> rfl
      generalize (if 0 ≤ a then a else a) = c at *
      clear R
      subst hy
      have hx : x = a := by rcases hx with h | h <;> exact h
      subst hx
      subst hnn
      clear hn
      go_wp2_with fail
      refine (CX.out _).mono ?_
      rintro _ w4 ⟨rfl, hb4⟩
      have HB4 : Hid (Below w.heap.size w w4) := hbel.trans (hb4.mono hbel.size)
      clear hb4
      go_wp2_with fail
      refine (CY.out _).mono ?_
      rintro _ w5 ⟨rfl, hb5⟩
      have HB5 : Hid (Below w.heap.size w w5) := HB4.out.trans (hb5.mono HB4.out.size)
      clear hb5
      go_wp2_with (go_at_call 12; refine (CN.out _).mono ?_; rintro _ w6 ⟨rfl, hww⟩; subst hww)
      exact ⟨⟨3, by decide, by decide, rfl, HB5.out⟩, by simp [intOf]⟩
    · obtain ⟨x, y, R⟩ := HR.out 3 (by decide) (by decide)
      have CX := hide (fun w => scale_any m n 1 3 w (by decide) (by decide))
      have CY := hide (fun w => scale_any (-m) n 1 3 w (by decide) (by decide))
      rw [R.sx] at CX
      rw [R.sy] at CY
      unfold pairV at CX CY
      dsimp only at CX CY
      have hx := R.ab
      have hy := R.fl rfl
      clear R
      subst hy
      have hx : x = a := by rcases hx with h | h <;> exact h
      subst hx
      go_wp2_with fail
      refine (CX.out _).mono ?_
      rintro _ w4 ⟨rfl, hb4⟩
      have HB4 : Hid (Below w.heap.size w w4) := hbel.trans (hb4.mono hbel.size)
      clear hb4
      go_wp2_with fail
      refine (CY.out _).mono ?_
      rintro _ w5 ⟨rfl, hb5⟩
      have HB5 : Hid (Below w.heap.size w w5) := HB4.out.trans (hb5.mono HB4.out.size)
      clear hb5
      go_wp2_with fail
      exact ⟨⟨4, by decide, by decide, rfl, HB5.out⟩, by simp [intOf]⟩
    · obtain ⟨x, y, R⟩ := HR.out 4 (by decide) (by decide)
      have CX := hide (fun w => scale_any m n 1 4 w (by decide) (by decide))
      have CY := hide (fun w => scale_any (-m) n 1 4 w (by decide) (by decide))
      rw [R.sx] at CX
      rw [R.sy] at CY
      unfold pairV at CX CY
      dsimp only at CX CY
      have hx := R.ab
      have hy := R.ce rfl
      clear R
      subst hy
      have hx : x = a := by rcases hx with h | h <;> exact h
      subst hx
      go_wp2_with fail
      refine (CX.out _).mono ?_
      rintro _ w4 ⟨rfl, hb4⟩
      have HB4 : Hid (Below w.heap.size w w4) := hbel.trans (hb4.mono hbel.size)
      clear hb4
      go_wp2_with fail
      refine (CY.out _).mono ?_
      rintro _ w5 ⟨rfl, hb5⟩
      have HB5 : Hid (Below w.heap.size w w5) := HB4.out.trans (hb5.mono HB4.out.size)
      clear hb5
      go_wp2_with fail
      exact ⟨⟨5, by decide, by decide, rfl, HB5.out⟩, by simp [intOf]⟩
    · obtain ⟨x, y, R⟩ := HR.out 5 (by decide) (by decide)
      have CX := hide (fun w => scale_any m n 1 5 w (by decide) (by decide))
      have CY := hide (fun w => scale_any (-m) n 1 5 w (by decide) (by decide))
      rw [R.sx] at CX
      rw [R.sy] at CY
      unfold pairV at CX CY
      dsimp only at CX CY
      have hx := R.ab
      have hy := R.op (by decide) (by decide)
      have CN := hide (fun w => near_any x m n 1 w hd0 hd1 (R.nr (by decide)))
      clear R
      subst hy
      have hx : x = a := by rcases hx with h | h <;> exact h
      subst hx
      go_wp2_with fail
      refine (CX.out _).mono ?_
      rintro _ w4 ⟨rfl, hb4⟩
      have HB4 : Hid (Below w.heap.size w w4) := hbel.trans (hb4.mono hbel.size)
      clear hb4
      go_wp2_with fail
      refine (CY.out _).mono ?_
      rintro _ w5 ⟨rfl, hb5⟩
      have HB5 : Hid (Below w.heap.size w w5) := HB4.out.trans (hb5.mono HB4.out.size)
      clear hb5
      go_wp2_with (go_at_call 13; refine (CN.out _).mono ?_; rintro _ w6 ⟨rfl, hww⟩; subst hww)
      exact ⟨⟨6, by decide, by decide, rfl, HB5.out⟩, by simp [intOf]⟩
    · obtain ⟨x, y, R⟩ := HR.out 6 (by decide) (by decide)
      have CX := hide (fun w => scale_any m n 1 6 w (by decide) (by decide))
      have CY := hide (fun w => scale_any (-m) n 1 6 w (by decide) (by decide))
      rw [R.sx] at CX
      rw [R.sy] at CY
      unfold pairV at CX CY
      dsimp only at CX CY
      have hx := R.ab
      have hy := R.op (by decide) (by decide)
      have CN := hide (fun w => near_any x m n 1 w hd0 hd1 (R.nr (by decide)))
      clear R
      subst hy
      have hx : x = a := by rcases hx with h | h <;> exact h
      subst hx
      go_wp2_with fail
      refine (CX.out _).mono ?_
      rintro _ w4 ⟨rfl, hb4⟩
      have HB4 : Hid (Below w.heap.size w w4) := hbel.trans (hb4.mono hbel.size)
      clear hb4
      go_wp2_with fail
      refine (CY.out _).mono ?_
      rintro _ w5 ⟨rfl, hb5⟩
      have HB5 : Hid (Below w.heap.size w w5) := HB4.out.trans (hb5.mono HB4.out.size)
      clear hb5
      go_wp2_with (go_at_call 13; refine (CN.out _).mono ?_; rintro _ w6 ⟨rfl, hww⟩; subst hww)
      exact ⟨⟨7, by decide, by decide, rfl, HB5.out⟩, by simp [intOf]⟩
    · go_wp2_with fail
      go_ret
      exact ⟨rfl, hbel⟩

set_option maxRecDepth 100000 in
set_option maxHeartbeats 8000000 in
theorem rounds_eq2 (m n d a : Int) (w : World) (ht : Tab w) (h3 : scaleM m n d 3 = (a, 0)) (h4 : scaleM m n d 4 = (a, 0)) (hd : d ≠ 1) : Calls Tryd.prog 5 #[.int .i64 m, .int .i64 n, .int .i64 d] w fun e w' => e = .returned (.bool true) ∧ Below w.heap.size w w' := by
  have CW := hide (fun w ht => works_any w ht)
  have HT := hide ht
  clear ht
  have C3 := hide (fun w => scale_any m n d 3 w (by decide) (by decide))
  have C4 := hide (fun w => scale_any m n d 4 w (by decide) (by decide))
  rw [h3] at C3
  rw [h4] at C4
  unfold pairV at C3 C4
  obtain ⟨⟨g1, g2, g3, g4, g5⟩, HR'⟩ := rounds_all m n d a a h3 h4
  have HR := hide HR'
  clear HR'
  obtain ⟨hm, hd0, hd1, hn0, hn1, -, -⟩ := scale_ok h3
  have hm' := may_yes hm
  clear h3 h4 hm
  dsimp only at C3 C4
  clear g3
  go_enter Tryd.func5, Tryd.ntmps5
  go_wp2_with fail
  refine (CW.out _ HT.out).mono ?_
  rintro _ w1 ⟨rfl, hb1⟩
  go_wp2_with fail
  refine (C3.out _).mono ?_
  rintro _ w2 ⟨rfl, hb2⟩
  have HB2 : Hid (Below w.heap.size w w2) := hb1.trans (hb2.mono hb1.size)
  go_wp2_with fail
  refine (C4.out _).mono ?_
  rintro _ w3 ⟨rfl, hb3⟩
  have HB3 : Hid (Below w.heap.size w w3) := HB2.out.trans (hb3.mono HB2.out.size)
  clear hb1 hb2 hb3
  go_wp2
  go_loopw [12, 13, 14, 15, 11] (fun _ _ _ _ i wr => ∃ k : Int, 1 ≤ k ∧ k ≤ 7 ∧ i = .int .i64 k ∧ Below w.heap.size w wr) (fun _ _ _ _ i _ => (7 - intOf i).toNat)
  case atStart => exact ⟨1, by decide, by decide, rfl, HB3.out⟩
  case round =>
    obtain ⟨k, hk0, hk1, rfl, hbel⟩ := hrel
    obtain rfl | rfl | rfl | rfl | rfl | rfl | rfl : k = 1 ∨ k = 2 ∨ k = 3 ∨ k = 4 ∨ k = 5 ∨ k = 6 ∨ k = 7 := by omega
    · obtain ⟨x, y, R⟩ := HR.out 1 (by decide) (by decide)
      have CX := hide (fun w => scale_any m n d 1 w (by decide) (by decide))
      have CY := hide (fun w => scale_any (-m) n d 1 w (by decide) (by decide))
      rw [R.sx] at CX
      rw [R.sy] at CY
      unfold pairV at CX CY
      dsimp only at CX CY
      have hx := R.ab
      have hy := R.op (by decide) (by decide)
      have CN := hide (fun w => nearer_any a a w)
      rw [← R.dn rfl] at CN
      clear R
      subst hy
      have hx : x = a := by rcases hx with h | h <;> exact h
      subst hx
      go_wp2_with fail
      refine (CX.out _).mono ?_
      rintro _ w4 ⟨rfl, hb4⟩
      have HB4 : Hid (Below w.heap.size w w4) := hbel.trans (hb4.mono hbel.size)
      clear hb4
      go_wp2_with fail
      refine (CY.out _).mono ?_
      rintro _ w5 ⟨rfl, hb5⟩
      have HB5 : Hid (Below w.heap.size w w5) := HB4.out.trans (hb5.mono HB4.out.size)
      clear hb5
      go_wp2_with (go_at_call 12; refine (CN.out _).mono ?_; rintro _ w6 ⟨rfl, hww⟩; subst hww)
      exact ⟨⟨2, by decide, by decide, rfl, HB5.out⟩, by simp [intOf]⟩
    · obtain ⟨x, y, R⟩ := HR.out 2 (by decide) (by decide)
      have CX := hide (fun w => scale_any m n d 2 w (by decide) (by decide))
      have CY := hide (fun w => scale_any (-m) n d 2 w (by decide) (by decide))
      rw [R.sx] at CX
      rw [R.sy] at CY
      unfold pairV at CX CY
      dsimp only at CX CY
      have hx := R.ab
      have hy := R.op (by decide) (by decide)
      have CN := hide (fun w => nearer_any a a w)
      have hn := R.up rfl
      have hnn : (if 0 ≤ a then a else a) = a := by split <;> rfl
      generalize (if 0 ≤ a then a else a) = c at *
      clear R
      subst hy
      have hx : x = a := by rcases hx with h | h <;> exact h
      subst hx
      subst hnn
      clear hn
      go_wp2_with fail
      refine (CX.out _).mono ?_
      rintro _ w4 ⟨rfl, hb4⟩
      have HB4 : Hid (Below w.heap.size w w4) := hbel.trans (hb4.mono hbel.size)
      clear hb4
      go_wp2_with fail
      refine (CY.out _).mono ?_
      rintro _ w5 ⟨rfl, hb5⟩
      have HB5 : Hid (Below w.heap.size w w5) := HB4.out.trans (hb5.mono HB4.out.size)
      clear hb5
      go_wp2_with (go_at_call 12; refine (CN.out _).mono ?_; rintro _ w6 ⟨rfl, hww⟩; subst hww)
      exact ⟨⟨3, by decide, by decide, rfl, HB5.out⟩, by simp [intOf]⟩
    · obtain ⟨x, y, R⟩ := HR.out 3 (by decide) (by decide)
      have CX := hide (fun w => scale_any m n d 3 w (by decide) (by decide))
      have CY := hide (fun w => scale_any (-m) n d 3 w (by decide) (by decide))
      rw [R.sx] at CX
      rw [R.sy] at CY
      unfold pairV at CX CY
      dsimp only at CX CY
      have hx := R.ab
      have hy := R.fl rfl
      clear R
      subst hy
      have hx : x = a := by rcases hx with h | h <;> exact h
      subst hx
      go_wp2_with fail
      refine (CX.out _).mono ?_
      rintro _ w4 ⟨rfl, hb4⟩
      have HB4 : Hid (Below w.heap.size w w4) := hbel.trans (hb4.mono hbel.size)
      clear hb4
      go_wp2_with fail
      refine (CY.out _).mono ?_
      rintro _ w5 ⟨rfl, hb5⟩
      have HB5 : Hid (Below w.heap.size w w5) := HB4.out.trans (hb5.mono HB4.out.size)
      clear hb5
      go_wp2_with fail
      exact ⟨⟨4, by decide, by decide, rfl, HB5.out⟩, by simp [intOf]⟩
    · obtain ⟨x, y, R⟩ := HR.out 4 (by decide) (by decide)
      have CX := hide (fun w => scale_any m n d 4 w (by decide) (by decide))
      have CY := hide (fun w => scale_any (-m) n d 4 w (by decide) (by decide))
      rw [R.sx] at CX
      rw [R.sy] at CY
      unfold pairV at CX CY
      dsimp only at CX CY
      have hx := R.ab
      have hy := R.ce rfl
      clear R
      subst hy
      have hx : x = a := by rcases hx with h | h <;> exact h
      subst hx
      go_wp2_with fail
      refine (CX.out _).mono ?_
      rintro _ w4 ⟨rfl, hb4⟩
      have HB4 : Hid (Below w.heap.size w w4) := hbel.trans (hb4.mono hbel.size)
      clear hb4
      go_wp2_with fail
      refine (CY.out _).mono ?_
      rintro _ w5 ⟨rfl, hb5⟩
      have HB5 : Hid (Below w.heap.size w w5) := HB4.out.trans (hb5.mono HB4.out.size)
      clear hb5
      go_wp2_with fail
      exact ⟨⟨5, by decide, by decide, rfl, HB5.out⟩, by simp [intOf]⟩
    · obtain ⟨x, y, R⟩ := HR.out 5 (by decide) (by decide)
      have CX := hide (fun w => scale_any m n d 5 w (by decide) (by decide))
      have CY := hide (fun w => scale_any (-m) n d 5 w (by decide) (by decide))
      rw [R.sx] at CX
      rw [R.sy] at CY
      unfold pairV at CX CY
      dsimp only at CX CY
      have hx := R.ab
      have hy := R.op (by decide) (by decide)
      have CN := hide (fun w => near_any x m n d w hd0 hd1 (R.nr (by decide)))
      clear R
      subst hy
      have hx : x = a := by rcases hx with h | h <;> exact h
      subst hx
      go_wp2_with fail
      refine (CX.out _).mono ?_
      rintro _ w4 ⟨rfl, hb4⟩
      have HB4 : Hid (Below w.heap.size w w4) := hbel.trans (hb4.mono hbel.size)
      clear hb4
      go_wp2_with fail
      refine (CY.out _).mono ?_
      rintro _ w5 ⟨rfl, hb5⟩
      have HB5 : Hid (Below w.heap.size w w5) := HB4.out.trans (hb5.mono HB4.out.size)
      clear hb5
      go_wp2_with (go_at_call 13; refine (CN.out _).mono ?_; rintro _ w6 ⟨rfl, hww⟩; subst hww)
      exact ⟨⟨6, by decide, by decide, rfl, HB5.out⟩, by simp [intOf]⟩
    · obtain ⟨x, y, R⟩ := HR.out 6 (by decide) (by decide)
      have CX := hide (fun w => scale_any m n d 6 w (by decide) (by decide))
      have CY := hide (fun w => scale_any (-m) n d 6 w (by decide) (by decide))
      rw [R.sx] at CX
      rw [R.sy] at CY
      unfold pairV at CX CY
      dsimp only at CX CY
      have hx := R.ab
      have hy := R.op (by decide) (by decide)
      have CN := hide (fun w => near_any x m n d w hd0 hd1 (R.nr (by decide)))
      clear R
      subst hy
      have hx : x = a := by rcases hx with h | h <;> exact h
      subst hx
      go_wp2_with fail
      refine (CX.out _).mono ?_
      rintro _ w4 ⟨rfl, hb4⟩
      have HB4 : Hid (Below w.heap.size w w4) := hbel.trans (hb4.mono hbel.size)
      clear hb4
      go_wp2_with fail
      refine (CY.out _).mono ?_
      rintro _ w5 ⟨rfl, hb5⟩
      have HB5 : Hid (Below w.heap.size w w5) := HB4.out.trans (hb5.mono HB4.out.size)
      clear hb5
      go_wp2_with (go_at_call 13; refine (CN.out _).mono ?_; rintro _ w6 ⟨rfl, hww⟩; subst hww)
      exact ⟨⟨7, by decide, by decide, rfl, HB5.out⟩, by simp [intOf]⟩
    · go_wp2_with fail
      go_ret
      exact ⟨rfl, hbel⟩

end Go.Proofs.YthpbadnedhjncabDoor
