/- NaiveOwn, walked. -/
import Derived.Test.YtbnkdfhjdjgnhaaRnd
namespace Go.Proofs.Ytbnkdfhjdjgnhaa
open Go.RowKit

section
variable {w : World} {T : Th} {F m : List Int} {fa ra ba ea ma : Option Addr} {fc rc bc ec mc : Nat}
theorem Solve_told (h : TA w.heap.size w T fa fc ra rc ba bc) (hF : Ints w.heap.size w F (.slice ea F.length ec)) :
    Calls Try.prog 9 #[tv T fa fc ra rc ba bc, .slice ea F.length ec] w fun e w' => ∃ l c, l.length ≤ 4096 ∧ Told w e l c w' := by
  by_cases hf : faultM T F = 0
  · refine (Solve_ok h hF hf).mono ?_
    rintro e w' ⟨v, l, i, h1, h2, h3, h4⟩
    have hp := pf_of hf
    have hl := sol_len hp h2
    exact ⟨l, 0, by rw [hl]; exact hp.n4, v, h1, by rw [hl]; exact h3, h4⟩
  · refine (Solve_bad h hF hf).mono ?_
    rintro e w' ⟨h1, h2⟩
    exact ⟨[], _, by simp, _, h1, World.ownsRow_nil _ _ _ _, h2⟩
theorem Round_told (h : TA w.heap.size w T fa fc ra rc ba bc) (hF : Ints w.heap.size w F (.slice ea F.length ec)) (hm : At1 w ma (u8s m)) :
    Calls Try.prog 11 #[tv T fa fc ra rc ba bc, .slice ea F.length ec, .slice ma m.length mc] w fun e w' => ∃ l c, l.length ≤ 4096 ∧ Told w e l c w' := by
  refine (Round_any (mc := mc) h hF hm).mono ?_
  intro e w' ht
  refine ⟨_, _, ?_, ht⟩
  by_cases hf : mfM T F m = 0
  · rw [if_pos hf, round_len]
    have hf0 : faultM T F = 0 := by
      apply Classical.byContradiction
      intro hn
      unfold mfM at hf
      rw [if_pos hn] at hf
      exact hn hf
    have hp := pf_of hf0
    have := hp.n4
    unfold mfM at hf
    rw [if_neg (by rw [hf0]; decide)] at hf
    by_cases e : (m.length : Int) ≠ T.lits
    · rw [if_pos e] at hf; cases hf
    · have := Classical.not_not.1 e
      omega
  · rw [if_neg hf]; simp
end
theorem own_set {w : World} {base e n : Nat} {v : Value} {xs : List Value} {i : Nat} (h : w.ownsRow base e 1 v n xs) (hi : i < n) : ∃ g c old, v = .slice (some ⟨g, 0, none⟩) n c ∧ base ≤ g ∧ g < w.heap.size ∧ w.cell? ⟨g, i, none⟩ = some old ∧ w.frozen? ⟨g, i, none⟩ = false ∧ ∀ val, (w.setCell ⟨g, i, none⟩ val).ownsRow base e 1 v n (xs.set i val) := by
  obtain ⟨h1, h2⟩ := h
  rcases h2 with ⟨-, e0⟩ | ⟨g, cap, cur, rfl, hb, hg, hnc, hcm, hcs, htake⟩
  · omega
  · have hlt : i < cur.size := by omega
    refine ⟨g, cap, cur[i], rfl, hb, loc_lt hg, ?_, frozen_of_row w g i _ _ hg, fun val => ⟨by rw [List.length_set]; exact h1, .inr ⟨g, cap, _, rfl, hb, loc_set hg, hnc, hcm, by rw [Array.size_setIfInBounds]; exact hcs, ?_⟩⟩⟩
    · rw [cell_of_row w g i cur e _ hg]
      exact Array.getElem?_eq_getElem hlt
    · rw [Array.toList_setIfInBounds, List.take_set, htake]
set_option maxRecDepth 100000 in
set_option maxHeartbeats 6400000 in
theorem own_any {w : World} {T : Th} {F m : List Int} {fa ra ba ea ma : Option Addr} {fc rc bc ec mc : Nat} (h : TA w.heap.size w T fa fc ra rc ba bc) (hF : Ints w.heap.size w F (.slice ea F.length ec)) (hm : At1 w ma (u8s m)) :
    Calls Try.prog 7 #[tv T fa fc ra rc ba bc, .slice ea F.length ec, .slice ma m.length mc] w fun e w' => e = .returned (.bool true) ∧ Below w.heap.size w w' := by
  have hB := below_new w (.cells #[.int .i64 T.lits, .slice fa T.foes.length fc, .slice ra T.rules.length rc, .slice ba T.beats.length bc] 25)
  have hX := heap_alloc_new w (.cells #[.int .i64 T.lits, .slice fa T.foes.length fc, .slice ra T.rules.length rc, .slice ba T.beats.length bc] 25)
  have CS : Hid (∀ X, Below w.heap.size w X → Calls Try.prog 9 #[tv T fa fc ra rc ba bc, .slice ea F.length ec] X fun e w' => ∃ l c, l.length ≤ 4096 ∧ Told X e l c w') := hide fun X hX => Solve_told (TR.go hX h) (Ints.go hX hF)
  have CR : Hid (∀ X, Below w.heap.size w X → Calls Try.prog 11 #[tv T fa fc ra rc ba bc, .slice ea F.length ec, .slice ma m.length mc] X fun e w' => ∃ l c, l.length ≤ 4096 ∧ Told X e l c w') := hide fun X hX => Round_told (TR.go hX h) (Ints.go hX hF) (hm.below hX)
  have HB := hide hB
  have HX := hide hX
  clear h hB hF hm
  go_enter Try.func7, Try.ntmps7
  go_upto_region 1 with fail
  generalize w.alloc (.cells #[.int .i64 T.lits, .slice fa T.foes.length fc, .slice ra T.rules.length rc, .slice ba T.beats.length bc] 25) = W at *
  clear hX
  have CA := hide (alive_any (w := W))
  go_upto_region 3 with (go_at_call 8; refine CA.out.mono ?_; rintro _ w1 ⟨rfl, hw1⟩; have HB1 := hide (HB.out.trans (hw1.mono HB.out.size)); have HX1 := hide ((hw1.block _ (loc_lt HX.out)).trans HX.out); clear hw1)
  clear CA HX HB
  obtain ⟨-, c0, c1, c2, c3⟩ := Bt.of HX1.out
  go_upto_region 4 with (go_at_call 9; refine (CS.out _ HB1.out).mono ?_; rintro _ w2 ⟨lA, cA, hlA, vA, rfl, hoA, hw2⟩; have HOA := hide hoA; have HW2 := hide hw2; clear hoA hw2)
  clear c0 c1 c2 c3
  have HB2 := hide (HB1.out.trans (HW2.out.mono HB1.out.size))
  have HX2 := hide ((HW2.out.block _ (loc_lt HX1.out)).trans HX1.out)
  clear HX1
  obtain ⟨-, c0, c1, c2, c3⟩ := Bt.of HX2.out
  go_upto_region 5 with (go_at_call 11; refine (CR.out _ HB2.out).mono ?_; rintro _ w3 ⟨lB, cB, hlB, vB, rfl, hoB, hw3⟩; have HOB := hide hoB; have HW3 := hide hw3; clear hoB hw3)
  clear c0 c1 c2 c3
  have HB3 := hide (HB2.out.trans (HW3.out.mono HB2.out.size))
  have HX3 := hide ((HW3.out.block _ (loc_lt HX2.out)).trans HX2.out)
  have HOA3 := hide (owns_down (owns_keep HOA.out fun g e => HW3.out.block g (owns_lt HOA.out e)) (Nat.zero_le _))
  have HOB3 := hide (owns_down HOB.out (Nat.zero_le _))
  obtain ⟨aA, kA, rfl⟩ := owns_slice HOA3.out
  obtain ⟨aB, kB, rfl⟩ := owns_slice HOB3.out
  clear HX2 HOA HOB HW2 HW3 HB1 HB2
  have CX := hide (copyM_any (c := kA) (owns_at1 HOA3.out) hlA)
  have CY : Hid (∀ X, Below w3.heap.size w3 X → Calls Try.prog 13 #[.slice aB lB.length kB] X fun e w' => ∃ v, e = .returned v ∧ w'.ownsRow X.heap.size 36 1 v lB.length (u8s lB) ∧ Below X.heap.size X w') := hide fun X hX => copyM_any (c := kB) ((owns_at1 HOB3.out).below hX) hlB
  go_upto_region 6 with (first | (go_at_call 13; refine CX.out.mono ?_; rintro _ w4 ⟨vX, rfl, hoX, hw4⟩; have HOX := hide hoX; have HW4 := hide hw4; clear hoX hw4 CX) | (go_at_call 13; refine (CY.out _ HW4.out).mono ?_; rintro _ w5 ⟨vY, rfl, hoY, hw5⟩; have HOY := hide hoY; have HW5 := hide hw5; clear hoY hw5))
  have HW35 := hide (HW4.out.trans (HW5.out.mono HW4.out.size))
  have HB5 := hide (HB3.out.trans (HW35.out.mono HB3.out.size))
  have HX5 := hide ((HW35.out.block _ (loc_lt HX3.out)).trans HX3.out)
  have HA5 := hide (owns_keep HOA3.out fun g e => HW35.out.block g (owns_lt HOA3.out e))
  have HBB5 := hide (owns_keep HOB3.out fun g e => HW35.out.block g (owns_lt HOB3.out e))
  have HX55 := hide (owns_down (owns_keep HOX.out fun g e => HW5.out.block g (owns_lt HOX.out e)) (Nat.zero_le _))
  have HY5 := hide (owns_down HOY.out (Nat.zero_le _))
  obtain ⟨aX, kX, rfl⟩ := owns_slice HX55.out
  obtain ⟨aY, kY, rfl⟩ := owns_slice HY5.out
  clear CY HX3 HOA3 HOB3 HOX HOY HW4 HW5 HW35 HB3
  obtain ⟨-, c0, c1, c2, c3⟩ := Bt.of HX5.out
  go_upto_region 7 with (go_at_call 9; refine (CS.out _ HB5.out).mono ?_; rintro _ w6 ⟨lC, cC, hlC, vC, rfl, hoC, hw6⟩; have HOC := hide hoC; have HW6 := hide hw6; clear hoC hw6)
  clear c0 c1 c2 c3
  have HB6 := hide (HB5.out.trans (HW6.out.mono HB5.out.size))
  have HX6 := hide ((HW6.out.block _ (loc_lt HX5.out)).trans HX5.out)
  clear HX5
  obtain ⟨-, c0, c1, c2, c3⟩ := Bt.of HX6.out
  go_upto_region 8 with (go_at_call 11; refine (CR.out _ HB6.out).mono ?_; rintro _ w7 ⟨lD, cD, hlD, vD, rfl, hoD, hw7⟩; have HOD := hide hoD; have HW7 := hide hw7; clear hoD hw7)
  clear c0 c1 c2 c3 HX6 CS CR
  obtain ⟨aC, kC, rfl⟩ := owns_slice HOC.out
  obtain ⟨aD, kD, rfl⟩ := owns_slice HOD.out
  have HC7 := hide (owns_keep HOC.out fun g e => HW7.out.block g (owns_lt HOC.out e))
  have HCL : Hid (∀ g, Value.ownBlock (.slice aC lC.length kC) = some g → g < w6.heap.size) := hide fun g e => owns_lt HOC.out e
  have HW57 := hide (HW6.out.trans (HW7.out.mono HW6.out.size))
  have HW56 : Hid (w5.heap.size ≤ w6.heap.size) := hide HW6.out.size
  clear HOC HW6 HW7 HB6
  obtain ⟨nC, hnC⟩ : ∃ n, lC.length = n := ⟨_, rfl⟩
  obtain ⟨nD, hnD⟩ : ∃ n, lD.length = n := ⟨_, rfl⟩
  rw [hnC] at HC7 HCL hlC ⊢
  rw [hnD] at HOD hlD ⊢
  clear hnC hnD
  go_upto_region 9 with fail
  go_loopw [17] (fun x wr => ∃ (k : Nat) (xs ys : List Value), k ≤ nC ∧ x = .int .i64 k ∧ Hid (wr.ownsRow w5.heap.size 36 1 (.slice aC nC kC) nC xs) ∧ Hid (wr.ownsRow w6.heap.size 36 1 (.slice aD nD kD) nD ys) ∧ Hid (Below w5.heap.size w5 wr)) (fun x _ => nC - (intOf x).toNat)
  case atStart => exact ⟨0, _, _, by omega, rfl, HC7, HOD, HW57⟩
  case round =>
    clear HC7 HOD HW57
    obtain ⟨k, xs, ys, hk, rfl, HC, HD, HW⟩ := hrel
    by_cases hlt : k < nC
    · obtain ⟨g, c, old, e1, hbg, hgl, x0, f0, hset⟩ := own_set HC.out hlt
      cases e1
      have HC2 := hide (hset (.int .u8 77))
      have HD2 : Hid ((wr.setCell ⟨g, k, none⟩ (.int .u8 77)).ownsRow w6.heap.size 36 1 (.slice aD nD kD) nD ys) := hide (owns_keep HD.out fun q e => other_set (by have h1 := (HD.out.lt q e).1; have h2 := HCL.out g rfl; omega))
      have HW2 := hide (HW.out.setCell (p := ⟨g, k, none⟩) hbg (.int .u8 77))
      clear hset HC HD HW hgl
      go_wp2_with fail
      go_roundw
      case rel => exact ⟨k + 1, _, ys, by omega, by go_num, HC2, HD2, HW2⟩
      case measure => simp [intOf]; omega
    · clear HC
      go_upto_region 13 with fail
      go_loopw [18] (fun x wr => ∃ (k : Nat) (ys : List Value), k ≤ nD ∧ x = .int .i64 k ∧ Hid (wr.ownsRow w6.heap.size 36 1 (.slice aD nD kD) nD ys) ∧ Hid (Below w5.heap.size w5 wr)) (fun x _ => nD - (intOf x).toNat)
      case atStart => exact ⟨0, _, by omega, rfl, HD, HW⟩
      case round =>
        clear HD HW
        obtain ⟨j, zs, hj, rfl, HD, HW⟩ := hrel
        by_cases hlj : j < nD
        · obtain ⟨g, c, old, e1, hbg, hgl, x0, f0, hset⟩ := own_set HD.out hlj
          cases e1
          have HD2 := hide (hset (.int .u8 77))
          have HW2 := hide (HW.out.setCell (p := ⟨g, j, none⟩) (Nat.le_trans HW56.out hbg) (.int .u8 77))
          clear hset HD HW hgl
          go_wp2_with fail
          go_roundw
          case rel => exact ⟨j + 1, _, by omega, by go_num, HD2, HW2⟩
          case measure => simp [intOf]; omega
        · have CP := hide (sameM_yes (c := kA) (d := kX) ((owns_at1 HA5.out).below HW.out) ((owns_at1 HX55.out).below HW.out) hlA)
          have CQ : Hid (∀ X, Below wr.heap.size wr X → Calls Try.prog 12 #[.slice aB lB.length kB, .slice aY lB.length kY] X fun e w' => e = .returned (.bool true) ∧ Below X.heap.size X w') := hide fun X hX => sameM_yes (c := kB) (d := kY) (((owns_at1 HBB5.out).below HW.out).below hX) (((owns_at1 HY5.out).below HW.out).below hX) hlB
          have HBF := hide (HB5.out.trans (HW.out.mono HB5.out.size))
          clear HD HW
          go_wp2_with (first | (go_at_call 12; refine CP.out.mono ?_; rintro _ w8 ⟨rfl, hw8⟩; have HW8 := hide hw8; clear hw8 CP) | (go_at_call 12; refine (CQ.out _ HW8.out).mono ?_; rintro _ w9 ⟨rfl, hw9⟩; have HW9 := hide hw9; clear hw9))
          go_ret
          exact ⟨rfl, HBF.out.trans ((HW8.out.trans (HW9.out.mono HW8.out.size)).mono HBF.out.size)⟩
end Go.Proofs.Ytbnkdfhjdjgnhaa
