/- FastAsks, walked. -/
import Derived.Test.YtcobmbclhhimjaaGreatFas1
import Derived.Test.YtcobmbclhhimjaaGreatDifJ
import Derived.Test.YtcobmbclhhimjaaGreatRh0
import Derived.Test.YtcobmbclhhimjaaGreatSame
import Derived.Test.YtcobmbclhhimjaaGreatWks
namespace Go.Proofs.YtcobmbclhhimjaaGreat.Fa
open Go.RowKit

set_option maxRecDepth 100000 in
set_option maxHeartbeats 12800000 in
theorem asks_any {w : World} {T : Th} {A B : List Int} {fa ra ba xa ya : Option Addr} {fc rc bc xc yc : Nat} {q t : Int} (h : TA w.heap.size w T fa fc ra rc ba bc) (hA : Ints w.heap.size w A (.slice xa A.length xc)) (hB : Ints w.heap.size w B (.slice ya B.length yc)) :
    Calls Tryz.prog 4 #[tv T fa fc ra rc ba bc, .slice xa A.length xc, .slice ya B.length yc, .int .i64 q, .int .i64 t] w fun e w' => e = .returned (.bool true) ∧ Below w.heap.size w w' := by
  have hBw := below_new w (.cells #[.int .i64 T.lits, .slice fa T.foes.length fc, .slice ra T.rules.length rc, .slice ba T.beats.length bc] 25)
  have hX := heap_alloc_new w (.cells #[.int .i64 T.lits, .slice fa T.foes.length fc, .slice ra T.rules.length rc, .slice ba T.beats.length bc] 25)
  obtain ⟨m, hm⟩ := Rf.uq_exists T A
  obtain ⟨m2, hm2⟩ := Rf.uq_exists T B
  have HM := hide hm
  have HM2 := hide hm2
  have HTA := hide (TR.go hBw h)
  have HA := hide (Ints.go hBw hA)
  have HB := hide (Ints.go hBw hB)
  have HBw := hide hBw
  have HX := hide hX
  clear h hBw hA hB hm hm2
  go_enter Tryz.func4, Tryz.ntmps4
  go_upto_region 1 with fail
  generalize w.alloc (.cells #[.int .i64 T.lits, .slice fa T.foes.length fc, .slice ra T.rules.length rc, .slice ba T.beats.length bc] 25) = W at *
  obtain ⟨-, c0, c1, c2, c3⟩ := Bt.of hX
  clear hX
  have CX : Hid (∀ X, Below W.heap.size W X → X.heap[w.heap.size]? = some (.cells #[.int .i64 T.lits, .slice fa T.foes.length fc, .slice ra T.rules.length rc, .slice ba T.beats.length bc] 25)) := hide fun X hX => (hX.block _ (loc_lt HX.out)).trans HX.out
  have C1 := hide (Holds_any (q := q) (t := t) HM.out HTA.out HA.out)
  obtain ⟨bv, hbv⟩ : ∃ b, Rf.hasV T A m q t = b := ⟨_, rfl⟩
  obtain ⟨be, hbe⟩ : ∃ b, Rf.hasE T A q t = b := ⟨_, rfl⟩
  rw [hbv, hbe] at C1
  go_upto_region 2 with (go_at_call 17; refine C1.out.mono ?_; rintro _ w1 ⟨rfl, hw1⟩; have HW1 := hide hw1; clear hw1)
  clear c0 c1 c2 c3 C1
  obtain ⟨-, c0, c1, c2, c3⟩ := Bt.of (CX.out _ HW1.out)
  have C2 := hide (Rf.rholds_any (q := q) (t := t) HM.out (TR.go HW1.out HTA.out) (Ints.go HW1.out HA.out))
  rw [hbv, hbe] at C2
  clear hbv hbe
  go_upto_region 3 with (go_at_call 18; refine C2.out.mono ?_; rintro _ w2 ⟨rfl, hw2⟩; have HW2 := hide (HW1.out.trans (hw2.mono HW1.out.size)); clear hw2)
  clear c0 c1 c2 c3 C2 HW1
  obtain ⟨-, c0, c1, c2, c3⟩ := Bt.of (CX.out _ HW2.out)
  have C3 := hide (Set_any (t := t) HM.out (TR.go HW2.out HTA.out) (Ints.go HW2.out HA.out))
  have hsl := Rf.setL_len (T := T) (F := A) (m := m) (t := t)
  obtain ⟨sl, hsv⟩ : ∃ b, Rf.setL T A m t = b := ⟨_, rfl⟩
  obtain ⟨se, hse⟩ : ∃ b, Rf.setE T A t = b := ⟨_, rfl⟩
  rw [hsv, hse] at C3
  rw [hsv] at hsl
  go_upto_region 4 with (go_at_call 19; refine C3.out.mono ?_; rintro _ w3 ⟨v1, n1, rfl, hat, hw3⟩; have HAT1 := hide hat; have HW23 := hide hw3; have HW3 := hide (HW2.out.trans (hw3.mono HW2.out.size)); clear hw3 hat)
  clear c0 c1 c2 c3 C3 HW2 HW23
  obtain ⟨-, c0, c1, c2, c3⟩ := Bt.of (CX.out _ HW3.out)
  have C4 := hide (Rf.rset_any (t := t) HM.out (TR.go HW3.out HTA.out) (Ints.go HW3.out HA.out))
  rw [hsv, hse] at C4
  clear hsv hse
  go_upto_region 5 with (go_at_call 20; refine C4.out.mono ?_; rintro _ w4 ⟨v2, n2, rfl, hat, hw4⟩; have HAT2 := hide hat; have HAT1b := hide (HAT1.out.below hw4); have HW4 := hide (HW3.out.trans (hw4.mono HW3.out.size)); clear hw4 hat)
  clear c0 c1 c2 c3 C4 HW3 HAT1
  obtain ⟨-, c0, c1, c2, c3⟩ := Bt.of (CX.out _ HW4.out)
  have CN1 := hide (num_still w4 be)
  have CSM := hide (sameInts_yes (c := n1) (d := n2) HAT1b.out HAT2.out (by omega))
  have CN2 := hide fun w5 => num_still w5 se
  have hbb : (bv != bv) = false := by simp
  have hee : (be != be) = false := by simp
  have hss : (se != se) = false := by simp
  clear HAT1b HAT2
  go_wp2_with fail
  refine CN1.out.mono ?_
  rintro _ w5 ⟨rfl, hw⟩
  subst w5
  go_wp2_with fail
  refine CSM.out.mono ?_
  rintro _ w5 ⟨rfl, hw5⟩
  have HW5 := hide (HW4.out.trans (hw5.mono HW4.out.size))
  clear hw5 c0 c1 c2 c3 CN1 CSM HW4
  obtain ⟨-, c0, c1, c2, c3⟩ := Bt.of (CX.out _ HW5.out)
  go_wp2_with fail
  refine (CN2.out w5).mono ?_
  rintro _ w6 ⟨rfl, hw⟩
  subst w6
  have C6 := hide (Und_any HM.out (TR.go HW5.out HTA.out) (Ints.go HW5.out HA.out))
  have hul := Rf.undL_len (T := T) (F := A) (m := m)
  obtain ⟨ul, huv⟩ : ∃ b, Rf.undL T A m = b := ⟨_, rfl⟩
  obtain ⟨ue, hue⟩ : ∃ b, faultM T A = b := ⟨_, rfl⟩
  rw [huv, hue] at C6
  rw [huv] at hul
  clear CN2
  go_upto_region 8 with (go_at_call 21; refine C6.out.mono ?_; rintro _ w6 ⟨v1, n1, rfl, hat, hw6⟩; have HAT1 := hide hat; have HW6 := hide (HW5.out.trans (hw6.mono HW5.out.size)); clear hw6 hat)
  clear c0 c1 c2 c3 C6 HW5
  obtain ⟨-, c0, c1, c2, c3⟩ := Bt.of (CX.out _ HW6.out)
  have C7 := hide (Rf.rund_any HM.out (TR.go HW6.out HTA.out) (Ints.go HW6.out HA.out))
  rw [huv, hue] at C7
  clear huv hue
  go_upto_region 9 with (go_at_call 22; refine C7.out.mono ?_; rintro _ w7 ⟨v2, n2, rfl, hat, hw7⟩; have HAT2 := hide hat; have HAT1b := hide (HAT1.out.below hw7); have HW7 := hide (HW6.out.trans (hw7.mono HW6.out.size)); clear hw7 hat)
  clear c0 c1 c2 c3 C7 HW6 HAT1
  obtain ⟨-, c0, c1, c2, c3⟩ := Bt.of (CX.out _ HW7.out)
  have C8 := hide (Differ_any HM.out HM2.out (TR.go HW7.out HTA.out) (Ints.go HW7.out HA.out) (Ints.go HW7.out HB.out))
  have hdl := Rf.difL_len (T := T) (A := A) (B := B) (m := m) (m2 := m2)
  obtain ⟨dl, hdv⟩ : ∃ b, Rf.difL T A B m m2 = b := ⟨_, rfl⟩
  obtain ⟨de, hde⟩ : ∃ b, Rf.difE T A B = b := ⟨_, rfl⟩
  rw [hdv, hde] at C8
  rw [hdv] at hdl
  go_upto_region 10 with (go_at_call 23; refine C8.out.mono ?_; rintro _ w8 ⟨v3, n3, rfl, hat, hw8⟩; have HAT3 := hide hat; have HATa := hide (HAT1b.out.below hw8); have HATb := hide (HAT2.out.below hw8); have HW8 := hide (HW7.out.trans (hw8.mono HW7.out.size)); clear hw8 hat)
  clear c0 c1 c2 c3 C8 HW7 HAT1b HAT2
  obtain ⟨-, c0, c1, c2, c3⟩ := Bt.of (CX.out _ HW8.out)
  have C9 := hide (Rf.rdif_any HM.out HM2.out (TR.go HW8.out HTA.out) (Ints.go HW8.out HA.out) (Ints.go HW8.out HB.out))
  rw [hdv, hde] at C9
  clear hdv hde
  go_upto_region 11 with (go_at_call 24; refine C9.out.mono ?_; rintro _ w9 ⟨v4, n4, rfl, hat, hw9⟩; have HAT4 := hide hat; have HAT3b := hide (HAT3.out.below hw9); have HATc := hide (HATa.out.below hw9); have HATd := hide (HATb.out.below hw9); have HW9 := hide (HW8.out.trans (hw9.mono HW8.out.size)); clear hw9 hat)
  clear c0 c1 c2 c3 C9 HW8 HATa HATb HAT3 HM HM2 HTA HA HB
  have CS1 := hide (sameInts_yes (c := n1) (d := n2) HATc.out HATd.out (by omega))
  have CN1 := hide fun w5 => num_still w5 ue
  have CN2 := hide fun w5 => num_still w5 de
  have CS2 := hide fun (X : World) (hX : Below w9.heap.size w9 X) => sameInts_yes (c := n3) (d := n4) (HAT3b.out.below hX) (HAT4.out.below hX) (by omega)
  have CW := hide fun X => works_any (w := X)
  have HBW := hide fun (X : World) (hX : Below w9.heap.size w9 X) => HBw.out.trans ((HW9.out.trans (hX.mono HW9.out.size)).mono HBw.out.size)
  clear HATc HATd HAT3b HAT4 HW9 HBw HX CX
  go_wp2_with fail
  refine CS1.out.mono ?_
  rintro _ x1 ⟨rfl, hx1⟩
  go_wp2_with fail
  refine (CN1.out _).mono ?_
  rintro _ x2 ⟨rfl, hw⟩
  subst x2
  go_wp2_with fail
  refine (CS2.out x1 hx1).mono ?_
  rintro _ x2 ⟨rfl, hx2⟩
  go_wp2_with fail
  refine (CN2.out _).mono ?_
  rintro _ x3 ⟨rfl, hw⟩
  subst x3
  go_wp2_with fail
  refine (CW.out _).mono ?_
  rintro _ x3 ⟨rfl, hx3⟩
  have HF := hide (HBW.out x3 ((hx1.trans (hx2.mono hx1.size)).trans (hx3.mono (hx1.trans (hx2.mono hx1.size)).size)))
  clear hx1 hx2 hx3
  go_wp2_with fail
  go_ret
  exact ⟨rfl, HF.out⟩
end Go.Proofs.YtcobmbclhhimjaaGreat.Fa
