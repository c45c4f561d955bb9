/- TheoryChecks, walked. -/
import Derived.Test.YtinloodhmnjobaaRfe
import Derived.Test.YtinloodhmnjobaaCpf
import Derived.Test.YtinloodhmnjobaaChf
import Derived.Test.YtinloodhmnjobaaBackM
namespace Go.Proofs.Ytinloodhmnjobaa.Rf
open Go.RowKit Fa

/-- What stays: the theory, the facts, and their copies. -/
structure Kp (W : World) (own : Nat) (bx : Nat) (T : Th) (F : List Int) (fa ra ba fa2 ra2 ba2 xa ya : Option Addr) (fc rc bc fc2 rc2 bc2 xc yc : Nat) : Prop where
  b1 : Fx bx 25 [.int .i64 T.lits, .slice fa T.foes.length fc, .slice ra T.rules.length rc, .slice ba T.beats.length bc] W
  b2 : Fx own 25 [.int .i64 T.lits, .slice fa2 T.foes.length fc2, .slice ra2 T.rules.length rc2, .slice ba2 T.beats.length bc2] W
  t1 : TA W.heap.size W T fa fc ra rc ba bc
  t2 : TA W.heap.size W T fa2 fc2 ra2 rc2 ba2 bc2
  i1 : Ints W.heap.size W F (.slice xa F.length xc)
  i2 : Ints W.heap.size W F (.slice ya F.length yc)
section
variable {W W' : World} {own bx : Nat} {T : Th} {F : List Int} {fa ra ba fa2 ra2 ba2 xa ya : Option Addr} {fc rc bc fc2 rc2 bc2 xc yc : Nat}
theorem Kp.go (h : Kp W own bx T F fa ra ba fa2 ra2 ba2 xa ya fc rc bc fc2 rc2 bc2 xc yc) (hb : Below W.heap.size W W') : Kp W' own bx T F fa ra ba fa2 ra2 ba2 xa ya fc rc bc fc2 rc2 bc2 xc yc :=
  ⟨h.b1.keep (hb.block _ h.b1.lt), h.b2.keep (hb.block _ h.b2.lt), TR.go hb h.t1, TR.go hb h.t2, Ints.go hb h.i1, Ints.go hb h.i2⟩
end
abbrev S8 (wz : World) (p0 p1 p2 p3 q0 q1 q2 q3 : Addr) (u0 u1 u2 u3 x0 x1 x2 x3 : Value) (X : World) : Prop := X.cell? p0 = some u0 ∧ X.cell? p1 = some u1 ∧ X.cell? p2 = some u2 ∧ X.cell? p3 = some u3 ∧ X.cell? q0 = some x0 ∧ X.cell? q1 = some x1 ∧ X.cell? q2 = some x2 ∧ X.cell? q3 = some x3 ∧ Below wz.heap.size wz X
section
variable {wz X Y : World} {p0 p1 p2 p3 q0 q1 q2 q3 : Addr} {u0 u1 u2 u3 x0 x1 x2 x3 : Value}
theorem cellS {X Y : World} {p : Addr} {u : Value} (h : X.cell? p = some u) (hb : Below X.heap.size X Y) : Y.cell? p = some u := (World.cell?_of_block (hb.block p.block (World.block_lt_of_cell? X _ h))).trans h
theorem S8.b (h : S8 wz p0 p1 p2 p3 q0 q1 q2 q3 u0 u1 u2 u3 x0 x1 x2 x3 X) : Below wz.heap.size wz X := h.2.2.2.2.2.2.2.2
theorem S8.drew (h : S8 wz p0 p1 p2 p3 q0 q1 q2 q3 u0 u1 u2 u3 x0 x1 x2 x3 X) : S8 wz p0 p1 p2 p3 q0 q1 q2 q3 u0 u1 u2 u3 x0 x1 x2 x3 X.drew := by
  obtain ⟨a, b, c, d, e, f, g, i, j⟩ := h
  exact ⟨a, b, c, d, e, f, g, i, j.drew⟩
theorem S8.below (h : S8 wz p0 p1 p2 p3 q0 q1 q2 q3 u0 u1 u2 u3 x0 x1 x2 x3 X) (hb : Below X.heap.size X Y) : S8 wz p0 p1 p2 p3 q0 q1 q2 q3 u0 u1 u2 u3 x0 x1 x2 x3 Y := by
  obtain ⟨a, b, c, d, e, f, g, i, j⟩ := h
  exact ⟨cellS a hb, cellS b hb, cellS c hb, cellS d hb, cellS e hb, cellS f hb, cellS g hb, cellS i hb, j.trans (hb.mono j.size)⟩
end
set_option maxRecDepth 100000 in
set_option maxHeartbeats 25600000 in
theorem checks_law {w : World} {T : Th} {F : List Int} {fa ra ba xa : Option Addr} {fc rc bc xc : Nat} (h : TA w.heap.size w T fa fc ra rc ba bc) (hS : Sml T) (hF : Ints w.heap.size w F (.slice xa F.length xc)) (hz : F.length ≤ 17592186043904) :
    Calls Try.prog 3 #[tv T fa fc ra rc ba bc, .slice xa F.length xc] w fun e w' => e = .returned (.bool true) ∧ Below w.heap.size w w' := by
  have hB := below_new w (.cells #[.int .i64 T.lits, .slice fa T.foes.length fc, .slice ra T.rules.length rc, .slice ba T.beats.length bc] 25)
  have hX := heap_alloc_new w (.cells #[.int .i64 T.lits, .slice fa T.foes.length fc, .slice ra T.rules.length rc, .slice ba T.beats.length bc] 25)
  have HTA := hide (TR.go hB h)
  have HF := hide (Ints.go hB hF)
  have HB := hide hB
  have HX := hide hX
  have HS := hide hS
  have HZ := hide hz
  clear h hB hF hS hz
  go_enter Try.func3, Try.ntmps3
  go_upto_region 1 with fail
  generalize w.alloc (.cells #[.int .i64 T.lits, .slice fa T.foes.length fc, .slice ra T.rules.length rc, .slice ba T.beats.length bc] 25) = W at *
  obtain ⟨-, c0, c1, c2, c3⟩ := Bt.of hX
  clear hX
  have CT := hide (copyTheory_any HTA.out HS.out)
  go_wp2_with fail
  refine CT.out.mono ?_
  rintro _ w1 ⟨fa2, fc2, ra2, rc2, ba2, bc2, xs, ys, Z, rfl, htw, hw1⟩
  have HT1 := hide (tow_ta htw HS.out)
  have HW1 := hide hw1
  have CI := hide (copyInts_any (Ints.go hw1 HF.out) (Nat.le_refl _) HZ.out)
  clear htw hw1 c0 c1 c2 c3 CT
  go_wp2_with fail
  refine CI.out.mono ?_
  rintro _ w2 ⟨v, rfl, hv, hw2⟩
  obtain ⟨ya, yc, rfl⟩ := owns_slice hv
  have HI2 := hide (own_ints hv HZ.out)
  have HT2 := hide (TR.go hw2 HT1.out)
  have HW2 := hide (HW1.out.trans (hw2.mono HW1.out.size))
  clear hv hw2 CI HT1 HW1
  go_upto_region 2 with fail
  have hA := below_new w2 (.cells #[.int .i64 T.lits, .slice fa2 T.foes.length fc2, .slice ra2 T.rules.length rc2, .slice ba2 T.beats.length bc2] 25)
  have HK : Hid (Kp (w2.alloc (.cells #[.int .i64 T.lits, .slice fa2 T.foes.length fc2, .slice ra2 T.rules.length rc2, .slice ba2 T.beats.length bc2] 25)) w2.heap.size w.heap.size T F fa ra ba fa2 ra2 ba2 xa ya fc rc bc fc2 rc2 bc2 xc yc) := hide ⟨(hA.block _ (loc_lt ((HW2.out.block _ (loc_lt HX.out)).trans HX.out))).trans ((HW2.out.block _ (loc_lt HX.out)).trans HX.out), heap_alloc_new w2 (.cells #[.int .i64 T.lits, .slice fa2 T.foes.length fc2, .slice ra2 T.rules.length rc2, .slice ba2 T.beats.length bc2] 25), TR.go hA (TR.go HW2.out HTA.out), TR.go hA HT2.out, Ints.go hA (Ints.go HW2.out HF.out), Ints.go hA HI2.out⟩
  have HB3 := hide (HB.out.trans ((HW2.out.trans (hA.mono HW2.out.size)).mono HB.out.size))
  clear HI2 HT2 HW2 HTA HF HB HX HS HZ hA
  generalize w2.alloc (.cells #[.int .i64 T.lits, .slice fa2 T.foes.length fc2, .slice ra2 T.rules.length rc2, .slice ba2 T.beats.length bc2] 25) = W3 at *
  have hflen := HK.out.i1.lim
  obtain ⟨ce, cp, hab⟩ : ∃ a b, checkM T = (a, b) := ⟨_, _, rfl⟩
  have HAB := hide hab
  have C1 := hide (check_any HK.out.t2)
  rw [hab] at C1
  unfold dup at C1
  simp only at C1
  obtain ⟨-, c0, c1, c2, c3⟩ := Bt.of HK.out.b2
  go_upto_region 3 with (go_at_call 6; refine C1.out.mono ?_; rintro _ w4 ⟨rfl, hw4⟩; have HK4 := hide (HK.out.go hw4); have HB4 := hide (HB3.out.trans (hw4.mono HB3.out.size)); clear hw4)
  clear c0 c1 c2 c3 C1 HK HB3
  have C2 := hide (rcheck_any HK4.out.t1)
  rw [hab] at C2
  unfold dup at C2
  simp only at C2
  clear hab
  obtain ⟨-, c0, c1, c2, c3⟩ := Bt.of HK4.out.b1
  go_upto_region 4 with (go_at_call 7; refine C2.out.mono ?_; rintro _ w5 ⟨rfl, hw5⟩; have HK5 := hide (HK4.out.go hw5); have HB5 := hide (HB4.out.trans (hw5.mono HB4.out.size)); clear hw5)
  clear c0 c1 c2 c3 C2 HK4 HB4
  obtain ⟨en, hen⟩ : ∃ l, (if (checkM T).1 = 0 then encM T else []) = l := ⟨_, rfl⟩
  have henl : en.length ≤ 1000000000 := by
    rw [← hen]
    by_cases c : (checkM T).1 = 0
    · rw [if_pos c]; exact enc_len (check_ok c)
    · rw [if_neg c]; simp
  have hby : ∀ i : Nat, 0 ≤ en[i]?.getD 0 ∧ en[i]?.getD 0 ≤ 255 := by
    have hz : ∀ z ∈ en, 0 ≤ z ∧ z ≤ 255 := by
      rw [← hen]
      by_cases c : (checkM T).1 = 0
      · rw [if_pos c]; exact enc_byte c
      · rw [if_neg c]; simp
    intro i
    cases hx : en[i]? with
    | none => simp
    | some x => exact hz x (List.mem_of_getElem? hx)
  have HBY := hide hby
  clear hby
  have HCE : Hid ((checkM T).1 = ce) := hide (by rw [HAB.out])
  have C3 := hide (encode_any HK5.out.t2)
  unfold Encd at C3
  rw [hen, HCE.out] at C3
  obtain ⟨-, c0, c1, c2, c3⟩ := Bt.of HK5.out.b2
  go_upto_region 5 with (go_at_call 8; refine C3.out.mono ?_; rintro _ w6 ⟨⟨ea, ec, rfl, hown⟩, hw6⟩; have HE6 := hide (own_row' hown HBY.out).2.2.2.2; have HK6 := hide (HK5.out.go hw6); have HB6 := hide (HB5.out.trans (hw6.mono HB5.out.size)); clear hw6 hown)
  clear c0 c1 c2 c3 C3 HK5 HB5
  have C4 := hide (rEncode_any HK6.out.t1)
  unfold Encd at C4
  rw [hen, HCE.out] at C4
  clear hen
  obtain ⟨-, c0, c1, c2, c3⟩ := Bt.of HK6.out.b1
  go_upto_region 6 with (go_at_call 9; refine C4.out.mono ?_; rintro _ w7 ⟨⟨ga, gc, rfl, hown⟩, hw7⟩; have HG7 := hide (own_row' hown HBY.out).2.2.2.2; have HE7 := hide (HE6.out.below hw7 (Nat.le_refl _)); have HK7 := hide (HK6.out.go hw7); have HB7 := hide (HB6.out.trans (hw7.mono HB6.out.size)); clear hw7 hown)
  clear c0 c1 c2 c3 C4 HK6 HB6 HE6
  obtain ⟨rz, hrz⟩ : ∃ z : Int, (if risesM F T.lits then 0 else 181) = z := ⟨_, rfl⟩
  have CN := hide fun (X : World) (c : Int) => num_still X c
  have CSB := hide fun (X : World) (hX : Below w7.heap.size w7 X) => (show Calls Try.prog 11 #[.slice ea en.length ec, .slice ga en.length gc] X fun e w' => e = .returned (.bool true) ∧ Below X.heap.size X w' from by have hs := same_any ea ga en.length ec en.length gc en en X rfl rfl (by omega) (HE7.out.below hX (Nat.le_refl _)) (HG7.out.below hX (Nat.le_refl _)); rw [decide_eq_true rfl] at hs; exact hs)
  have CF1 := hide fun (X : World) (hX : Below w7.heap.size w7 X) => Go.Proofs.Ytinloodhmnjobaa.checkFacts_any (T := T) (fa := fa2) (ra := ra2) (ba := ba2) (fc := fc2) (rc := rc2) (bc := bc2) (Ints.go hX HK7.out.i2)
  have CF2 := hide fun (X : World) (hX : Below w7.heap.size w7 X) => Rf.checkFacts_any (T := T) (fa := fa) (ra := ra) (ba := ba) (fc := fc) (rc := rc) (bc := bc) (xc := xc) (HK7.out.i1.at1.below hX) hflen
  rw [hrz] at CF1 CF2
  have CST := hide fun (X : World) (hX : Below w7.heap.size w7 X) => sameTh_yes (TR.go hX HK7.out.t2) (TR.go hX HK7.out.t1)
  have CSI := hide fun (X : World) (hX : Below w7.heap.size w7 X) => sameInts_yes (c := yc) (d := xc) (HK7.out.i2.at1.below hX) (HK7.out.i1.at1.below hX) hflen
  have CW := hide fun (X : World) => works_any X
  obtain ⟨-, c0, c1, c2, c3⟩ := Bt.of HK7.out.b1
  obtain ⟨-, e0, e1, e2, e3⟩ := Bt.of HK7.out.b2
  have hcc : (ce == ce) = true := by simp
  have hpp : (cp == cp) = true := by simp
  have hzz : (rz == rz) = true := by simp
  have HT : S8 w7 ⟨w.heap.size, 0, none⟩ ⟨w.heap.size, 1, none⟩ ⟨w.heap.size, 2, none⟩ ⟨w.heap.size, 3, none⟩ ⟨w2.heap.size, 0, none⟩ ⟨w2.heap.size, 1, none⟩ ⟨w2.heap.size, 2, none⟩ ⟨w2.heap.size, 3, none⟩ (.int .i64 T.lits) (.slice fa T.foes.length fc) (.slice ra T.rules.length rc) (.slice ba T.beats.length bc) (.int .i64 T.lits) (.slice fa2 T.foes.length fc2) (.slice ra2 T.rules.length rc2) (.slice ba2 T.beats.length bc2) w7 := ⟨c0, c1, c2, c3, e0, e1, e2, e3, Below.refl _ _⟩
  clear HG7 HE7 HK7 hrz hflen henl HCE HAB c0 c1 c2 c3 e0 e1 e2 e3
  go_region_held3 (fun X : World => S8 w7 ⟨w.heap.size, 0, none⟩ ⟨w.heap.size, 1, none⟩ ⟨w.heap.size, 2, none⟩ ⟨w.heap.size, 3, none⟩ ⟨w2.heap.size, 0, none⟩ ⟨w2.heap.size, 1, none⟩ ⟨w2.heap.size, 2, none⟩ ⟨w2.heap.size, 3, none⟩ (.int .i64 T.lits) (.slice fa T.foes.length fc) (.slice ra T.rules.length rc) (.slice ba T.beats.length bc) (.int .i64 T.lits) (.slice fa2 T.foes.length fc2) (.slice ra2 T.rules.length rc2) (.slice ba2 T.beats.length bc2) X) (first | exact S8.drew ‹_› | assumption | exact S8.below ‹_› ‹_›) (first | (go_at_call 10; refine (CN.out _ _).mono ?_; rintro e w' ⟨rfl, rfl⟩) | (go_at_call 11; refine (CSB.out _ (S8.b ‹_›)).mono ?_; rintro e w' ⟨rfl, hb⟩) | (go_at_call 12; refine (CF1.out _ (S8.b ‹_›)).mono ?_; rintro e w' ⟨rfl, hb⟩) | (go_at_call 13; refine (CF2.out _ (S8.b ‹_›)).mono ?_; rintro e w' ⟨rfl, hb⟩) | (go_at_call 14; refine (CST.out _ (S8.b ‹_›)).mono ?_; rintro e w' ⟨rfl, hb⟩) | (go_at_call 15; refine (CSI.out _ (S8.b ‹_›)).mono ?_; rintro e w' ⟨rfl, hb⟩) | (go_at_call 16; refine (CW.out _).mono ?_; rintro e w' ⟨rfl, hb⟩))
  all_goals (go_wp2_with fail; go_ret; exact ⟨rfl, HB7.out.trans ((S8.b ‹_›).mono HB7.out.size)⟩)
end Go.Proofs.Ytinloodhmnjobaa.Rf
