import Derived.Test.YtmlhcncagdfjfaaGreatSok
import Derived.Test.YtmlhcncagdfjfaaGreatDrT
set_option maxRecDepth 100000
set_option maxHeartbeats 3200000
namespace Go.Proofs.YtmlhcncagdfjfaaGreat.Fa
open Go.RowKit
section
variable {w : World} {T : Th} {F : List Int} {fa ra ba ea : Option Addr} {fc rc bc ec : Nat}
theorem fe (hF : Ints w.heap.size w F (.slice ea F.length ec)) :
    Calls Tryz.prog 62 #[tv T fa fc ra rc ba bc, .slice ea F.length ec] w fun e w' => e = .returned (.int .i64 (if bP F T.lits then 0 else 181)) ∧ Below w.heap.size w w' := by
 have hB := ae w (.cells #[.int .i64 T.lits, .slice fa T.foes.length fc, .slice ra T.rules.length rc, .slice ba T.beats.length bc] 25)
 have hX := heap_alloc_new w (.cells #[.int .i64 T.lits, .slice fa T.foes.length fc, .slice ra T.rules.length rc, .slice ba T.beats.length bc] 25)
 have HF := hide (Ints.go hB hF)
 have hl := hF.lim
 obtain ⟨b, hb⟩ : ∃ b, bP F T.lits = b := ⟨_, rfl⟩
 have CR := hide (fN (c := ec) HF.out.at1 hl T.lits)
 rw [hb] at CR ⊢
 have HB := hide hB
 clear hB hF hb
 go_enter Tryz.func62, Tryz.ntmps62
 go_upto_region 1 with fail
 generalize w.alloc (.cells #[.int .i64 T.lits, .slice fa T.foes.length fc, .slice ra T.rules.length rc, .slice ba T.beats.length bc] 25) = W at *
 obtain ⟨-, c0, c1, c2, c3⟩ := Bt.of hX
 clear hX
 cases b with
 | true =>
  go_wp2_with (go_at_call 101; refine CR.out.mono ?_; rintro _ w2 ⟨rfl, rfl⟩)
  go_ret
  exact ⟨rfl, HB.out⟩
 | false =>
  go_wp2_with (go_at_call 101; refine CR.out.mono ?_; rintro _ w2 ⟨rfl, rfl⟩)
  go_ret
  exact ⟨rfl, HB.out⟩
theorem kC (h : TA w.heap.size w T fa fc ra rc ba bc) (hF : Ints w.heap.size w F (.slice ea F.length ec)) :
    Calls Tryz.prog 130 #[tv T fa fc ra rc ba bc, .slice ea F.length ec] w fun e w' => e = .returned (.int .i64 (aX T F)) ∧ Below w.heap.size w w' := by
 have hB := ae w (.cells #[.int .i64 T.lits, .slice fa T.foes.length fc, .slice ra T.rules.length rc, .slice ba T.beats.length bc] 25)
 have hX := heap_alloc_new w (.cells #[.int .i64 T.lits, .slice fa T.foes.length fc, .slice ra T.rules.length rc, .slice ba T.beats.length bc] 25)
 have HF := hide (Ints.go hB hF)
 have hL := TR.go hB h
 have CC := hide (check_any hL)
 have HB := hide hB
 have HX := hide hX
 obtain ⟨e0, p0, Ac⟩ : ∃ a b, cO T = (a, b) := ⟨_, _, rfl⟩
 rw [Ac] at CC
 unfold iN at CC
 simp only at CC
 have HE : Hid ((cO T).1 = e0) := hide (by rw [Ac])
 clear h hB hL Ac hF
 go_enter Tryz.func130, Tryz.ntmps130
 go_upto_region 1 with fail
 generalize w.alloc (.cells #[.int .i64 T.lits, .slice fa T.foes.length fc, .slice ra T.rules.length rc, .slice ba T.beats.length bc] 25) = W at *
 obtain ⟨-, c0, c1, c2, c3⟩ := Bt.of hX
 clear hX
 by_cases ha : e0 = 0
 ·subst ha
  go_upto_region 4 with (go_at_call 38; refine CC.out.mono ?_; rintro _ w1 ⟨rfl, Aa⟩; have Ab := hide (HB.out.trans (Aa.mono HB.out.size)); have Ag := hide (Ints.go Aa HF.out); have Af := hide ((Aa.block _ (aD HX.out)).trans HX.out); clear Aa)
  clear c0 c1 c2 c3 CC HB HX HF
  obtain ⟨-, c0, c1, c2, c3⟩ := Bt.of Af.out
  have CF := hide (fe (T := T) (fa := fa) (fc := fc) (ra := ra) (rc := rc) (ba := ba) (bc := bc) Ag.out)
  obtain ⟨v, hv⟩ : ∃ v, (if bP F T.lits then (0 : Int) else 181) = v := ⟨_, rfl⟩
  have HV := hide hv
  rw [hv] at CF
  clear hv
  go_wp2_with (go_at_call 62; refine CF.out.mono ?_; rintro _ w2 ⟨rfl, Ad⟩; have Ae := hide (Ab.out.trans (Ad.mono Ab.out.size)); clear Ad)
  go_ret
  refine ⟨?_, Ae.out⟩
  unfold aX
  rw [HE.out, if_neg (by decide), HV.out]
  rfl
 have Ai : (e0 != 0) = true := by simpa using ha
 have Ah : Hid (aX T F = e0) := hide (by unfold aX; rw [HE.out, if_pos ha])
 go_wp2_with (go_at_call 38; refine CC.out.mono ?_; rintro _ w1 ⟨rfl, Aa⟩; have Ab := hide (HB.out.trans (Aa.mono HB.out.size)); clear Aa)
 go_ret
 exact ⟨by rw [Ah.out]; rfl, Ab.out⟩
end
end Go.Proofs.YtmlhcncagdfjfaaGreat.Fa
set_option maxRecDepth 100000
set_option maxHeartbeats 6400000
namespace Go.Proofs.YtmlhcncagdfjfaaGreat.De
open Go.RowKit Fa
section
variable {w : World} {T : Th} {F : List Int} {fa ra ba ea : Option Addr} {fc rc bc ec : Nat}
theorem ke (h : TA w.heap.size w T fa fc ra rc ba bc) (hF : Ints w.heap.size w F (.slice ea F.length ec)) :
    Calls Tryz.prog 31 #[tv T fa fc ra rc ba bc, .slice ea F.length ec] w fun e w' => e = .returned (.int .i64 (aX T F)) ∧ Below w.heap.size w w' := by
 have hB := ae w (.cells #[.int .i64 T.lits, .slice fa T.foes.length fc, .slice ra T.rules.length rc, .slice ba T.beats.length bc] 25)
 have hX := heap_alloc_new w (.cells #[.int .i64 T.lits, .slice fa T.foes.length fc, .slice ra T.rules.length rc, .slice ba T.beats.length bc] 25)
 have HF := hide (Ints.go hB hF)
 have hL := TR.go hB h
 have CC := hide (YtmlhcncagdfjfaaGreat.check_any hL)
 have HB := hide hB
 have HX := hide hX
 obtain ⟨e0, p0, Ac⟩ : ∃ a b, cO T = (a, b) := ⟨_, _, rfl⟩
 rw [Ac] at CC
 unfold iN at CC
 simp only at CC
 have HE : Hid ((cO T).1 = e0) := hide (by rw [Ac])
 clear h hB hL Ac hF
 go_enter Tryz.func31, Tryz.ntmps31
 go_upto_region 1 with fail
 generalize w.alloc (.cells #[.int .i64 T.lits, .slice fa T.foes.length fc, .slice ra T.rules.length rc, .slice ba T.beats.length bc] 25) = W at *
 obtain ⟨-, c0, c1, c2, c3⟩ := Bt.of hX
 clear hX
 by_cases ha : e0 = 0
 ·subst ha
  go_upto_region 4 with (go_at_call 38; refine CC.out.mono ?_; rintro _ w1 ⟨rfl, Aa⟩; have Ab := hide (HB.out.trans (Aa.mono HB.out.size)); have Ag := hide (Ints.go Aa HF.out); have Af := hide ((Aa.block _ (aD HX.out)).trans HX.out); clear Aa)
  clear c0 c1 c2 c3 CC HB HX HF
  obtain ⟨-, c0, c1, c2, c3⟩ := Bt.of Af.out
  have CF := hide (fe (T := T) (fa := fa) (fc := fc) (ra := ra) (rc := rc) (ba := ba) (bc := bc) Ag.out)
  obtain ⟨v, hv⟩ : ∃ v, (if bP F T.lits then (0 : Int) else 181) = v := ⟨_, rfl⟩
  have HV := hide hv
  rw [hv] at CF
  clear hv
  go_wp2_with (go_at_call 62; refine CF.out.mono ?_; rintro _ w2 ⟨rfl, Ad⟩; have Ae := hide (Ab.out.trans (Ad.mono Ab.out.size)); clear Ad)
  go_ret
  refine ⟨?_, Ae.out⟩
  unfold aX
  rw [HE.out, if_neg (by decide), HV.out]
  rfl
 have Ai : (e0 != 0) = true := by simpa using ha
 have Ah : Hid (aX T F = e0) := hide (by unfold aX; rw [HE.out, if_pos ha])
 go_wp2_with (go_at_call 38; refine CC.out.mono ?_; rintro _ w1 ⟨rfl, Aa⟩; have Ab := hide (HB.out.trans (Aa.mono HB.out.size)); clear Aa)
 go_ret
 exact ⟨by rw [Ah.out]; rfl, Ab.out⟩
theorem tN (h : TA w.heap.size w T fa fc ra rc ba bc) (hF : Ints w.heap.size w F (.slice ea F.length ec)) (hne : aX T F ≠ 0) (lv : Value) :
    Calls Tryz.prog 23 #[tv T fa fc ra rc ba bc, .slice ea F.length ec, lv] w fun e w' => e = .returned (.tuple #[.int .i64 (aX T F), .int .i64 0]) ∧ Below w.heap.size w w' := by
 have hB := ae w (.cells #[.int .i64 T.lits, .slice fa T.foes.length fc, .slice ra T.rules.length rc, .slice ba T.beats.length bc] 25)
 have hX := heap_alloc_new w (.cells #[.int .i64 T.lits, .slice fa T.foes.length fc, .slice ra T.rules.length rc, .slice ba T.beats.length bc] 25)
 have CF := hide (ke (TR.go hB h) (Ints.go hB hF))
 have HB := hide hB
 have Ac : (aX T F != 0) = true := by simpa using hne
 clear h hF hB hne
 go_enter Tryz.func23, Tryz.ntmps23
 go_upto_region 1 with fail
 generalize w.alloc (.cells #[.int .i64 T.lits, .slice fa T.foes.length fc, .slice ra T.rules.length rc, .slice ba T.beats.length bc] 25) = W at *
 obtain ⟨-, c0, c1, c2, c3⟩ := Bt.of hX
 clear hX
 go_wp2_with (go_at_call 31; refine CF.out.mono ?_; rintro _ w1 ⟨rfl, Aa⟩; have Ab := hide (HB.out.trans (Aa.mono HB.out.size)); clear Aa)
 go_ret2
 exact ⟨rfl, Ab.out⟩
theorem mu (h : TA w.heap.size w T fa fc ra rc ba bc) (hF : Ints w.heap.size w F (.slice ea F.length ec)) (h0 : aX T F = 0) {l : List StM} {la : Option Addr} {lc : Nat} (hl : Sts w.heap.size w l la) :
    Calls Tryz.prog 23 #[tv T fa fc ra rc ba bc, .slice ea F.length ec, .slice la l.length lc] w fun e w' => e = .returned (.tuple #[.int .i64 (chkM T F T.lits.toNat (fun _ => 0) l).1, .int .i64 (chkM T F T.lits.toNat (fun _ => 0) l).2]) ∧ Below w.heap.size w w' := by
 have hB := ae w (.cells #[.int .i64 T.lits, .slice fa T.foes.length fc, .slice ra T.rules.length rc, .slice ba T.beats.length bc] 25)
 have hX := heap_alloc_new w (.cells #[.int .i64 T.lits, .slice fa T.foes.length fc, .slice ra T.rules.length rc, .slice ba T.beats.length bc] 25)
 have CF := hide (ke (TR.go hB h) (Ints.go hB hF))
 rw [h0] at CF
 have hp := nt h0
 have Al : w.heap.size ≤ (w.alloc (.cells #[.int .i64 T.lits, .slice fa T.foes.length fc, .slice ra T.rules.length rc, .slice ba T.beats.length bc] 25)).heap.size := hB.size
 have CN : Hid (∀ X, Below w.heap.size w X → w.heap.size ≤ X.heap.size → Calls Tryz.prog 32 #[tv T fa fc ra rc ba bc, .slice ea F.length ec] X fun e w' => ∃ (pq : Nat), e = .returned (aa pq) ∧ Below w.heap.size w w' ∧ Calls Tryz.prog 55 #[aa pq, .slice la l.length lc] w' fun e w2 => e = .returned (.tuple #[.int .i64 (chkM T F T.lits.toNat (fun _ => 0) l).1, .int .i64 (chkM T F T.lits.toNat (fun _ => 0) l).2]) ∧ Below w.heap.size w' w2) := hide fun X hX hs => by
  refine (kY (TR.go hX h) (Ints.go hX hF) hp).mono ?_
  rintro e w' ⟨S, q, g0, g1, g2, mb, fm, sd, pq, rfl, hx, Am, ⟨n1, n2, n3⟩, ⟨m1, m2, m3, m4⟩, hb⟩
  refine ⟨pq, rfl, hX.trans (hb.mono hs), ?_⟩
  have Ak : Sts X.heap.size w' l la := by
   intro i s hi
   have := (hl.keep (w' := w') fun g hg => (hb.block g (by omega)).trans (hX.block g hg)) i s hi
   obtain ⟨g, o, ca, cc, e, hg, c0, c1, c2, c3, c4, Ah, hc, i1, i2⟩ := this
   exact ⟨g, o, ca, cc, e, by omega, c0, c1, c2, c3, c4, Ah, fun j x hj => by
    obtain ⟨g', o', e', hg', d0, d1⟩ := hc j x hj
    exact ⟨g', o', e', by omega, d0, d1⟩, i1, i2⟩
  refine (check_any (sk hp).1 hx Am n1 m1 Ak (c := lc)).mono ?_
  rintro e2 w2 ⟨rfl, Ag, -⟩
  exact ⟨rfl, Ag.below fun k hk => ⟨by have := hb.size; omega, fun e => by omega⟩⟩
 have HB := hide hB
 have HX := hide hX
 clear h hF hB hp h0 hl Al
 generalize chkM T F T.lits.toNat (fun _ => 0) l = o at *
 go_enter Tryz.func23, Tryz.ntmps23
 go_upto_region 1 with fail
 generalize w.alloc (.cells #[.int .i64 T.lits, .slice fa T.foes.length fc, .slice ra T.rules.length rc, .slice ba T.beats.length bc] 25) = W at *
 obtain ⟨-, c0, c1, c2, c3⟩ := Bt.of hX
 clear hX
 go_upto_region 4 with (go_at_call 31; refine CF.out.mono ?_; rintro _ w1 ⟨rfl, Aa⟩; have Ac := hide (HB.out.trans (Aa.mono HB.out.size)); have Aj := hide ((Aa.block _ (aD HX.out)).trans HX.out); clear Aa)
 clear c0 c1 c2 c3 CF
 obtain ⟨-, c0, c1, c2, c3⟩ := Bt.of Aj.out
 have CM := hide (CN.out w1 Ac.out Ac.out.size)
 go_wp2_with (first | (go_at_call 32; refine CM.out.mono ?_; rintro _ w2 ⟨pq, rfl, Ae, Ab⟩; have Ai := hide Ae; have CP := hide Ab; clear Ae Ab) | (go_at_call 55; refine CP.out.mono ?_; rintro _ w3 ⟨rfl, Ad⟩; have Af := hide (Ai.out.trans (Ad.mono (Nat.le_refl _))); clear Ad))
 go_ret2
 exact ⟨rfl, Af.out⟩
end
end Go.Proofs.YtmlhcncagdfjfaaGreat.De
