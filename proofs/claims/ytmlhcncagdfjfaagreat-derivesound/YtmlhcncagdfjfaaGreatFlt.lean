import Derived.Test.YtmlhcncagdfjfaaGreatNkn
set_option maxRecDepth 100000
set_option maxHeartbeats 3200000
namespace Go.Proofs.YtmlhcncagdfjfaaGreat
open Go.RowKit
section
variable {w : World} {T : Th} {F : List Int} {fa ra ba ea : Option Addr} {fc rc bc ec : Nat}
theorem fe (hF : Ints w.heap.size w F (.slice ea F.length ec)) :
    Calls Tryz.prog 62 #[tv T fa fc ra rc ba bc, .slice ea F.length ec] w fun e w' => e = .returned (.int .i64 (if bP F T.lits then 0 else 181)) ∧ Below w.heap.size w w' := by
 have hB := ae w (.cells #[.int .i64 T.lits, .slice fa T.foes.length fc, .slice ra T.rules.length rc, .slice ba T.beats.length bc] 25)
 have hX := heap_alloc_new w (.cells #[.int .i64 T.lits, .slice fa T.foes.length fc, .slice ra T.rules.length rc, .slice ba T.beats.length bc] 25)
 have HF := hide (Ints.go hB hF)
 have hl := hF.lim
 obtain ⟨b, hb⟩ : ∃ b, bP F T.lits = b := ⟨_, rfl⟩
 have CR := hide (fN (c := ec) HF.out.at1 hl T.lits)
 rw [hb] at CR ⊢
 have HB := hide hB
 clear hB hF hb
 go_enter Tryz.func62, Tryz.ntmps62
 go_upto_region 1 with fail
 generalize w.alloc (.cells #[.int .i64 T.lits, .slice fa T.foes.length fc, .slice ra T.rules.length rc, .slice ba T.beats.length bc] 25) = W at *
 obtain ⟨-, c0, c1, c2, c3⟩ := Bt.of hX
 clear hX
 cases b with
 | true =>
  go_wp2_with (go_at_call 101; refine CR.out.mono ?_; rintro _ w2 ⟨rfl, rfl⟩)
  go_ret
  exact ⟨rfl, HB.out⟩
 | false =>
  go_wp2_with (go_at_call 101; refine CR.out.mono ?_; rintro _ w2 ⟨rfl, rfl⟩)
  go_ret
  exact ⟨rfl, HB.out⟩
theorem kC (h : TA w.heap.size w T fa fc ra rc ba bc) (hF : Ints w.heap.size w F (.slice ea F.length ec)) :
    Calls Tryz.prog 59 #[tv T fa fc ra rc ba bc, .slice ea F.length ec] w fun e w' => e = .returned (.int .i64 (aX T F)) ∧ Below w.heap.size w w' := by
 have hB := ae w (.cells #[.int .i64 T.lits, .slice fa T.foes.length fc, .slice ra T.rules.length rc, .slice ba T.beats.length bc] 25)
 have hX := heap_alloc_new w (.cells #[.int .i64 T.lits, .slice fa T.foes.length fc, .slice ra T.rules.length rc, .slice ba T.beats.length bc] 25)
 have HF := hide (Ints.go hB hF)
 have hL := TR.go hB h
 have CC := hide (check_any hL)
 have HB := hide hB
 have HX := hide hX
 obtain ⟨e0, p0, Ac⟩ : ∃ a b, cO T = (a, b) := ⟨_, _, rfl⟩
 rw [Ac] at CC
 unfold iN at CC
 simp only at CC
 have HE : Hid ((cO T).1 = e0) := hide (by rw [Ac])
 clear h hB hL Ac hF
 go_enter Tryz.func59, Tryz.ntmps59
 go_upto_region 1 with fail
 generalize w.alloc (.cells #[.int .i64 T.lits, .slice fa T.foes.length fc, .slice ra T.rules.length rc, .slice ba T.beats.length bc] 25) = W at *
 obtain ⟨-, c0, c1, c2, c3⟩ := Bt.of hX
 clear hX
 by_cases ha : e0 = 0
 ·subst ha
  go_upto_region 4 with (go_at_call 38; refine CC.out.mono ?_; rintro _ w1 ⟨rfl, Aa⟩; have Ab := hide (HB.out.trans (Aa.mono HB.out.size)); have Ag := hide (Ints.go Aa HF.out); have Af := hide ((Aa.block _ (aD HX.out)).trans HX.out); clear Aa)
  clear c0 c1 c2 c3 CC HB HX HF
  obtain ⟨-, c0, c1, c2, c3⟩ := Bt.of Af.out
  have CF := hide (fe (T := T) (fa := fa) (fc := fc) (ra := ra) (rc := rc) (ba := ba) (bc := bc) Ag.out)
  obtain ⟨v, hv⟩ : ∃ v, (if bP F T.lits then (0 : Int) else 181) = v := ⟨_, rfl⟩
  have HV := hide hv
  rw [hv] at CF
  clear hv
  go_wp2_with (go_at_call 62; refine CF.out.mono ?_; rintro _ w2 ⟨rfl, Ad⟩; have Ae := hide (Ab.out.trans (Ad.mono Ab.out.size)); clear Ad)
  go_ret
  refine ⟨?_, Ae.out⟩
  unfold aX
  rw [HE.out, if_neg (by decide), HV.out]
  rfl
 have Ai : (e0 != 0) = true := by simpa using ha
 have Ah : Hid (aX T F = e0) := hide (by unfold aX; rw [HE.out, if_pos ha])
 go_wp2_with (go_at_call 38; refine CC.out.mono ?_; rintro _ w1 ⟨rfl, Aa⟩; have Ab := hide (HB.out.trans (Aa.mono HB.out.size)); clear Aa)
 go_ret
 exact ⟨by rw [Ah.out]; rfl, Ab.out⟩
def ES (T : Th) (F l : List Int) (w : World) (e : Ending) (w' : World) : Prop :=
 (aX T F ≠ 0 ∧ e = .returned (.tuple #[.slice none 0 0, .int .i64 (aX T F)])) ∨
 (aX T F = 0 ∧ ∃ xa xc, e = .returned (.tuple #[.slice xa l.length xc, .int .i64 0]) ∧ w'.ownsRow w.heap.size 3 1 (.slice xa l.length xc) l.length (aq l))
def D7 (sg : List Int) (i : Int) (k : Nat) : List Int := ((List.range k).filter fun q => decide (sg.getD q 0 = i)).map Int.ofNat
end
end Go.Proofs.YtmlhcncagdfjfaaGreat
