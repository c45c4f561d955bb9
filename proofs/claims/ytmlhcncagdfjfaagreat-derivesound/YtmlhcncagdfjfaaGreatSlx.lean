import Derived.Test.YtmlhcncagdfjfaaGreatSlv
set_option maxRecDepth 100000
set_option maxHeartbeats 3200000
namespace Go.Proofs.YtmlhcncagdfjfaaGreat
open Go.RowKit
section
variable {w : World} {T : Th} {F : List Int} {fa ra ba ea : Option Addr} {fc rc bc ec : Nat}
theorem vv (h : TA w.heap.size w T fa fc ra rc ba bc) (hF : Ints w.heap.size w F (.slice ea F.length ec)) (h0 : aX T F = 0) :
    Calls Tryz.prog 27 #[tv T fa fc ra rc ba bc, .slice ea F.length ec] w fun e w' => ∃ v m i, e = .returned (.tuple #[v, .int .i64 0]) ∧ pA T F m i ∧ w'.ownsRow w.heap.size 67 1 v T.lits.toNat (dJ m) ∧ Below w.heap.size w w' := by
 have hB := ae w (.cells #[.int .i64 T.lits, .slice fa T.foes.length fc, .slice ra T.rules.length rc, .slice ba T.beats.length bc] 25)
 have hX := heap_alloc_new w (.cells #[.int .i64 T.lits, .slice fa T.foes.length fc, .slice ra T.rules.length rc, .slice ba T.beats.length bc] 25)
 have CF := hide (kC (TR.go hB h) (Ints.go hB hF))
 rw [h0] at CF
 have HP := hide (nt h0)
 have Ad := hide (TR.go hB h)
 have HF := hide (Ints.go hB hF)
 have HB := hide hB
 have HX := hide hX
 clear h hB hF h0
 go_enter Tryz.func27, Tryz.ntmps27
 go_upto_region 1 with fail
 generalize w.alloc (.cells #[.int .i64 T.lits, .slice fa T.foes.length fc, .slice ra T.rules.length rc, .slice ba T.beats.length bc] 25) = W at *
 obtain ⟨-, c0, c1, c2, c3⟩ := Bt.of hX
 clear hX
 go_upto_region 4 with (go_at_call 59; refine CF.out.mono ?_; rintro _ w1 ⟨rfl, Af⟩; have Aa := hide Af; clear Af)
 have Ag := hide ((Aa.out.block _ (aD HX.out)).trans HX.out)
 have CS := hide (ut (TR.go Aa.out Ad.out) (Ints.go Aa.out HF.out) HP.out)
 have Ab := hide (HB.out.trans (Aa.out.mono HB.out.size))
 clear c0 c1 c2 c3 CF HX Ad HF HB Aa
 obtain ⟨-, c0, c1, c2, c3⟩ := Bt.of Ag.out
 go_wp2_with (go_at_call 60; refine CS.out.mono ?_; rintro _ w2 ⟨v, m, i, rfl, hs, Ac, Ae⟩; have HS := hide hs; have HO := hide Ac; have Ah := hide Ae; clear hs Ac Ae)
 go_ret2
 exact ⟨v, m, i, rfl, HS.out, aI HO.out Ab.out.size, Ab.out.trans (Ah.out.mono Ab.out.size)⟩
end
end Go.Proofs.YtmlhcncagdfjfaaGreat
