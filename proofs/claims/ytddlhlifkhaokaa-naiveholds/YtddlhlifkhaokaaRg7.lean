/- The document's answer, layer 15: given. -/
import Derived.Test.YtddlhlifkhaokaaRg3
import Derived.Test.YtddlhlifkhaokaaRg6
import Derived.Test.YtddlhlifkhaokaaRf7
namespace Go.Proofs.Ytddlhlifkhaokaa.Rf
open Go.RowKit

section
variable {w : World} {T : Th} {F : List Int} {fa ra ba xa : Option Addr} {fc rc bc xc : Nat}
set_option maxRecDepth 100000 in
set_option maxHeartbeats 6400000 in
theorem given_any (h : TA w.heap.size w T fa fc ra rc ba bc) (hF : Ints w.heap.size w F (.slice xa F.length xc)) :
    Calls Try.prog 11 #[tv T fa fc ra rc ba bc, .slice xa F.length xc] w fun e w' => e = .returned (.int .i64 (faultM T F)) ∧ Below w.heap.size w w' := by
  have hB := below_new w (.cells #[.int .i64 T.lits, .slice fa T.foes.length fc, .slice ra T.rules.length rc, .slice ba T.beats.length bc] 25)
  have hX := heap_alloc_new w (.cells #[.int .i64 T.lits, .slice fa T.foes.length fc, .slice ra T.rules.length rc, .slice ba T.beats.length bc] 25)
  have CC := hide (rcheck_any (TR.go hB h))
  have HF := hide (hF.at1.below hB)
  have hfl := hF.lim
  have HB := hide hB
  obtain ⟨z, hz⟩ : ∃ z, faultM T F = z := ⟨_, rfl⟩
  rw [hz]
  unfold faultM at hz
  have HZ := hide hz
  obtain ⟨c, d, hcd⟩ : ∃ c d, checkM T = (c, d) := ⟨_, _, rfl⟩
  rw [hcd] at CC HZ
  unfold dup at CC
  simp only at CC HZ
  clear h hF hB hz hcd
  go_enter Try.func11, Try.ntmps11
  go_upto_region 1 with fail
  generalize w.alloc (.cells #[.int .i64 T.lits, .slice fa T.foes.length fc, .slice ra T.rules.length rc, .slice ba T.beats.length bc] 25) = W at *
  obtain ⟨-, c0, c1, c2, c3⟩ := Bt.of hX
  have HX := hide hX
  clear hX
  by_cases hc : c = 0
  · subst hc
    go_upto_region 4 with (go_at_call 20; refine CC.out.mono ?_; rintro _ w1 ⟨rfl, hw1⟩; have HW1 := hide hw1; clear hw1)
    clear c0 c1 c2 c3 CC
    obtain ⟨-, c0, c1, c2, c3⟩ := Bt.of ((HW1.out.block _ (loc_lt HX.out)).trans HX.out)
    have CF := hide (checkFacts_any (T := T) (fa := fa) (ra := ra) (ba := ba) (fc := fc) (rc := rc) (bc := bc) (xc := xc) (HF.out.below HW1.out) hfl)
    have HE : Hid ((if risesM F T.lits then (0 : Int) else 181) = z) := hide (by rw [← HZ.out]; rfl)
    rw [HE.out] at CF
    clear HZ HE
    go_wp2_with (go_at_call 21; refine CF.out.mono ?_; rintro _ w2 ⟨rfl, hw2⟩; have HW2 := hide (HB.out.trans ((HW1.out.trans (hw2.mono HW1.out.size)).mono HB.out.size)); clear hw2)
    go_ret
    exact ⟨rfl, HW2.out⟩
  · have HE : Hid (c = z) := hide (by rw [← HZ.out, if_pos hc])
    have hcb : (c != 0) = true := by simpa using hc
    clear HZ
    go_wp2_with (go_at_call 20; refine CC.out.mono ?_; rintro _ w1 ⟨rfl, hw1⟩; have HW1 := hide (HB.out.trans (hw1.mono HB.out.size)); clear hw1)
    go_ret
    exact ⟨rf_int HE.out, HW1.out⟩

end
end Go.Proofs.Ytddlhlifkhaokaa.Rf
