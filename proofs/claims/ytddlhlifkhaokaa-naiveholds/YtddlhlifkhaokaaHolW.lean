/- NaiveHolds, walked. -/
import Derived.Test.YtddlhlifkhaokaaHolR
namespace Go.Proofs.Ytddlhlifkhaokaa.Rf
open Go.RowKit

theorem num_st (w : World) (e : Int) : Calls Try.prog 6 #[.int .i64 e] w fun r w' => r = .returned (.int .i64 e) ∧ w' = w := by
  go_enter Try.func6, Try.ntmps6
  go_wp2_with fail
  go_ret
  exact ⟨rfl, rfl⟩
set_option maxRecDepth 100000 in
set_option maxHeartbeats 6400000 in
theorem nholds_law {w : World} {T : Th} {F m : List Int} {fa ra ba xa ma : Option Addr} {fc rc bc xc mc : Nat} {t q : Int} (h : TA w.heap.size w T fa fc ra rc ba bc) (hF : Ints w.heap.size w F (.slice xa F.length xc)) (hm : At1 w ma (u8s m)) :
    Calls Try.prog 3 #[tv T fa fc ra rc ba bc, .slice xa F.length xc, .slice ma m.length mc, .int .i64 t, .int .i64 q] w fun e w' => e = .returned (.bool true) ∧ Below w.heap.size w w' := by
  have hB := below_new w (.cells #[.int .i64 T.lits, .slice fa T.foes.length fc, .slice ra T.rules.length rc, .slice ba T.beats.length bc] 25)
  have hX := heap_alloc_new w (.cells #[.int .i64 T.lits, .slice fa T.foes.length fc, .slice ra T.rules.length rc, .slice ba T.beats.length bc] 25)
  have HTA := hide (TR.go hB h)
  have HF := hide (Ints.go hB hF)
  have HM := hide (hm.below hB)
  have HB := hide hB
  have HX := hide hX
  have C1 := hide (Holds_any (mc := mc) (t := t) (q := q) HTA.out HF.out HM.out)
  obtain ⟨bv, hbv⟩ : ∃ b, holV T F m t q = b := ⟨_, rfl⟩
  obtain ⟨be, hbe⟩ : ∃ b, holE T F m t q = b := ⟨_, rfl⟩
  rw [hbv, hbe] at C1
  have HV := hide hbv
  have HE := hide hbe
  clear h hB hF hm hbv hbe
  go_enter Try.func3, Try.ntmps3
  go_upto_region 1 with fail
  generalize w.alloc (.cells #[.int .i64 T.lits, .slice fa T.foes.length fc, .slice ra T.rules.length rc, .slice ba T.beats.length bc] 25) = W at *
  obtain ⟨-, c0, c1, c2, c3⟩ := Bt.of hX
  clear hX
  go_upto_region 2 with (go_at_call 4; refine C1.out.mono ?_; rintro _ w1 ⟨rfl, hw1⟩; have HW1 := hide hw1; clear hw1)
  have C2 := hide (rHolds_any (mc := mc) (t := t) (q := q) (TR.go HW1.out HTA.out) (Ints.go HW1.out HF.out) (HM.out.below HW1.out))
  rw [HV.out, HE.out] at C2
  clear c0 c1 c2 c3 C1
  obtain ⟨-, c0, c1, c2, c3⟩ := Bt.of ((HW1.out.block _ (loc_lt HX.out)).trans HX.out)
  have HB1 := hide (HB.out.trans (HW1.out.mono HB.out.size))
  clear HTA HF HM HX HB HW1 HV HE
  go_upto_region 3 with (go_at_call 5; refine C2.out.mono ?_; rintro _ w2 ⟨rfl, hw2⟩; have HB2 := hide (HB1.out.trans (hw2.mono HB1.out.size)); clear hw2)
  have CN := hide (num_st w2 be)
  have CA := hide (alive_any (w := w2))
  have hbb : (bv == bv) = true := by simp
  have hee : (be == be) = true := by simp
  clear c0 c1 c2 c3 C2
  go_wp2_with fail
  refine CN.out.mono ?_
  rintro _ w3 ⟨rfl, hw⟩
  subst w3
  go_wp2_with fail
  refine CA.out.mono ?_
  rintro _ w3 ⟨rfl, hw3⟩
  have HB3 := hide (HB2.out.trans (hw3.mono HB2.out.size))
  clear hw3
  go_wp2_with fail
  go_ret
  exact ⟨rfl, HB3.out⟩
end Go.Proofs.Ytddlhlifkhaokaa.Rf
