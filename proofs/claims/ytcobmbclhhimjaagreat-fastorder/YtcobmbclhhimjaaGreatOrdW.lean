/- FastOrder, walked. -/
import Derived.Test.YtcobmbclhhimjaaGreatOrr
import Derived.Test.YtcobmbclhhimjaaGreatWks
namespace Go.Proofs.YtcobmbclhhimjaaGreat.Fa
open Go.RowKit

set_option maxRecDepth 100000 in
set_option maxHeartbeats 12800000 in
theorem order_law {w : World} {T : Th} {F : List Int} {fa ra ba xa : Option Addr} {fc rc bc xc : Nat} (h : TA w.heap.size w T fa fc ra rc ba bc) (hF : Ints w.heap.size w F (.slice xa F.length xc)) :
    Calls Tryz.prog 5 #[tv T fa fc ra rc ba bc, .slice xa F.length xc] w fun e w' => e = .returned (.bool true) ∧ Below w.heap.size w w' := by
  have hB := below_new w (.cells #[.int .i64 T.lits, .slice fa T.foes.length fc, .slice ra T.rules.length rc, .slice ba T.beats.length bc] 25)
  have hX := heap_alloc_new w (.cells #[.int .i64 T.lits, .slice fa T.foes.length fc, .slice ra T.rules.length rc, .slice ba T.beats.length bc] 25)
  have HTA := hide (TR.go hB h)
  have HF := hide (Ints.go hB hF)
  have HB := hide hB
  have HX := hide hX
  clear h hB hF
  go_enter Tryz.func5, Tryz.ntmps5
  go_upto_region 1 with fail
  generalize w.alloc (.cells #[.int .i64 T.lits, .slice fa T.foes.length fc, .slice ra T.rules.length rc, .slice ba T.beats.length bc] 25) = W at *
  obtain ⟨-, c0, c1, c2, c3⟩ := Bt.of hX
  clear hX
  by_cases hf : faultM T F = 0
  · have HFZ := hide hf
    clear hf
    have C1 := hide (Order_ok HTA.out HF.out HFZ.out)
    go_upto_region 2 with (go_at_call 25; refine C1.out.mono ?_; rintro _ w1 ⟨td, ta, tc, m, k, rfl, hts, hrow, hw1⟩; have HS := hide hts; have HR := hide hrow; have HW1 := hide hw1; clear hts hrow hw1)
    have HT1 := hide (TR.go HW1.out HTA.out)
    have HF1 := hide (Ints.go HW1.out HF.out)
    have HB1 := hide (HB.out.trans (HW1.out.mono HB.out.size))
    have HX1 := hide ((HW1.out.block _ (loc_lt HX.out)).trans HX.out)
    clear c0 c1 c2 c3 C1 HTA HF HB HX HW1
    have C2 := hide (Rf.rRun_ok HFZ.out HT1.out HF1.out)
    obtain ⟨-, c0, c1, c2, c3⟩ := Bt.of HX1.out
    go_upto_region 3 with (go_at_call 10; refine C2.out.mono ?_; rintro _ w2 ⟨ma, m2, k2, rfl, -, hw2⟩; have HW2 := hide hw2; clear hw2)
    have HT2 := hide (TR.go HW2.out HT1.out)
    have HF2 := hide (Ints.go HW2.out HF1.out)
    have HB2 := hide (HB1.out.trans (HW2.out.mono HB1.out.size))
    have HX2 := hide ((HW2.out.block _ (loc_lt HX1.out)).trans HX1.out)
    have HR2 := hide (HR.out.go HW2.out)
    clear c0 c1 c2 c3 C2 HT1 HF1 HB1 HX1 HW2 HR
    have CN := hide (num_still w2 0)
    have CO := hide (Rf.isOrder_any (lc := tc) HT2.out HF2.out HFZ.out rfl HS.out.1 HS.out.2.1 HS.out.2.2 HR2.out)
    obtain ⟨-, c0, c1, c2, c3⟩ := Bt.of HX2.out
    go_upto_region 5 with (go_at_call 11; refine CN.out.mono ?_; rintro _ w3 ⟨rfl, hw⟩; subst w3)
    go_wp2_with fail
    refine CO.out.mono ?_
    rintro _ w4 ⟨rfl, hw4⟩
    have HB4 := hide (HB2.out.trans (hw4.mono HB2.out.size))
    have CW := hide (works_any (w := w4))
    clear c0 c1 c2 c3 CO CN hw4
    go_wp2_with fail
    refine CW.out.mono ?_
    rintro _ w5 ⟨rfl, hw5⟩
    have HB5 := hide (HB4.out.trans (hw5.mono HB4.out.size))
    clear CW hw5
    go_wp2_with fail
    go_ret
    exact ⟨rfl, HB5.out⟩
  · have HFZ := hide hf
    have C1 := hide (Order_bad HTA.out HF.out HFZ.out)
    obtain ⟨z, hz⟩ : ∃ z, faultM T F = z := ⟨_, rfl⟩
    have HZV := hide hz
    rw [hz] at C1
    have hzb : (z != 0) = true := by rw [← hz]; simpa using hf
    have hzz : (z != z) = false := by simp
    have hze : (z == z) = true := by simp
    clear hf hz
    go_upto_region 2 with (go_at_call 25; refine C1.out.mono ?_; rintro _ w1 ⟨rfl, hw1⟩; have HW1 := hide hw1; clear hw1)
    have C2 := hide (Rf.rRun_bad HFZ.out (TR.go HW1.out HTA.out) (Ints.go HW1.out HF.out))
    rw [HZV.out] at C2
    have HB1 := hide (HB.out.trans (HW1.out.mono HB.out.size))
    have HX1 := hide ((HW1.out.block _ (loc_lt HX.out)).trans HX.out)
    clear c0 c1 c2 c3 C1 HTA HF HB HX HW1
    obtain ⟨-, c0, c1, c2, c3⟩ := Bt.of HX1.out
    go_upto_region 3 with (go_at_call 10; refine C2.out.mono ?_; rintro _ w2 ⟨rfl, hw2⟩; have HB2 := hide (HB1.out.trans (hw2.mono HB1.out.size)); clear hw2)
    clear c0 c1 c2 c3 C2 HB1 HX1
    have CN := hide (num_still w2 z)
    go_upto_region 4 with (go_at_call 11; refine CN.out.mono ?_; rintro _ w3 ⟨rfl, hw⟩; subst w3)
    have CW := hide (works_any (w := w2))
    go_wp2_with fail
    refine CN.out.mono ?_
    rintro _ w3 ⟨rfl, hw⟩
    subst w3
    go_wp2_with fail
    refine CW.out.mono ?_
    rintro _ w4 ⟨rfl, hw4⟩
    have HB4 := hide (HB2.out.trans (hw4.mono HB2.out.size))
    clear CW CN hw4
    go_wp2_with fail
    go_ret
    exact ⟨rfl, HB4.out⟩
end Go.Proofs.YtcobmbclhhimjaaGreat.Fa
