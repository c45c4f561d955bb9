/- MoneyScales, walked. -/
import Derived.Test.YthpbadnedhjncaaDoorWorks
import Derived.Test.YthpbadnedhjncaaDoorScaleAny
namespace Go.Proofs.YthpbadnedhjncaaDoor
open Go.RowKit

set_option maxRecDepth 100000 in
set_option maxHeartbeats 4000000 in
theorem scales_walk (m x d k : Int) (w : World) (hk0 : -9223372036854775808 ≤ k) (hk1 : k ≤ 9223372036854775807) (ht : Tab w) : Calls Tryd.prog 6 #[.int .i64 m, .int .i64 x, .int .i64 d, .int .i64 k] w fun e w' => e = .returned (.bool true) ∧ Below w.heap.size w w' := by
  have C1 := hide (fun w => scale_any m x d k w hk0 hk1)
  have C2 := hide (fun w => refScale_any m x d k w)
  have CN := hide num_any
  have CW := hide works_any
  have HT := hide ht
  unfold pairV at C1 C2
  generalize (scaleM m x d k).1 = a at *
  generalize (scaleM m x d k).2 = e at *
  clear ht
  go_enter Tryd.func6, Tryd.ntmps6
  go_wp2_with fail
  refine (C1.out _).mono ?_
  rintro _ w1 ⟨rfl, hb1⟩
  go_wp2_with fail
  refine (C2.out _).mono ?_
  rintro _ w2 ⟨rfl, hb2⟩
  have HB2 : Hid (Below w.heap.size w w2) := hb1.trans (hb2.mono hb1.size)
  have HT2 := hide (HT.out.below HB2.out (Nat.le_refl _))
  clear hb1 hb2
  go_wp2_with (first | (go_at_call 11; refine (CN.out _ _).mono ?_; rintro _ w5 ⟨rfl, hww⟩; subst w5) | (go_at_call 12; refine (CW.out _ HT2.out).mono ?_; rintro _ w3 ⟨rfl, hb3⟩))
  go_ret
  exact ⟨rfl, HB2.out.trans (hb3.mono HB2.out.size)⟩

end Go.Proofs.YthpbadnedhjncaaDoor
