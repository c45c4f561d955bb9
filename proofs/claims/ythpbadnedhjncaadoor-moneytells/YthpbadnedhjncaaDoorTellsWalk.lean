/- MoneyTells, walked. -/
import Derived.Test.YthpbadnedhjncaaDoorWorks
namespace Go.Proofs.YthpbadnedhjncaaDoor
open Go.RowKit

set_option maxRecDepth 100000 in
set_option maxHeartbeats 4000000 in
theorem tells_walk (a b c : Int) (w : World) (ht : Tab w) : Calls Tryd.prog 4 #[.int .i64 a, .int .i64 b, .int .i64 c] w fun e w' => e = .returned (.bool true) ∧ Below w.heap.size w w' := by
  have C1 := hide (fun w ht => print_any a w ht)
  have C2 := hide (fun w => refPrint_any a w)
  have C3 := hide (fun w => clamp_any a b c w)
  have C4 := hide (fun w => refClamp_any a b c w)
  have C5 := hide (fun w => check_any a w)
  have C6 := hide (fun w => refCheck_any a w)
  have C7 := hide (fun w => compare_any a b w)
  have C8 := hide (fun w => refCompare_any a b w)
  have CN := hide num_any
  have CW := hide works_any
  have HT := hide ht
  unfold pairV at C3 C4
  generalize (printM a).1 = pl at *
  generalize (printM a).2 = pe at *
  generalize (clampM a b c).1 = cl at *
  generalize (clampM a b c).2 = ce at *
  generalize checkM a = ck at *
  generalize cmpM a b = cm at *
  clear ht
  generalize strOfNums pl = st at *
  go_enter Tryd.func4, Tryd.ntmps4
  go_wp2_with fail
  refine (C1.out _ HT.out).mono ?_
  rintro _ w1 ⟨rfl, hb1⟩
  go_wp2_with fail
  refine (C2.out _).mono ?_
  rintro _ w2 ⟨rfl, hb2⟩
  have HB2 : Hid (Below w.heap.size w w2) := hb1.trans (hb2.mono hb1.size)
  have HT2 := hide (HT.out.below HB2.out (Nat.le_refl _))
  clear hb1 hb2
  go_wp2_with (first | (go_at_call 15; refine (C3.out _).mono ?_; rintro _ w5 ⟨rfl, hww⟩; subst w5) | (go_at_call 16; refine (C4.out _).mono ?_; rintro _ w5 ⟨rfl, hww⟩; subst w5) | (go_at_call 17; refine (C5.out _).mono ?_; rintro _ w5 ⟨rfl, hww⟩; subst w5) | (go_at_call 18; refine (C6.out _).mono ?_; rintro _ w5 ⟨rfl, hww⟩; subst w5) | (go_at_call 19; refine (C7.out _).mono ?_; rintro _ w5 ⟨rfl, hww⟩; subst w5) | (go_at_call 20; refine (C8.out _).mono ?_; rintro _ w5 ⟨rfl, hww⟩; subst w5) | (go_at_call 11; refine (CN.out _ _).mono ?_; rintro _ w5 ⟨rfl, hww⟩; subst w5) | (go_at_call 12; refine (CW.out _ HT2.out).mono ?_; rintro _ w3 ⟨rfl, hb3⟩))
  go_ret
  exact ⟨rfl, HB2.out.trans (hb3.mono HB2.out.size)⟩

end Go.Proofs.YthpbadnedhjncaaDoor
