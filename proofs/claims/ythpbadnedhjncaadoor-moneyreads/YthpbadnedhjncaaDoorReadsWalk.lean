/- MoneyReads, walked. -/
import Derived.Test.YthpbadnedhjncaaDoorWorks
namespace Go.Proofs.YthpbadnedhjncaaDoor
open Go.RowKit

set_option maxRecDepth 100000 in
set_option maxHeartbeats 2000000 in
theorem reads_walk (s : ByteArray) (w : World) (hs : s.size ≤ 140737488355328) (ht : Tab w) : Calls Tryd.prog 3 #[.string s] w fun e w' => e = .returned (.bool true) ∧ Below w.heap.size w w' := by
  have C1 := hide (fun w => parse_any s w hs)
  have C2 := hide (fun w => refParse_any s w hs)
  have CN := hide num_any
  have CW := hide works_any
  have HT := hide ht
  obtain ⟨a, e, hp⟩ : ∃ a e, parseM (strB s) = (a, e) := ⟨_, _, rfl⟩
  rw [hp] at C1 C2
  unfold pairV at C1 C2
  dsimp only at C1 C2
  clear ht hp
  go_enter Tryd.func3, Tryd.ntmps3
  go_wp2_with fail
  refine (C1.out _).mono ?_
  rintro _ w1 ⟨rfl, hb1⟩
  go_wp2_with fail
  refine (C2.out _).mono ?_
  rintro _ w2 ⟨rfl, hb2⟩
  have HB2 : Hid (Below w.heap.size w w2) := hb1.trans (hb2.mono hb1.size)
  have HT2 := hide (HT.out.below HB2.out (Nat.le_refl _))
  clear hb1 hb2
  go_wp2_with (first | (go_at_call 11; refine (CN.out _ _).mono ?_; rintro _ w5 ⟨rfl, hww⟩; subst w5) | (go_at_call 12; refine (CW.out _ HT2.out).mono ?_; rintro _ w3 ⟨rfl, hb3⟩))
  go_ret
  exact ⟨rfl, HB2.out.trans (hb3.mono HB2.out.size)⟩

end Go.Proofs.YthpbadnedhjncaaDoor
