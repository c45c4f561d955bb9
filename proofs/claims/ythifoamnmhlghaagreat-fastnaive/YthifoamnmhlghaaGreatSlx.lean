/- Solve. -/
import Derived.Test.YthifoamnmhlghaaGreatSlv
namespace Go.Proofs.YthifoamnmhlghaaGreat
open Go.RowKit

section
variable {w : World} {T : Th} {F : List Int} {fa ra ba ea : Option Addr} {fc rc bc ec : Nat}
set_option maxRecDepth 100000 in
set_option maxHeartbeats 3200000 in
theorem Solve_bad (h : TA w.heap.size w T fa fc ra rc ba bc) (hF : Ints w.heap.size w F (.slice ea F.length ec)) (hne : faultM T F ≠ 0) :
    Calls Tryz.prog 6 #[tv T fa fc ra rc ba bc, .slice ea F.length ec] w fun e w' => e = .returned (.tuple #[.slice none 0 0, .int .i64 (faultM T F)]) ∧ Below w.heap.size w w' := by
  have hB := below_new w (.cells #[.int .i64 T.lits, .slice fa T.foes.length fc, .slice ra T.rules.length rc, .slice ba T.beats.length bc] 25)
  have hX := heap_alloc_new w (.cells #[.int .i64 T.lits, .slice fa T.foes.length fc, .slice ra T.rules.length rc, .slice ba T.beats.length bc] 25)
  have CF := hide (fault_any (TR.go hB h) (Ints.go hB hF))
  have HB := hide hB
  have hne2 : (faultM T F != 0) = true := by simpa using hne
  clear h hB hF hne
  generalize faultM T F = e0 at *
  go_enter Tryz.func6, Tryz.ntmps6
  go_upto_region 1 with fail
  generalize w.alloc (.cells #[.int .i64 T.lits, .slice fa T.foes.length fc, .slice ra T.rules.length rc, .slice ba T.beats.length bc] 25) = W at *
  obtain ⟨-, c0, c1, c2, c3⟩ := Bt.of hX
  clear hX
  go_wp2_with (go_at_call 12; refine CF.out.mono ?_; rintro _ w1 ⟨rfl, hw1⟩; have HB1 := hide (HB.out.trans (hw1.mono HB.out.size)); clear hw1)
  go_ret2
  exact ⟨rfl, HB1.out⟩
set_option maxRecDepth 100000 in
set_option maxHeartbeats 3200000 in
theorem Solve_ok (h : TA w.heap.size w T fa fc ra rc ba bc) (hF : Ints w.heap.size w F (.slice ea F.length ec)) (h0 : faultM T F = 0) :
    Calls Tryz.prog 6 #[tv T fa fc ra rc ba bc, .slice ea F.length ec] w fun e w' => ∃ v m i, e = .returned (.tuple #[v, .int .i64 0]) ∧ Sol T F m i ∧ w'.ownsRow w.heap.size 42 1 v T.lits.toNat (u8s m) ∧ Below w.heap.size w w' := by
  have hB := below_new w (.cells #[.int .i64 T.lits, .slice fa T.foes.length fc, .slice ra T.rules.length rc, .slice ba T.beats.length bc] 25)
  have hX := heap_alloc_new w (.cells #[.int .i64 T.lits, .slice fa T.foes.length fc, .slice ra T.rules.length rc, .slice ba T.beats.length bc] 25)
  have CF := hide (fault_any (TR.go hB h) (Ints.go hB hF))
  rw [h0] at CF
  have HP := hide (pf_of h0)
  have HTA := hide (TR.go hB h)
  have HF := hide (Ints.go hB hF)
  have HB := hide hB
  have HX := hide hX
  clear h hB hF h0
  go_enter Tryz.func6, Tryz.ntmps6
  go_upto_region 1 with fail
  generalize w.alloc (.cells #[.int .i64 T.lits, .slice fa T.foes.length fc, .slice ra T.rules.length rc, .slice ba T.beats.length bc] 25) = W at *
  obtain ⟨-, c0, c1, c2, c3⟩ := Bt.of hX
  clear hX
  go_upto_region 4 with (go_at_call 12; refine CF.out.mono ?_; rintro _ w1 ⟨rfl, hw1⟩; have HW1 := hide hw1; clear hw1)
  have HX1 := hide ((HW1.out.block _ (loc_lt HX.out)).trans HX.out)
  have CS := hide (solve_any (TR.go HW1.out HTA.out) (Ints.go HW1.out HF.out) HP.out)
  have HB1 := hide (HB.out.trans (HW1.out.mono HB.out.size))
  clear c0 c1 c2 c3 CF HX HTA HF HB HW1
  obtain ⟨-, c0, c1, c2, c3⟩ := Bt.of HX1.out
  go_wp2_with (go_at_call 13; refine CS.out.mono ?_; rintro _ w2 ⟨v, m, i, rfl, hs, hown, hw2⟩; have HS := hide hs; have HO := hide hown; have HW2 := hide hw2; clear hs hown hw2)
  go_ret2
  exact ⟨v, m, i, rfl, HS.out, owns_down HO.out HB1.out.size, HB1.out.trans (HW2.out.mono HB1.out.size)⟩
end
end Go.Proofs.YthifoamnmhlghaaGreat
