/- Pairs of a theory that may be. -/
import Derived.Test.YtdmnoeooljofcaaSame
namespace Go.Proofs.Ytdmnoeooljofcaa
open Go.RowKit

theorem parts_zero {T : Th} (h : (checkM T).1 = 0) : 0 ≤ T.lits ∧ T.lits ≤ 4096 ∧ (foeM T).1 = 0 ∧ (ruleM T).1 = 0 := by
  have hk := check_ok h
  unfold checkM at h
  split at h
  · cases h
  simp only [orM_zero] at h
  exact ⟨hk.l0, hk.l1, h.1, h.2.1⟩
set_option maxRecDepth 100000 in
set_option maxHeartbeats 6400000 in
theorem pairs_yes {w : World} {T : Th} {fa ra ba : Option Addr} {fc rc bc : Nat} (h : TA w.heap.size w T fa fc ra rc ba bc) (h0 : (checkM T).1 = 0) :
    Calls Try.prog 14 #[tv T fa fc ra rc ba bc] w fun e w' => e = .returned (.tuple #[.int .i64 (pairsM T : Nat), .int .i64 0]) ∧ Below w.heap.size w w' := by
  have hB := below_new w (.cells #[.int .i64 T.lits, .slice fa T.foes.length fc, .slice ra T.rules.length rc, .slice ba T.beats.length bc] 27)
  have hX := heap_alloc_new w (.cells #[.int .i64 T.lits, .slice fa T.foes.length fc, .slice ra T.rules.length rc, .slice ba T.beats.length bc] 27)
  have hL := TR.go hB h
  have CC := hide (check_any hL)
  rw [check_zero h0] at CC
  unfold dup at CC
  simp only at CC
  have HP := hide (parts_zero h0)
  have HL := hide hL
  have HB := hide hB
  have HX := hide hX
  clear h hB hL h0
  go_enter Try.func14, Try.ntmps14
  go_upto_region 1 with fail
  generalize w.alloc (.cells #[.int .i64 T.lits, .slice fa T.foes.length fc, .slice ra T.rules.length rc, .slice ba T.beats.length bc] 27) = W at *
  obtain ⟨-, c0, c1, c2, c3⟩ := Bt.of hX
  clear hX
  go_upto_region 4 with (go_at_call 31; refine CC.out.mono ?_; rintro _ w1 ⟨rfl, hw1⟩; have HB1 := hide (HB.out.trans (hw1.mono HB.out.size)); have HL1 := hide (TR.go hw1 HL.out); have HX1 := hide ((hw1.block _ (loc_lt HX.out)).trans HX.out); clear hw1)
  clear c0 c1 c2 c3
  obtain ⟨-, c0, c1, c2, c3⟩ := Bt.of HX1.out
  have CW := hide (pairsOf_any HL1.out HP.out.1 HP.out.2.1 HP.out.2.2.1 HP.out.2.2.2)
  go_wp2_with (go_at_call 34; refine CW.out.mono ?_; rintro _ w2 ⟨rfl, hw2⟩; have HB2 := hide (HB1.out.trans (hw2.mono HB1.out.size)); clear hw2)
  go_ret2
  exact ⟨rfl, HB2.out⟩
end Go.Proofs.Ytdmnoeooljofcaa
