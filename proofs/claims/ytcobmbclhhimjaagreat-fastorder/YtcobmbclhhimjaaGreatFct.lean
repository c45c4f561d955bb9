/- Counted. -/
import Derived.Test.YtcobmbclhhimjaaGreatFlf
namespace Go.Proofs.YtcobmbclhhimjaaGreat.Fa
open Go.RowKit

theorem results_tct {P : Program} {fn : Func} {t p u : Tmp} {ty : TypeId} (h : fn.results = #[.tmp t, .cell p ty, .tmp u]) (tmps : Array Value) (w : World) (g : Nat) (t2 : TypeId) (cs : Array Value) (fr : Nat × Nat) (d : TypeDesc)
    (hp : tmps.getD p undef = .pointer (some ⟨g, 0, none⟩)) (hg : w.heap[g]? = some (.cells cs t2 fr))
    (hu : P.underlying ty = some d) (hd : (match d with | .struct _ | .array _ _ => true | _ => false) = true) (hi : (P.info? ty).map (·.size) = some cs.size) :
    (results fn tmps).run P w = .ok (.tuple #[tmps.getD t undef, .agg cs, tmps.getD u undef]) w := by
  have hp' : tmps[p]?.getD undef = .pointer (some ⟨g, 0, none⟩) := by simpa using hp
  simp [results, h, hp', asAddr, run_loadVar_row w g t2 ty cs fr d hg hu hd hi]
abbrev v_own (va : Option Addr) (n : Nat) : Option Nat := Value.ownBlock (.slice va n n)
section
variable {w : World} {T : Th} {F : List Int} {fa ra ba ea : Option Addr} {fc rc bc ec : Nat}
set_option maxRecDepth 100000 in
set_option maxHeartbeats 3200000 in
theorem Counted_ok (h : TA w.heap.size w T fa fc ra rc ba bc) (hF : Ints w.heap.size w F (.slice ea F.length ec)) (h0 : faultM T F = 0) {P : Es → Prop} (hl : P (layE T F T.lits.toNat)) (hst : ∀ e, P e → Tok T.lits.toNat e → e.tk < e.td.length → P (stepE T F e)) :
    Calls Tryz.prog 9 #[tv T fa fc ra rc ba bc, .slice ea F.length ec] w fun o w' => ∃ v m i e, o = .returned (.tuple #[v, .agg #[.int .i64 (e.td.length : Nat), .int .i64 e.up], .int .i64 0]) ∧ Sol T F m i ∧ w'.ownsRow w.heap.size 77 1 v T.lits.toNat (u8s m) ∧ (Alls T F T.lits.toNat m e ∧ e.tk = e.td.length) ∧ Tok T.lits.toNat e ∧ P e ∧ Below w.heap.size w w' := by
  have hB := below_new w (.cells #[.int .i64 T.lits, .slice fa T.foes.length fc, .slice ra T.rules.length rc, .slice ba T.beats.length bc] 25)
  have hX := heap_alloc_new w (.cells #[.int .i64 T.lits, .slice fa T.foes.length fc, .slice ra T.rules.length rc, .slice ba T.beats.length bc] 25)
  have hB2 := below_new (w.alloc (.cells #[.int .i64 T.lits, .slice fa T.foes.length fc, .slice ra T.rules.length rc, .slice ba T.beats.length bc] 25)) (.cells #[.int .i64 0, .int .i64 0] 34)
  have hC := heap_alloc_new (w.alloc (.cells #[.int .i64 T.lits, .slice fa T.foes.length fc, .slice ra T.rules.length rc, .slice ba T.beats.length bc] 25)) (.cells #[.int .i64 0, .int .i64 0] 34)
  rw [show (w.alloc (.cells #[.int .i64 T.lits, .slice fa T.foes.length fc, .slice ra T.rules.length rc, .slice ba T.beats.length bc] 25)).heap.size = w.heap.size + 1 from by simp] at hC
  have hX2 := (hB2.block _ (loc_lt hX)).trans hX
  have hBB := hB.trans (hB2.mono hB.size)
  have CF := hide (fault_any (TR.go hB2 (TR.go hB h)) (Ints.go hB2 (Ints.go hB hF)))
  rw [h0] at CF
  have HB := hide hBB
  have HP := hide (pf_of h0)
  have HTA := hide (TR.go hB2 (TR.go hB h))
  have HF := hide (Ints.go hB2 (Ints.go hB hF))
  have HL := hide hl
  have HST := hide hst
  clear h hB hF h0 hB2 hBB hX hl hst
  go_enter Tryz.func9, Tryz.ntmps9
  go_upto_region 1 with fail
  generalize (w.alloc (.cells #[.int .i64 T.lits, .slice fa T.foes.length fc, .slice ra T.rules.length rc, .slice ba T.beats.length bc] 25)).alloc (.cells #[.int .i64 0, .int .i64 0] 34) = W at *
  have HX := hide hX2
  obtain ⟨-, c0, c1, c2, c3⟩ := Bt.of hX2
  clear hX2
  have HC := hide hC
  clear hC
  go_upto_region 4 with (go_at_call 29; refine CF.out.mono ?_; rintro _ w1 ⟨rfl, hw1⟩; have HW1 := hide hw1; have HB1 := hide (HB.out.trans (hw1.mono HB.out.size)); have HC1 := hide ((hw1.block _ (loc_lt HC.out)).trans HC.out); clear hw1)
  have HX1 := hide ((HW1.out.block _ (loc_lt HX.out)).trans HX.out)
  have CS := hide (run_ends (P := P) (TR.go HW1.out HTA.out) (Ints.go HW1.out HF.out) HP.out HL.out HST.out)
  clear c0 c1 c2 c3 CF HX HTA HF HB HW1 HL HST HC
  obtain ⟨-, c0, c1, c2, c3⟩ := Bt.of HX1.out
  go_upto_region 5 with (go_at_call 30; refine CS.out.mono ?_; rintro _ w2 ⟨K, va, e, rfl, hK, k18, ⟨m, i, hs, hown, hal⟩, ⟨ta, tc, k19⟩, k21, htok, hP, hw2⟩; have HS := hide hs; have HO := hide hown; have HAL := hide hal; have HTK := hide htok; have HPE := hide hP; have HW2 := hide hw2; clear hs hown hw2 hal htok hP)
  clear c0 c1 c2 c3 CS
  have HC2 := hide ((HW2.out.block _ (loc_lt HC1.out)).trans HC1.out)
  have hKn : w.heap.size + 1 < K := Nat.lt_of_lt_of_le (loc_lt HC1.out) hK
  have HB2 := hide (HB1.out.trans (HW2.out.mono HB1.out.size))
  have HO2 := hide (owns_down HO.out HB1.out.size)
  have HOL : Hid (∀ g, v_own va T.lits.toNat = some g → g ≠ w.heap.size + 1) := hide fun g hg e1 => by
    have := (HO.out.lt g hg).1
    have := loc_lt HC1.out
    omega
  clear hK HO HB1 HX1 HC1 HW2
  have d0 : w2.cell? ⟨w.heap.size + 1, 0, none⟩ = some (.int .i64 0) := Fx.get (vs := [.int .i64 0, .int .i64 0]) HC2.out rfl
  have d1 : w2.cell? ⟨w.heap.size + 1, 1, none⟩ = some (.int .i64 0) := Fx.get (vs := [.int .i64 0, .int .i64 0]) HC2.out rfl
  have f0 : w2.frozen? ⟨w.heap.size + 1, 0, none⟩ = false := frozen_of_row _ _ 0 _ _ HC2.out
  have f1 : w2.frozen? ⟨w.heap.size + 1, 1, none⟩ = false := frozen_of_row _ _ 1 _ _ HC2.out
  have hne : K ≠ w.heap.size + 1 := by omega
  go_region
  go_wp2_with fail
  have hfx : Fx (w.heap.size + 1) 34 [.int .i64 0, .int .i64 0] w2 := HC2.out
  have hf2 := (hfx.set 0 (.int .i64 (e.td.length : Nat))).set 1 (.int .i64 e.up)
  have hf3 := hf2.keep (w' := ((w2.setCell ⟨w.heap.size + 1, 0, none⟩ (.int .i64 (e.td.length : Nat))).setCell ⟨w.heap.size + 1, 1, none⟩ (.int .i64 e.up)).drew) rfl
  (try simp only [Exit.inBlock, Exit.then])
  refine bodyPost_ret (results_tct rfl _ _ (w.heap.size + 1) _ #[.int .i64 (e.td.length : Nat), .int .i64 e.up] _ _ rfl hf3 Tryz.underlying34 rfl (by kernel_rfl)) rfl ?_
  refine ⟨_, m, i, e, rfl, HS.out, ?_, HAL.out, HTK.out, HPE.out, ?_⟩
  · exact owns_keep HO2.out fun g hg => (other_set (w := w2.setCell ⟨w.heap.size + 1, 0, none⟩ (.int .i64 (e.td.length : Nat))) (HOL.out g hg)).trans (other_set (HOL.out g hg))
  · exact ((HB2.out.setCell (p := ⟨w.heap.size + 1, 0, none⟩) (by show w.heap.size ≤ w.heap.size + 1; omega) _).setCell (p := ⟨w.heap.size + 1, 1, none⟩) (by show w.heap.size ≤ w.heap.size + 1; omega) _).drew
end
end Go.Proofs.YtcobmbclhhimjaaGreat.Fa
