/- What is caught. -/
import Derived.Test.YtfnobccminhjpabGreatItems8
import Derived.Recover
import Derived.Laws.Pointers
namespace Go.Proofs.YtfnobccminhjpabGreat
open Go.RowKit Go.Shelf Go.Maps Go.WideMaps
set_option maxRecDepth 100000 in
set_option maxHeartbeats 1600000 in
theorem faultOf_any (c it : Int) (w : World) : Calls Tryz.prog 55 #[.iface 97 (.agg #[.int .i64 c, .int .i64 it])] w fun e w' => e = .returned (.agg #[.int .i64 c, .int .i64 it]) ∧ Below w.heap.size w w' := by
  have hta : ∀ w : World, (Instr.typeAssert (.iface 97 (.agg #[.int .i64 c, .int .i64 it])) 20 97 true).run Tryz.prog w = .ok (.tuple #[.agg #[.int .i64 c, .int .i64 it], .bool true]) w := fun w => by kernel_rfl
  go_enter Tryz.func55, Tryz.ntmps55
  go_wp2_with fail
  simp [bodyPost, results, Tryz.results55, go_sem]
  exact ((Below.refl _ w).alloc (Nat.le_refl _) _).alloc (by simp) _
set_option maxRecDepth 100000 in
set_option maxHeartbeats 1600000 in
theorem catch_idle (a : Value) (w : World) : CallsD Tryz.prog 54 #[a] .returning w fun e u' w' => e = .returned (.tuple #[]) ∧ u' = .returning ∧ w' = w := by
  refine callsD_of_wpS Tryz.func54 rfl fun c₀ cs hu => ?_
  apply wpS_seq
  apply wpS_region
  simp [wpOpsS, go_sem, recoverD, hu, Tryz.ntmps54, Exit.thenS]
  apply wpS_of_wp
  go_wp2_with fail
  cases c₀
  simp_all [bodyPostS, results, Tryz.results54]
set_option maxRecDepth 100000 in
set_option maxHeartbeats 1600000 in
theorem catch_fault (q : Nat) (e p : Int) (older : List PanicEntry) (w : World) (y0 y1 : Value) (h0 : w.heap[q]? = some (.cells #[y0, y1] 97 (0, 0))) :
    CallsD Tryz.prog 54 #[.pointer (some ⟨q, 0, none⟩)] (.panicking (fl e p :: older)) w fun r u' w' =>
      r = .returned (.tuple #[]) ∧ u' = .panicking ({ v := .iface 97 (.agg #[.int .i64 e, .int .i64 p]), recovered := true } :: older) ∧
      w'.heap[q]? = some (.cells #[.int .i64 e, .int .i64 p] 97 (0, 0)) ∧ Fr (fun k => k = q) w w' := by
  have H0 := hide h0
  have CF := hide (faultOf_any e p w)
  clear h0
  refine callsD_of_wpS Tryz.func54 rfl fun c₀ cs hu => ?_
  apply wpS_seq
  apply wpS_region
  have hrep : (Array.replicate 6 undef : Array Value) = #[undef, undef, undef, undef, undef, undef] := rfl
  simp [wpOpsS, go_sem, recoverD, hu, Tryz.ntmps54, Exit.thenS, hrep]
  clear hrep
  apply wpS_of_wp
  go_wp2_with fail
  refine CF.out.mono ?_
  rintro _ w1 ⟨rfl, hb⟩
  have L0 := (hb.block _ (loc_lt H0.out)).trans H0.out
  have z0 := cell_of_row w1 q 0 _ _ _ L0
  have z1 := cell_of_row w1 q 1 _ _ _ L0
  simp only [List.getElem?_toArray, List.getElem?_cons_zero, List.getElem?_cons_succ] at z0 z1
  have zf : ∀ i, w1.frozen? ⟨q, i, none⟩ = false := fun i => frozen_of_row w1 q i _ _ L0
  have A0 := loc_set (i := 1) (v := .int .i64 p) (loc_set (i := 0) (v := .int .i64 e) L0)
  simp only [List.setIfInBounds_toArray, List.set_cons_zero, List.set_cons_succ] at A0
  have HA0 := hide A0
  have HF := hide (((Fr.of_below (Z := fun k => k = q) hb).trans (.setCell ⟨q, 0, none⟩ (.int .i64 e) rfl)).trans (.setCell ⟨q, 1, none⟩ (.int .i64 p) rfl))
  clear hb L0 A0 CF H0
  go_wp2_with fail
  exact ⟨rfl, _, rfl, .tuple #[], by simp [results, Tryz.results54], rfl, rfl, HA0.out, HF.out⟩
end Go.Proofs.YtfnobccminhjpabGreat
