/- set, bit, has, used, dropped, clear, met, refute, closed. -/
import Derived.Test.YtcobmbclhhimjaaGreatFsM
import Derived.Test.YtcobmbclhhimjaaGreatLast
import Derived.BigQuiet
namespace Go.Proofs.YtcobmbclhhimjaaGreat.Fa
open Go.RowKit

section
variable {w : World} {K g i : Nat} {x : Value} {u : Int}
set_option maxRecDepth 100000 in
set_option maxHeartbeats 3200000 in
theorem setI_any {v : Int} (hc : w.cell? ⟨g, i, none⟩ = some x) (hf : w.frozen? ⟨g, i, none⟩ = false) (hu : (w.setCell ⟨g, i, none⟩ (.int .i64 v)).cell? ⟨K, 21, none⟩ = some (.int .i64 u)) (hfu : (w.setCell ⟨g, i, none⟩ (.int .i64 v)).frozen? ⟨K, 21, none⟩ = false) :
    Calls Tryz.prog 108 #[ptr K, .pointer (some ⟨g, i, none⟩), .int .i64 v] w fun e w' => e = .returned (.tuple #[]) ∧ w' = (w.setCell ⟨g, i, none⟩ (.int .i64 v)).setCell ⟨K, 21, none⟩ (.int .i64 (inc u)) := by
  obtain ⟨u', hu'⟩ : ∃ u', IntKind.i64.wrap (u + 1) = u' := ⟨_, rfl⟩
  have HU : Hid (inc u = u') := hide hu'
  go_enter Tryz.func108, Tryz.ntmps108
  go_wp2_with fail
  go_end0
  exact ⟨rfl, by rw [HU.out]⟩
set_option maxRecDepth 100000 in
set_option maxHeartbeats 3200000 in
theorem setB_any {v : Bool} (hc : w.cell? ⟨g, i, none⟩ = some x) (hf : w.frozen? ⟨g, i, none⟩ = false) (hu : (w.setCell ⟨g, i, none⟩ (.bool v)).cell? ⟨K, 21, none⟩ = some (.int .i64 u)) (hfu : (w.setCell ⟨g, i, none⟩ (.bool v)).frozen? ⟨K, 21, none⟩ = false) :
    Calls Tryz.prog 96 #[ptr K, .pointer (some ⟨g, i, none⟩), .bool v] w fun e w' => e = .returned (.tuple #[]) ∧ w' = (w.setCell ⟨g, i, none⟩ (.bool v)).setCell ⟨K, 21, none⟩ (.int .i64 (inc u)) := by
  obtain ⟨u', hu'⟩ : ∃ u', IntKind.i64.wrap (u + 1) = u' := ⟨_, rfl⟩
  have HU : Hid (inc u = u') := hide hu'
  go_enter Tryz.func96, Tryz.ntmps96
  go_wp2_with fail
  go_end0
  exact ⟨rfl, by rw [HU.out]⟩
set_option maxRecDepth 100000 in
set_option maxHeartbeats 3200000 in
theorem setU_any {v : Int} (hc : w.cell? ⟨g, i, none⟩ = some x) (hf : w.frozen? ⟨g, i, none⟩ = false) (hu : (w.setCell ⟨g, i, none⟩ (.int .u8 v)).cell? ⟨K, 21, none⟩ = some (.int .i64 u)) (hfu : (w.setCell ⟨g, i, none⟩ (.int .u8 v)).frozen? ⟨K, 21, none⟩ = false) :
    Calls Tryz.prog 118 #[ptr K, .pointer (some ⟨g, i, none⟩), .int .u8 v] w fun e w' => e = .returned (.tuple #[]) ∧ w' = (w.setCell ⟨g, i, none⟩ (.int .u8 v)).setCell ⟨K, 21, none⟩ (.int .i64 (inc u)) := by
  obtain ⟨u', hu'⟩ : ∃ u', IntKind.i64.wrap (u + 1) = u' := ⟨_, rfl⟩
  have HU : Hid (inc u = u') := hide hu'
  go_enter Tryz.func118, Tryz.ntmps118
  go_wp2_with fail
  go_end0
  exact ⟨rfl, by rw [HU.out]⟩
set_option maxRecDepth 100000 in
set_option maxHeartbeats 3200000 in
theorem setS_any {a : Option Addr} {m c : Nat} (hc : w.cell? ⟨g, i, none⟩ = some x) (hf : w.frozen? ⟨g, i, none⟩ = false) (hu : (w.setCell ⟨g, i, none⟩ (.slice a m c)).cell? ⟨K, 21, none⟩ = some (.int .i64 u)) (hfu : (w.setCell ⟨g, i, none⟩ (.slice a m c)).frozen? ⟨K, 21, none⟩ = false) :
    Calls Tryz.prog 119 #[ptr K, .pointer (some ⟨g, i, none⟩), .slice a m c] w fun e w' => e = .returned (.tuple #[]) ∧ w' = (w.setCell ⟨g, i, none⟩ (.slice a m c)).setCell ⟨K, 21, none⟩ (.int .i64 (inc u)) := by
  obtain ⟨u', hu'⟩ : ∃ u', IntKind.i64.wrap (u + 1) = u' := ⟨_, rfl⟩
  have HU : Hid (inc u = u') := hide hu'
  go_enter Tryz.func119, Tryz.ntmps119
  go_wp2_with fail
  go_end0
  exact ⟨rfl, by rw [HU.out]⟩
set_option maxRecDepth 100000 in
set_option maxHeartbeats 3200000 in
theorem bitF_any {t : Int} (ht : isTag t) : Calls Tryz.prog 53 #[.int .i64 t] w fun e w' => e = .returned (.int .u8 (bitM t)) ∧ w' = w := by
  rcases ht with rfl | rfl | rfl | rfl
  all_goals
    go_enter Tryz.func53, Tryz.ntmps53
    go_wp2_with fail
    go_ret
    exact ⟨rfl, rfl⟩
end
section
variable {N : Nat} {S : Nat → Prop} {A : Ad} {T : Th} {F : List Int} {n : Nat} {e : Es} {tv : Value} {w w' : World}
set_option maxRecDepth 100000 in
set_option maxHeartbeats 3200000 in
theorem has_any {q : Nat} {t : Int} (h : En N S A T F n e tv w) (hq : q < n) (ht : isTag t) :
    Calls Tryz.prog 36 #[ptr A.K, .int .i64 q, .int .i64 t] w fun r w' => r = .returned (.bool (has e q t)) ∧ Below w.heap.size w w' := by
  have k8 := h.bx.get (i := 18) rfl
  have cm := h.mq.get (rowU_at hq)
  have CB := hide fun d : Nat => bitF_any (w := w.drewN d) ht
  have HS : Hid ((bits .and .u8 (e.mq q) (bitM t) != 0) = has e q t) := hide rfl
  generalize has e q t = o at *
  generalize e.mq q = x at *
  generalize bitM t = y at *
  clear h ht
  go_enter Tryz.func36, Tryz.ntmps36
  go_upto_region 1 with fail
  go_quiet ((go_at_call 53; exact Calls.quiet_of_same (CB.out _)))
  go_wp2_with fail
  go_ret
  exact ⟨by rw [← HS.out]; rfl, below_drewN w _⟩
set_option maxRecDepth 100000 in
set_option maxHeartbeats 3200000 in
theorem used_any {r : Nat} (h : En N S A T F n e tv w) (hr : r < T.rules.length) :
    Calls Tryz.prog 121 #[ptr A.K, .int .i64 r] w fun o w' => o = .returned (.bool (used e r)) ∧ w' = w := by
  have k8 := h.bx.get (i := 13) rfl
  have cm := (h.ms true).get (rowI_at hr)
  have HS : Hid ((e.ms true r == 0) = used e r) := hide (by unfold used; by_cases e0 : e.ms true r = 0 <;> simp [e0])
  generalize used e r = o at *
  generalize e.ms true r = x at *
  clear h
  go_enter Tryz.func121, Tryz.ntmps121
  go_wp2_with fail
  go_ret
  exact ⟨by rw [← HS.out]; rfl, rfl⟩
set_option maxRecDepth 100000 in
set_option maxHeartbeats 3200000 in
theorem dropped_any {r : Nat} (h : En N S A T F n e tv w) (hr : r < T.rules.length) :
    Calls Tryz.prog 97 #[ptr A.K, .int .i64 r] w fun o w' => o = .returned (.bool (dropped e r)) ∧ w' = w := by
  have k8 := h.bx.get (i := 14) rfl
  have cm := (h.rf true).get (rowB_at hr)
  have HS : Hid (e.rf true r = dropped e r) := hide rfl
  generalize dropped e r = o at *
  generalize e.rf true r = x at *
  clear h
  go_enter Tryz.func97, Tryz.ntmps97
  go_wp2_with fail
  go_ret
  exact ⟨by rw [← HS.out]; rfl, rfl⟩
set_option maxRecDepth 100000 in
set_option maxHeartbeats 3200000 in
theorem clear_any {q : Nat} (h : En N S A T F n e tv w) (hq : q < n) :
    Calls Tryz.prog 98 #[ptr A.K, .int .i64 q] w fun o w' => o = .returned (.tuple #[]) ∧ En N S A T F n (clearE e q) tv w' ∧ Fr (fun k => ¬ S k) w w' := by
  have k8 := h.bx.get (i := 17) rfl
  have cm := h.ob.get (rowI_at hq)
  obtain ⟨v', hv'⟩ : ∃ v', IntKind.i64.wrap (e.ob q - 1) = v' := ⟨_, rfl⟩
  have HV : Hid (dec (e.ob q) = v') := hide hv'
  have HE := hide h
  have HQ := hide hq
  generalize e.ob q = x at cm hv'
  clear h
  have hfol : Tryz.prog.follows .mixedOrders = true := by kernel_rfl
  go_enter Tryz.func98, Tryz.ntmps98
  go_wp2_with fail
  refine region_last (by assumption) (by kernel_rfl) (by kernel_rfl) (by kernel_rfl) (by kernel_rfl) ?_
  dsimp only [List.dropLast, List.getLast, List.cons_append, List.nil_append]
  repeat (go_big_quiet_step (fail))
  refine wpQuiet_nil ?_
  rintro _ ⟨nq, rfl⟩
  have hE := HE.out.drewN nq
  have h1 := hE.setOb HQ.out v'
  have h2 := h1.1.setUp (inc e.up)
  have CS := hide (setI_any (K := A.K) (v := v') (hE.ob.get (rowI_at HQ.out)) (hE.ob.frz q) (h1.1.bx.get (i := 21) rfl) (h1.1.bx.frz 21))
  have HN : Hid (En N S A T F n (clearE e q) tv (((w.drewN nq).setCell ⟨A.ob, q, none⟩ (.int .i64 v')).setCell ⟨A.K, 21, none⟩ (.int .i64 (inc e.up)))) := hide (by
    unfold clearE
    rw [HV.out]
    exact h2.1)
  have HF := hide ((Fr.of_below (below_drewN w nq)).trans (h1.2.trans h2.2))
  clear hE h1 h2 k8 cm
  go_wp2_with (go_at_call 108; refine CS.out.mono ?_; rintro _ w2 ⟨rfl, rfl⟩)
  go_end0
  exact ⟨rfl, HN.out, HF.out⟩
end
end Go.Proofs.YtcobmbclhhimjaaGreat.Fa
