import Derived.Test.YthifoamnmhlghaaGreatFsM
import Derived.Test.YthifoamnmhlghaaGreatLast
import Derived.BigQuiet
set_option maxRecDepth 100000
set_option maxHeartbeats 3200000
namespace Go.Proofs.YthifoamnmhlghaaGreat.Fa
open Go.RowKit
section
variable {w : World} {K g i : Nat} {x : Value} {u : Int}
theorem eF {v : Int} (hc : w.cell? ⟨g, i, none⟩ = some x) (hf : w.frozen? ⟨g, i, none⟩ = false) (hu : (w.setCell ⟨g, i, none⟩ (.int .i64 v)).cell? ⟨K, 21, none⟩ = some (.int .i64 u)) (hfu : (w.setCell ⟨g, i, none⟩ (.int .i64 v)).frozen? ⟨K, 21, none⟩ = false) :
    Calls Tryz.prog 66 #[ae K, .pointer (some ⟨g, i, none⟩), .int .i64 v] w fun e w' => e = .returned (.tuple #[]) ∧ w' = (w.setCell ⟨g, i, none⟩ (.int .i64 v)).setCell ⟨K, 21, none⟩ (.int .i64 (aE u)) := by
 obtain ⟨u', hu'⟩ : ∃ u', IntKind.i64.wrap (u + 1) = u' := ⟨_, rfl⟩
 have HU : Hid (aE u = u') := hide hu'
 go_enter Tryz.func66, Tryz.ntmps66
 go_wp2_with fail
 go_end0
 exact ⟨rfl, by rw [HU.out]⟩
theorem kg {v : Bool} (hc : w.cell? ⟨g, i, none⟩ = some x) (hf : w.frozen? ⟨g, i, none⟩ = false) (hu : (w.setCell ⟨g, i, none⟩ (.bool v)).cell? ⟨K, 21, none⟩ = some (.int .i64 u)) (hfu : (w.setCell ⟨g, i, none⟩ (.bool v)).frozen? ⟨K, 21, none⟩ = false) :
    Calls Tryz.prog 53 #[ae K, .pointer (some ⟨g, i, none⟩), .bool v] w fun e w' => e = .returned (.tuple #[]) ∧ w' = (w.setCell ⟨g, i, none⟩ (.bool v)).setCell ⟨K, 21, none⟩ (.int .i64 (aE u)) := by
 obtain ⟨u', hu'⟩ : ∃ u', IntKind.i64.wrap (u + 1) = u' := ⟨_, rfl⟩
 have HU : Hid (aE u = u') := hide hu'
 go_enter Tryz.func53, Tryz.ntmps53
 go_wp2_with fail
 go_end0
 exact ⟨rfl, by rw [HU.out]⟩
theorem rq {v : Int} (hc : w.cell? ⟨g, i, none⟩ = some x) (hf : w.frozen? ⟨g, i, none⟩ = false) (hu : (w.setCell ⟨g, i, none⟩ (.int .u8 v)).cell? ⟨K, 21, none⟩ = some (.int .i64 u)) (hfu : (w.setCell ⟨g, i, none⟩ (.int .u8 v)).frozen? ⟨K, 21, none⟩ = false) :
    Calls Tryz.prog 75 #[ae K, .pointer (some ⟨g, i, none⟩), .int .u8 v] w fun e w' => e = .returned (.tuple #[]) ∧ w' = (w.setCell ⟨g, i, none⟩ (.int .u8 v)).setCell ⟨K, 21, none⟩ (.int .i64 (aE u)) := by
 obtain ⟨u', hu'⟩ : ∃ u', IntKind.i64.wrap (u + 1) = u' := ⟨_, rfl⟩
 have HU : Hid (aE u = u') := hide hu'
 go_enter Tryz.func75, Tryz.ntmps75
 go_wp2_with fail
 go_end0
 exact ⟨rfl, by rw [HU.out]⟩
theorem rO {a : Option Addr} {m c : Nat} (hc : w.cell? ⟨g, i, none⟩ = some x) (hf : w.frozen? ⟨g, i, none⟩ = false) (hu : (w.setCell ⟨g, i, none⟩ (.slice a m c)).cell? ⟨K, 21, none⟩ = some (.int .i64 u)) (hfu : (w.setCell ⟨g, i, none⟩ (.slice a m c)).frozen? ⟨K, 21, none⟩ = false) :
    Calls Tryz.prog 77 #[ae K, .pointer (some ⟨g, i, none⟩), .slice a m c] w fun e w' => e = .returned (.tuple #[]) ∧ w' = (w.setCell ⟨g, i, none⟩ (.slice a m c)).setCell ⟨K, 21, none⟩ (.int .i64 (aE u)) := by
 obtain ⟨u', hu'⟩ : ∃ u', IntKind.i64.wrap (u + 1) = u' := ⟨_, rfl⟩
 have HU : Hid (aE u = u') := hide hu'
 go_enter Tryz.func77, Tryz.ntmps77
 go_wp2_with fail
 go_end0
 exact ⟨rfl, by rw [HU.out]⟩
theorem ng {t : Int} (ht : ax t) : Calls Tryz.prog 76 #[.int .i64 t] w fun e w' => e = .returned (.int .u8 (bitM t)) ∧ w' = w := by
 rcases ht with rfl | rfl | rfl | rfl
 all_goals
  go_enter Tryz.func76, Tryz.ntmps76
  go_wp2_with fail
  go_ret
  exact ⟨rfl, rfl⟩
end
section
variable {N : Nat} {S : Nat → Prop} {A : Ad} {T : Th} {F : List Int} {n : Nat} {e : Es} {tv : Value} {w w' : World}
theorem fH {q : Nat} {t : Int} (h : En N S A T F n e tv w) (hq : q < n) (ht : ax t) :
    Calls Tryz.prog 57 #[ae A.K, .int .i64 q, .int .i64 t] w fun r w' => r = .returned (.bool (has e q t)) ∧ Below w.heap.size w w' := by
 have k8 := h.bx.get (i := 18) rfl
 have cm := h.mq.get (lP hq)
 have CB := hide fun d : Nat => ng (w := w.drewN d) ht
 have HS : Hid ((bits .and .u8 (e.mq q) (bitM t) != 0) = has e q t) := hide rfl
 generalize has e q t = o at *
 generalize e.mq q = x at *
 generalize bitM t = y at *
 clear h ht
 go_enter Tryz.func57, Tryz.ntmps57
 go_upto_region 1 with fail
 go_quiet ((go_at_call 76; exact Calls.quiet_of_same (CB.out _)))
 go_wp2_with fail
 go_ret
 exact ⟨by rw [← HS.out]; rfl, au w _⟩
theorem kr {r : Nat} (h : En N S A T F n e tv w) (hr : r < T.rules.length) :
    Calls Tryz.prog 79 #[ae A.K, .int .i64 r] w fun o w' => o = .returned (.bool (used e r)) ∧ w' = w := by
 have k8 := h.bx.get (i := 13) rfl
 have cm := (h.ms true).get (aX hr)
 have HS : Hid ((e.ms true r == 0) = used e r) := hide (by unfold used; by_cases e0 : e.ms true r = 0 <;> simp [e0])
 generalize used e r = o at *
 generalize e.ms true r = x at *
 clear h
 go_enter Tryz.func79, Tryz.ntmps79
 go_wp2_with fail
 go_ret
 exact ⟨by rw [← HS.out]; rfl, rfl⟩
theorem im {r : Nat} (h : En N S A T F n e tv w) (hr : r < T.rules.length) :
    Calls Tryz.prog 54 #[ae A.K, .int .i64 r] w fun o w' => o = .returned (.bool (dropped e r)) ∧ w' = w := by
 have k8 := h.bx.get (i := 14) rfl
 have cm := (h.rf true).get (ev hr)
 have HS : Hid (e.rf true r = dropped e r) := hide rfl
 generalize dropped e r = o at *
 generalize e.rf true r = x at *
 clear h
 go_enter Tryz.func54, Tryz.ntmps54
 go_wp2_with fail
 go_ret
 exact ⟨by rw [← HS.out]; rfl, rfl⟩
theorem jv {q : Nat} (h : En N S A T F n e tv w) (hq : q < n) :
    Calls Tryz.prog 55 #[ae A.K, .int .i64 q] w fun o w' => o = .returned (.tuple #[]) ∧ En N S A T F n (bZ e q) tv w' ∧ Fr (fun k => ¬ S k) w w' := by
 have k8 := h.bx.get (i := 17) rfl
 have cm := h.ob.get (aX hq)
 obtain ⟨v', hv'⟩ : ∃ v', IntKind.i64.wrap (e.ob q - 1) = v' := ⟨_, rfl⟩
 have HV : Hid (cC (e.ob q) = v') := hide hv'
 have HE := hide h
 have HQ := hide hq
 generalize e.ob q = x at cm hv'
 clear h
 have hfol : Tryz.prog.follows .mixedOrders = true := by kernel_rfl
 go_enter Tryz.func55, Tryz.ntmps55
 go_wp2_with fail
 refine aY (by assumption) (by kernel_rfl) (by kernel_rfl) (by kernel_rfl) (by kernel_rfl) ?_
 dsimp only [List.dropLast, List.getLast, List.cons_append, List.nil_append]
 repeat (go_big_quiet_step (fail))
 refine wpQuiet_nil ?_
 rintro _ ⟨nq, rfl⟩
 have hE := HE.out.drewN nq
 have h1 := hE.setOb HQ.out v'
 have h2 := h1.1.setUp (aE e.up)
 have CS := hide (eF (K := A.K) (v := v') (hE.ob.get (aX HQ.out)) (hE.ob.frz q) (h1.1.bx.get (i := 21) rfl) (h1.1.bx.frz 21))
 have HN : Hid (En N S A T F n (bZ e q) tv (((w.drewN nq).setCell ⟨A.ob, q, none⟩ (.int .i64 v')).setCell ⟨A.K, 21, none⟩ (.int .i64 (aE e.up)))) := hide (by
  unfold bZ
  rw [HV.out]
  exact h2.1)
 have HF := hide ((Fr.of_below (au w nq)).trans (h1.2.trans h2.2))
 clear hE h1 h2 k8 cm
 go_wp2_with (go_at_call 66; refine CS.out.mono ?_; rintro _ w2 ⟨rfl, rfl⟩)
 go_end0
 exact ⟨rfl, HN.out, HF.out⟩
end
end Go.Proofs.YthifoamnmhlghaaGreat.Fa
