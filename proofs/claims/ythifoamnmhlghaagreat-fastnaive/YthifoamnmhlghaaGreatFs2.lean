/- met, refute, closed; tell, lose. (tools/gen16/fs2.py wrote this.) -/
import Derived.Test.YthifoamnmhlghaaGreatFs1
namespace Go.Proofs.YthifoamnmhlghaaGreat.Fa
open Go.RowKit

section
variable {N : Nat} {S : Nat → Prop} {A : Ad} {T : Th} {F : List Int} {n : Nat} {e : Es} {tv : Value} {w w' : World}
set_option maxRecDepth 100000 in
set_option maxHeartbeats 3200000 in
theorem metS_any {r : Nat} (h : En N S A T F n e tv w) (hr : r < T.rules.length) :
    Calls Tryz.prog 60 #[ptr A.K, .pointer (some ⟨A.K, 8, none⟩), .int .i64 r] w fun o w' => o = .returned (.bool (decide ((metE e false r).ms false r = 0))) ∧ En N S A T F n (metE e false r) tv w' ∧ Fr (fun k => ¬ S k) w w' := by
  have k8 := h.bx.get (i := 9) rfl
  have cm := (h.ms false).get (rowI_at hr)
  obtain ⟨v', hv'⟩ : ∃ v', IntKind.i64.wrap (e.ms false r - 1) = v' := ⟨_, rfl⟩
  have HV : Hid (dec (e.ms false r) = v') := hide hv'
  have HE := hide h
  have HQ := hide hr
  generalize e.ms false r = x at cm hv'
  clear h
  have hfol : Tryz.prog.follows .mixedOrders = true := by kernel_rfl
  go_enter Tryz.func60, Tryz.ntmps60
  go_wp2_with fail
  refine region_last (by assumption) (by kernel_rfl) (by kernel_rfl) (by kernel_rfl) (by kernel_rfl) ?_
  dsimp only [List.dropLast, List.getLast, List.cons_append, List.nil_append]
  repeat (go_big_quiet_step (fail))
  refine wpQuiet_nil ?_
  rintro _ ⟨nq, rfl⟩
  have hE := HE.out.drewN nq
  have h1 := hE.setMs false HQ.out v'
  have h2 := h1.1.setUp (inc e.up)
  have CS := hide (setI_any (K := A.K) (v := v') ((hE.ms false).get (rowI_at HQ.out)) ((hE.ms false).frz r) (h1.1.bx.get (i := 21) rfl) (h1.1.bx.frz 21))
  have HN : Hid (En N S A T F n (metE e false r) tv (((w.drewN nq).setCell ⟨A.ms false, r, none⟩ (.int .i64 v')).setCell ⟨A.K, 21, none⟩ (.int .i64 (inc e.up)))) := hide (by
    unfold metE
    rw [HV.out]
    exact h2.1)
  have HF := hide ((Fr.of_below (below_drewN w nq)).trans (h1.2.trans h2.2))
  have HB : Hid (decide ((metE e false r).ms false r = 0) = (v' == 0)) := hide (by
    unfold metE
    simp only [updB_at, upd_at, HV.out]
    by_cases e0 : v' = 0 <;> simp [e0])
  have k9 := HN.out.bx.get (i := 9) rfl
  have c9 : (((w.drewN nq).setCell ⟨A.ms false, r, none⟩ (.int .i64 v')).setCell ⟨A.K, 21, none⟩ (.int .i64 (inc e.up))).cell? ⟨A.ms false, r, none⟩ = some (.int .i64 v') := by
    have := (HN.out.ms false).get (rowI_at HQ.out)
    unfold metE at this
    simp only [updB_at, upd_at, HV.out] at this
    exact this
  clear hE h1 h2 k8 cm hv'
  go_wp2_with (go_at_call 66; refine CS.out.mono ?_; rintro _ w2 ⟨rfl, rfl⟩)
  go_ret
  exact ⟨by rw [HB.out]; rfl, HN.out, HF.out⟩
set_option maxRecDepth 100000 in
set_option maxHeartbeats 3200000 in
theorem refuteS_any {r : Nat} (h : En N S A T F n e tv w) (hr : r < T.rules.length) :
    Calls Tryz.prog 62 #[ptr A.K, .pointer (some ⟨A.K, 8, none⟩), .int .i64 r] w fun o w' => o = .returned (.bool (!e.rf false r)) ∧ En N S A T F n (refE e false r) tv w' ∧ Fr (fun k => ¬ S k) w w' := by
  have k8 := h.bx.get (i := 10) rfl
  have cm := (h.rf false).get (rowB_at hr)
  have HE := hide h
  have HQ := hide hr
  cases hx : e.rf false r with
  | true =>
    rw [hx] at cm
    have HR : Hid (refE e false r = e) := hide (by unfold refE; rw [hx]; rfl)
    clear h hx
    go_enter Tryz.func62, Tryz.ntmps62
    go_wp2_with fail
    go_ret
    exact ⟨rfl, by rw [HR.out]; exact HE.out, Fr.refl _ _⟩
  | false =>
    rw [hx] at cm
    have h1 := h.setRf false hr true
    have h2 := h1.1.setUp (inc e.up)
    have CS := hide (setB_any (K := A.K) (v := true) cm ((h.rf false).frz r) (h1.1.bx.get (i := 21) rfl) (h1.1.bx.frz 21))
    have HN : Hid (En N S A T F n (refE e false r) tv ((w.setCell ⟨A.rr false, r, none⟩ (.bool true)).setCell ⟨A.K, 21, none⟩ (.int .i64 (inc e.up)))) := hide (by
      unfold refE
      rw [hx]
      exact h2.1)
    have HF := hide (h1.2.trans h2.2)
    clear h h1 h2 hx
    go_enter Tryz.func62, Tryz.ntmps62
    go_wp2_with (go_at_call 53; refine CS.out.mono ?_; rintro _ w2 ⟨rfl, rfl⟩)
    go_ret
    exact ⟨rfl, HN.out, HF.out⟩
set_option maxRecDepth 100000 in
set_option maxHeartbeats 3200000 in
theorem closedS_any {q : Nat} (h : En N S A T F n e tv w) (hq : q < n) :
    Calls Tryz.prog 63 #[ptr A.K, .pointer (some ⟨A.K, 8, none⟩), .int .i64 q] w fun o w' => o = .returned (.bool (clsB e false q)) ∧ En N S A T F n (clsE e false q) tv w' ∧ Fr (fun k => ¬ S k) w w' := by
  have k8 := h.bx.get (i := 11) rfl
  have cm := (h.op false).get (rowI_at hq)
  obtain ⟨v', hv'⟩ : ∃ v', IntKind.i64.wrap (e.op false q - 1) = v' := ⟨_, rfl⟩
  have HV : Hid (dec (e.op false q) = v') := hide hv'
  have HE := hide h
  have HQ := hide hq
  by_cases hx : 1 < e.op false q
  · have hd : decide (1 < e.op false q) = true := decide_eq_true hx
    have HR : Hid (clsB e false q = false) := hide (by unfold clsB; exact decide_eq_false (by omega))
    have HX := hide hx
    generalize e.op false q = x at cm hv' hd
    clear h hx
    have hfol : Tryz.prog.follows .mixedOrders = true := by kernel_rfl
    go_enter Tryz.func63, Tryz.ntmps63
    go_wp2_with fail
    refine region_last (by assumption) (by kernel_rfl) (by kernel_rfl) (by kernel_rfl) (by kernel_rfl) ?_
    dsimp only [List.dropLast, List.getLast, List.cons_append, List.nil_append]
    repeat (go_big_quiet_step (fail))
    refine wpQuiet_nil ?_
    rintro _ ⟨nq, rfl⟩
    have hE := HE.out.drewN nq
    have h1 := hE.setOp false HQ.out v'
    have h2 := h1.1.setUp (inc e.up)
    have CS := hide (setI_any (K := A.K) (v := v') ((hE.op false).get (rowI_at HQ.out)) ((hE.op false).frz q) (h1.1.bx.get (i := 21) rfl) (h1.1.bx.frz 21))
    have HN : Hid (En N S A T F n (clsE e false q) tv (((w.drewN nq).setCell ⟨A.op false, q, none⟩ (.int .i64 v')).setCell ⟨A.K, 21, none⟩ (.int .i64 (inc e.up)))) := hide (by
      unfold clsE
      rw [if_pos HX.out, HV.out]
      exact h2.1)
    have HF := hide ((Fr.of_below (below_drewN w nq)).trans (h1.2.trans h2.2))
    clear hE h1 h2 k8 cm hv' hd
    go_wp2_with (go_at_call 66; refine CS.out.mono ?_; rintro _ w2 ⟨rfl, rfl⟩)
    go_ret
    exact ⟨by rw [HR.out]; rfl, HN.out, HF.out⟩
  · have hd : decide (1 < e.op false q) = false := decide_eq_false hx
    have HR : Hid (clsB e false q = (e.op false q == 1)) := hide (by unfold clsB; by_cases e0 : e.op false q = 1 <;> simp [e0])
    have HC : Hid (clsE e false q = e) := hide (by unfold clsE; rw [if_neg hx])
    generalize e.op false q = x at cm hd HR
    clear h hx hv' HV
    go_enter Tryz.func63, Tryz.ntmps63
    go_wp2_with fail
    go_ret
    exact ⟨by rw [HR.out]; rfl, by rw [HC.out]; exact HE.out, Fr.refl _ _⟩
set_option maxRecDepth 100000 in
set_option maxHeartbeats 3200000 in
theorem metD_any {r : Nat} (h : En N S A T F n e tv w) (hr : r < T.rules.length) :
    Calls Tryz.prog 60 #[ptr A.K, .pointer (some ⟨A.K, 12, none⟩), .int .i64 r] w fun o w' => o = .returned (.bool (decide ((metE e true r).ms true r = 0))) ∧ En N S A T F n (metE e true r) tv w' ∧ Fr (fun k => ¬ S k) w w' := by
  have k8 := h.bx.get (i := 13) rfl
  have cm := (h.ms true).get (rowI_at hr)
  obtain ⟨v', hv'⟩ : ∃ v', IntKind.i64.wrap (e.ms true r - 1) = v' := ⟨_, rfl⟩
  have HV : Hid (dec (e.ms true r) = v') := hide hv'
  have HE := hide h
  have HQ := hide hr
  generalize e.ms true r = x at cm hv'
  clear h
  have hfol : Tryz.prog.follows .mixedOrders = true := by kernel_rfl
  go_enter Tryz.func60, Tryz.ntmps60
  go_wp2_with fail
  refine region_last (by assumption) (by kernel_rfl) (by kernel_rfl) (by kernel_rfl) (by kernel_rfl) ?_
  dsimp only [List.dropLast, List.getLast, List.cons_append, List.nil_append]
  repeat (go_big_quiet_step (fail))
  refine wpQuiet_nil ?_
  rintro _ ⟨nq, rfl⟩
  have hE := HE.out.drewN nq
  have h1 := hE.setMs true HQ.out v'
  have h2 := h1.1.setUp (inc e.up)
  have CS := hide (setI_any (K := A.K) (v := v') ((hE.ms true).get (rowI_at HQ.out)) ((hE.ms true).frz r) (h1.1.bx.get (i := 21) rfl) (h1.1.bx.frz 21))
  have HN : Hid (En N S A T F n (metE e true r) tv (((w.drewN nq).setCell ⟨A.ms true, r, none⟩ (.int .i64 v')).setCell ⟨A.K, 21, none⟩ (.int .i64 (inc e.up)))) := hide (by
    unfold metE
    rw [HV.out]
    exact h2.1)
  have HF := hide ((Fr.of_below (below_drewN w nq)).trans (h1.2.trans h2.2))
  have HB : Hid (decide ((metE e true r).ms true r = 0) = (v' == 0)) := hide (by
    unfold metE
    simp only [updB_at, upd_at, HV.out]
    by_cases e0 : v' = 0 <;> simp [e0])
  have k9 := HN.out.bx.get (i := 13) rfl
  have c9 : (((w.drewN nq).setCell ⟨A.ms true, r, none⟩ (.int .i64 v')).setCell ⟨A.K, 21, none⟩ (.int .i64 (inc e.up))).cell? ⟨A.ms true, r, none⟩ = some (.int .i64 v') := by
    have := (HN.out.ms true).get (rowI_at HQ.out)
    unfold metE at this
    simp only [updB_at, upd_at, HV.out] at this
    exact this
  clear hE h1 h2 k8 cm hv'
  go_wp2_with (go_at_call 66; refine CS.out.mono ?_; rintro _ w2 ⟨rfl, rfl⟩)
  go_ret
  exact ⟨by rw [HB.out]; rfl, HN.out, HF.out⟩
set_option maxRecDepth 100000 in
set_option maxHeartbeats 3200000 in
theorem refuteD_any {r : Nat} (h : En N S A T F n e tv w) (hr : r < T.rules.length) :
    Calls Tryz.prog 62 #[ptr A.K, .pointer (some ⟨A.K, 12, none⟩), .int .i64 r] w fun o w' => o = .returned (.bool (!e.rf true r)) ∧ En N S A T F n (refE e true r) tv w' ∧ Fr (fun k => ¬ S k) w w' := by
  have k8 := h.bx.get (i := 14) rfl
  have cm := (h.rf true).get (rowB_at hr)
  have HE := hide h
  have HQ := hide hr
  cases hx : e.rf true r with
  | true =>
    rw [hx] at cm
    have HR : Hid (refE e true r = e) := hide (by unfold refE; rw [hx]; rfl)
    clear h hx
    go_enter Tryz.func62, Tryz.ntmps62
    go_wp2_with fail
    go_ret
    exact ⟨rfl, by rw [HR.out]; exact HE.out, Fr.refl _ _⟩
  | false =>
    rw [hx] at cm
    have h1 := h.setRf true hr true
    have h2 := h1.1.setUp (inc e.up)
    have CS := hide (setB_any (K := A.K) (v := true) cm ((h.rf true).frz r) (h1.1.bx.get (i := 21) rfl) (h1.1.bx.frz 21))
    have HN : Hid (En N S A T F n (refE e true r) tv ((w.setCell ⟨A.rr true, r, none⟩ (.bool true)).setCell ⟨A.K, 21, none⟩ (.int .i64 (inc e.up)))) := hide (by
      unfold refE
      rw [hx]
      exact h2.1)
    have HF := hide (h1.2.trans h2.2)
    clear h h1 h2 hx
    go_enter Tryz.func62, Tryz.ntmps62
    go_wp2_with (go_at_call 53; refine CS.out.mono ?_; rintro _ w2 ⟨rfl, rfl⟩)
    go_ret
    exact ⟨rfl, HN.out, HF.out⟩
set_option maxRecDepth 100000 in
set_option maxHeartbeats 3200000 in
theorem closedD_any {q : Nat} (h : En N S A T F n e tv w) (hq : q < n) :
    Calls Tryz.prog 63 #[ptr A.K, .pointer (some ⟨A.K, 12, none⟩), .int .i64 q] w fun o w' => o = .returned (.bool (clsB e true q)) ∧ En N S A T F n (clsE e true q) tv w' ∧ Fr (fun k => ¬ S k) w w' := by
  have k8 := h.bx.get (i := 15) rfl
  have cm := (h.op true).get (rowI_at hq)
  obtain ⟨v', hv'⟩ : ∃ v', IntKind.i64.wrap (e.op true q - 1) = v' := ⟨_, rfl⟩
  have HV : Hid (dec (e.op true q) = v') := hide hv'
  have HE := hide h
  have HQ := hide hq
  by_cases hx : 1 < e.op true q
  · have hd : decide (1 < e.op true q) = true := decide_eq_true hx
    have HR : Hid (clsB e true q = false) := hide (by unfold clsB; exact decide_eq_false (by omega))
    have HX := hide hx
    generalize e.op true q = x at cm hv' hd
    clear h hx
    have hfol : Tryz.prog.follows .mixedOrders = true := by kernel_rfl
    go_enter Tryz.func63, Tryz.ntmps63
    go_wp2_with fail
    refine region_last (by assumption) (by kernel_rfl) (by kernel_rfl) (by kernel_rfl) (by kernel_rfl) ?_
    dsimp only [List.dropLast, List.getLast, List.cons_append, List.nil_append]
    repeat (go_big_quiet_step (fail))
    refine wpQuiet_nil ?_
    rintro _ ⟨nq, rfl⟩
    have hE := HE.out.drewN nq
    have h1 := hE.setOp true HQ.out v'
    have h2 := h1.1.setUp (inc e.up)
    have CS := hide (setI_any (K := A.K) (v := v') ((hE.op true).get (rowI_at HQ.out)) ((hE.op true).frz q) (h1.1.bx.get (i := 21) rfl) (h1.1.bx.frz 21))
    have HN : Hid (En N S A T F n (clsE e true q) tv (((w.drewN nq).setCell ⟨A.op true, q, none⟩ (.int .i64 v')).setCell ⟨A.K, 21, none⟩ (.int .i64 (inc e.up)))) := hide (by
      unfold clsE
      rw [if_pos HX.out, HV.out]
      exact h2.1)
    have HF := hide ((Fr.of_below (below_drewN w nq)).trans (h1.2.trans h2.2))
    clear hE h1 h2 k8 cm hv' hd
    go_wp2_with (go_at_call 66; refine CS.out.mono ?_; rintro _ w2 ⟨rfl, rfl⟩)
    go_ret
    exact ⟨by rw [HR.out]; rfl, HN.out, HF.out⟩
  · have hd : decide (1 < e.op true q) = false := decide_eq_false hx
    have HR : Hid (clsB e true q = (e.op true q == 1)) := hide (by unfold clsB; by_cases e0 : e.op true q = 1 <;> simp [e0])
    have HC : Hid (clsE e true q = e) := hide (by unfold clsE; rw [if_neg hx])
    generalize e.op true q = x at cm hd HR
    clear h hx hv' HV
    go_enter Tryz.func63, Tryz.ntmps63
    go_wp2_with fail
    go_ret
    exact ⟨by rw [HR.out]; rfl, by rw [HC.out]; exact HE.out, Fr.refl _ _⟩
end
end Go.Proofs.YthifoamnmhlghaaGreat.Fa
