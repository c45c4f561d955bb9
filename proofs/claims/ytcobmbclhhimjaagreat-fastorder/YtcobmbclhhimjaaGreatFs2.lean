/- met, refute, closed; tell, lose. (tools/gen16/fs2.py wrote this.) -/
import Derived.Test.YtcobmbclhhimjaaGreatFs1
import Derived.Deep.RegionLaw
namespace Go.Proofs.YtcobmbclhhimjaaGreat.Fa
open Go.RowKit

section
variable {N : Nat} {S : Nat → Prop} {A : Ad} {T : Th} {F : List Int} {n : Nat} {e : Es} {tv : Value} {w w' : World}
set_option maxRecDepth 100000 in
set_option maxHeartbeats 3200000 in
theorem metS_any {r : Nat} (h : En N S A T F n e tv w) (hr : r < T.rules.length) :
    Calls Tryz.prog 102 #[ptr A.K, .pointer (some ⟨A.K, 8, none⟩), .int .i64 r] w fun o w' => o = .returned (.bool (decide ((metE e false r).ms false r = 0))) ∧ En N S A T F n (metE e false r) tv w' ∧ Fr (fun k => ¬ S k) w w' := by
  have k8 := h.bx.get (i := 9) rfl
  have cm := (h.ms false).get (rowI_at hr)
  obtain ⟨v', hv'⟩ : ∃ v', IntKind.i64.wrap (e.ms false r - 1) = v' := ⟨_, rfl⟩
  have HV : Hid (dec (e.ms false r) = v') := hide hv'
  have HE := hide h
  have HQ := hide hr
  generalize e.ms false r = x at cm hv'
  clear h
  have hfol : Tryz.prog.follows .mixedOrders = true := by kernel_rfl
  go_enter Tryz.func102, Tryz.ntmps102
  go_wp2_with fail
  refine region_last (by assumption) (by kernel_rfl) (by kernel_rfl) (by kernel_rfl) (by kernel_rfl) ?_
  dsimp only [List.dropLast, List.getLast, List.cons_append, List.nil_append]
  repeat (go_big_quiet_step (fail))
  refine wpQuiet_nil ?_
  rintro _ ⟨nq, rfl⟩
  have hE := HE.out.drewN nq
  have h1 := hE.setMs false HQ.out v'
  have h2 := h1.1.setUp (inc e.up)
  have CS := hide (setI_any (K := A.K) (v := v') ((hE.ms false).get (rowI_at HQ.out)) ((hE.ms false).frz r) (h1.1.bx.get (i := 21) rfl) (h1.1.bx.frz 21))
  have HN : Hid (En N S A T F n (metE e false r) tv (((w.drewN nq).setCell ⟨A.ms false, r, none⟩ (.int .i64 v')).setCell ⟨A.K, 21, none⟩ (.int .i64 (inc e.up)))) := hide (by
    unfold metE
    rw [HV.out]
    exact h2.1)
  have HF := hide ((Fr.of_below (below_drewN w nq)).trans (h1.2.trans h2.2))
  have HB : Hid (decide ((metE e false r).ms false r = 0) = (v' == 0)) := hide (by
    unfold metE
    simp only [updB_at, upd_at, HV.out]
    by_cases e0 : v' = 0 <;> simp [e0])
  have k9 := HN.out.bx.get (i := 9) rfl
  have c9 : (((w.drewN nq).setCell ⟨A.ms false, r, none⟩ (.int .i64 v')).setCell ⟨A.K, 21, none⟩ (.int .i64 (inc e.up))).cell? ⟨A.ms false, r, none⟩ = some (.int .i64 v') := by
    have := (HN.out.ms false).get (rowI_at HQ.out)
    unfold metE at this
    simp only [updB_at, upd_at, HV.out] at this
    exact this
  clear hE h1 h2 k8 cm hv'
  go_wp2_with (go_at_call 108; refine CS.out.mono ?_; rintro _ w2 ⟨rfl, rfl⟩)
  go_ret
  exact ⟨by rw [HB.out]; rfl, HN.out, HF.out⟩
set_option maxRecDepth 100000 in
set_option maxHeartbeats 3200000 in
theorem refuteS_any {r : Nat} (h : En N S A T F n e tv w) (hr : r < T.rules.length) :
    Calls Tryz.prog 104 #[ptr A.K, .pointer (some ⟨A.K, 8, none⟩), .int .i64 r] w fun o w' => o = .returned (.bool (!e.rf false r)) ∧ En N S A T F n (refE e false r) tv w' ∧ Fr (fun k => ¬ S k) w w' := by
  have k8 := h.bx.get (i := 10) rfl
  have cm := (h.rf false).get (rowB_at hr)
  have HE := hide h
  have HQ := hide hr
  cases hx : e.rf false r with
  | true =>
    rw [hx] at cm
    have HR : Hid (refE e false r = e) := hide (by unfold refE; rw [hx]; rfl)
    clear h hx
    go_enter Tryz.func104, Tryz.ntmps104
    go_wp2_with fail
    go_ret
    exact ⟨rfl, by rw [HR.out]; exact HE.out, Fr.refl _ _⟩
  | false =>
    rw [hx] at cm
    have h1 := h.setRf false hr true
    have h2 := h1.1.setUp (inc e.up)
    have CS := hide (setB_any (K := A.K) (v := true) cm ((h.rf false).frz r) (h1.1.bx.get (i := 21) rfl) (h1.1.bx.frz 21))
    have HN : Hid (En N S A T F n (refE e false r) tv ((w.setCell ⟨A.rr false, r, none⟩ (.bool true)).setCell ⟨A.K, 21, none⟩ (.int .i64 (inc e.up)))) := hide (by
      unfold refE
      rw [hx]
      exact h2.1)
    have HF := hide (h1.2.trans h2.2)
    clear h h1 h2 hx
    go_enter Tryz.func104, Tryz.ntmps104
    go_wp2_with (go_at_call 96; refine CS.out.mono ?_; rintro _ w2 ⟨rfl, rfl⟩)
    go_ret
    exact ⟨rfl, HN.out, HF.out⟩
set_option maxRecDepth 100000 in
set_option maxHeartbeats 3200000 in
theorem closedS_any {q : Nat} (h : En N S A T F n e tv w) (hq : q < n) :
    Calls Tryz.prog 105 #[ptr A.K, .pointer (some ⟨A.K, 8, none⟩), .int .i64 q] w fun o w' => o = .returned (.bool (clsB e false q)) ∧ En N S A T F n (clsE e false q) tv w' ∧ Fr (fun k => ¬ S k) w w' := by
  have k8 := h.bx.get (i := 11) rfl
  have cm := (h.op false).get (rowI_at hq)
  obtain ⟨v', hv'⟩ : ∃ v', IntKind.i64.wrap (e.op false q - 1) = v' := ⟨_, rfl⟩
  have HV : Hid (dec (e.op false q) = v') := hide hv'
  have HE := hide h
  have HQ := hide hq
  by_cases hx : 1 < e.op false q
  · have hd : decide (1 < e.op false q) = true := decide_eq_true hx
    have HR : Hid (clsB e false q = false) := hide (by unfold clsB; exact decide_eq_false (by omega))
    have HX := hide hx
    generalize e.op false q = x at cm hv' hd
    clear h hx
    have hfol : Tryz.prog.follows .mixedOrders = true := by kernel_rfl
    go_enter Tryz.func105, Tryz.ntmps105
    go_wp2_with fail
    refine region_last (by assumption) (by kernel_rfl) (by kernel_rfl) (by kernel_rfl) (by kernel_rfl) ?_
    dsimp only [List.dropLast, List.getLast, List.cons_append, List.nil_append]
    repeat (go_big_quiet_step (fail))
    refine wpQuiet_nil ?_
    rintro _ ⟨nq, rfl⟩
    have hE := HE.out.drewN nq
    have h1 := hE.setOp false HQ.out v'
    have h2 := h1.1.setUp (inc e.up)
    have CS := hide (setI_any (K := A.K) (v := v') ((hE.op false).get (rowI_at HQ.out)) ((hE.op false).frz q) (h1.1.bx.get (i := 21) rfl) (h1.1.bx.frz 21))
    have HN : Hid (En N S A T F n (clsE e false q) tv (((w.drewN nq).setCell ⟨A.op false, q, none⟩ (.int .i64 v')).setCell ⟨A.K, 21, none⟩ (.int .i64 (inc e.up)))) := hide (by
      unfold clsE
      rw [if_pos HX.out, HV.out]
      exact h2.1)
    have HF := hide ((Fr.of_below (below_drewN w nq)).trans (h1.2.trans h2.2))
    clear hE h1 h2 k8 cm hv' hd
    go_wp2_with (go_at_call 108; refine CS.out.mono ?_; rintro _ w2 ⟨rfl, rfl⟩)
    go_ret
    exact ⟨by rw [HR.out]; rfl, HN.out, HF.out⟩
  · have hd : decide (1 < e.op false q) = false := decide_eq_false hx
    have HR : Hid (clsB e false q = (e.op false q == 1)) := hide (by unfold clsB; by_cases e0 : e.op false q = 1 <;> simp [e0])
    have HC : Hid (clsE e false q = e) := hide (by unfold clsE; rw [if_neg hx])
    generalize e.op false q = x at cm hd HR
    clear h hx hv' HV
    go_enter Tryz.func105, Tryz.ntmps105
    go_wp2_with fail
    go_ret
    exact ⟨by rw [HR.out]; rfl, by rw [HC.out]; exact HE.out, Fr.refl _ _⟩
set_option maxRecDepth 100000 in
set_option maxHeartbeats 3200000 in
theorem metD_any {r : Nat} (h : En N S A T F n e tv w) (hr : r < T.rules.length) :
    Calls Tryz.prog 102 #[ptr A.K, .pointer (some ⟨A.K, 12, none⟩), .int .i64 r] w fun o w' => o = .returned (.bool (decide ((metE e true r).ms true r = 0))) ∧ En N S A T F n (metE e true r) tv w' ∧ Fr (fun k => ¬ S k) w w' := by
  have k8 := h.bx.get (i := 13) rfl
  have cm := (h.ms true).get (rowI_at hr)
  obtain ⟨v', hv'⟩ : ∃ v', IntKind.i64.wrap (e.ms true r - 1) = v' := ⟨_, rfl⟩
  have HV : Hid (dec (e.ms true r) = v') := hide hv'
  have HE := hide h
  have HQ := hide hr
  generalize e.ms true r = x at cm hv'
  clear h
  have hfol : Tryz.prog.follows .mixedOrders = true := by kernel_rfl
  go_enter Tryz.func102, Tryz.ntmps102
  go_wp2_with fail
  refine region_last (by assumption) (by kernel_rfl) (by kernel_rfl) (by kernel_rfl) (by kernel_rfl) ?_
  dsimp only [List.dropLast, List.getLast, List.cons_append, List.nil_append]
  repeat (go_big_quiet_step (fail))
  refine wpQuiet_nil ?_
  rintro _ ⟨nq, rfl⟩
  have hE := HE.out.drewN nq
  have h1 := hE.setMs true HQ.out v'
  have h2 := h1.1.setUp (inc e.up)
  have CS := hide (setI_any (K := A.K) (v := v') ((hE.ms true).get (rowI_at HQ.out)) ((hE.ms true).frz r) (h1.1.bx.get (i := 21) rfl) (h1.1.bx.frz 21))
  have HN : Hid (En N S A T F n (metE e true r) tv (((w.drewN nq).setCell ⟨A.ms true, r, none⟩ (.int .i64 v')).setCell ⟨A.K, 21, none⟩ (.int .i64 (inc e.up)))) := hide (by
    unfold metE
    rw [HV.out]
    exact h2.1)
  have HF := hide ((Fr.of_below (below_drewN w nq)).trans (h1.2.trans h2.2))
  have HB : Hid (decide ((metE e true r).ms true r = 0) = (v' == 0)) := hide (by
    unfold metE
    simp only [updB_at, upd_at, HV.out]
    by_cases e0 : v' = 0 <;> simp [e0])
  have k9 := HN.out.bx.get (i := 13) rfl
  have c9 : (((w.drewN nq).setCell ⟨A.ms true, r, none⟩ (.int .i64 v')).setCell ⟨A.K, 21, none⟩ (.int .i64 (inc e.up))).cell? ⟨A.ms true, r, none⟩ = some (.int .i64 v') := by
    have := (HN.out.ms true).get (rowI_at HQ.out)
    unfold metE at this
    simp only [updB_at, upd_at, HV.out] at this
    exact this
  clear hE h1 h2 k8 cm hv'
  go_wp2_with (go_at_call 108; refine CS.out.mono ?_; rintro _ w2 ⟨rfl, rfl⟩)
  go_ret
  exact ⟨by rw [HB.out]; rfl, HN.out, HF.out⟩
set_option maxRecDepth 100000 in
set_option maxHeartbeats 3200000 in
theorem refuteD_any {r : Nat} (h : En N S A T F n e tv w) (hr : r < T.rules.length) :
    Calls Tryz.prog 104 #[ptr A.K, .pointer (some ⟨A.K, 12, none⟩), .int .i64 r] w fun o w' => o = .returned (.bool (!e.rf true r)) ∧ En N S A T F n (refE e true r) tv w' ∧ Fr (fun k => ¬ S k) w w' := by
  have k8 := h.bx.get (i := 14) rfl
  have cm := (h.rf true).get (rowB_at hr)
  have HE := hide h
  have HQ := hide hr
  cases hx : e.rf true r with
  | true =>
    rw [hx] at cm
    have HR : Hid (refE e true r = e) := hide (by unfold refE; rw [hx]; rfl)
    clear h hx
    go_enter Tryz.func104, Tryz.ntmps104
    go_wp2_with fail
    go_ret
    exact ⟨rfl, by rw [HR.out]; exact HE.out, Fr.refl _ _⟩
  | false =>
    rw [hx] at cm
    have h1 := h.setRf true hr true
    have h2 := h1.1.setUp (inc e.up)
    have CS := hide (setB_any (K := A.K) (v := true) cm ((h.rf true).frz r) (h1.1.bx.get (i := 21) rfl) (h1.1.bx.frz 21))
    have HN : Hid (En N S A T F n (refE e true r) tv ((w.setCell ⟨A.rr true, r, none⟩ (.bool true)).setCell ⟨A.K, 21, none⟩ (.int .i64 (inc e.up)))) := hide (by
      unfold refE
      rw [hx]
      exact h2.1)
    have HF := hide (h1.2.trans h2.2)
    clear h h1 h2 hx
    go_enter Tryz.func104, Tryz.ntmps104
    go_wp2_with (go_at_call 96; refine CS.out.mono ?_; rintro _ w2 ⟨rfl, rfl⟩)
    go_ret
    exact ⟨rfl, HN.out, HF.out⟩
set_option maxRecDepth 100000 in
set_option maxHeartbeats 3200000 in
theorem closedD_any {q : Nat} (h : En N S A T F n e tv w) (hq : q < n) :
    Calls Tryz.prog 105 #[ptr A.K, .pointer (some ⟨A.K, 12, none⟩), .int .i64 q] w fun o w' => o = .returned (.bool (clsB e true q)) ∧ En N S A T F n (clsE e true q) tv w' ∧ Fr (fun k => ¬ S k) w w' := by
  have k8 := h.bx.get (i := 15) rfl
  have cm := (h.op true).get (rowI_at hq)
  obtain ⟨v', hv'⟩ : ∃ v', IntKind.i64.wrap (e.op true q - 1) = v' := ⟨_, rfl⟩
  have HV : Hid (dec (e.op true q) = v') := hide hv'
  have HE := hide h
  have HQ := hide hq
  by_cases hx : 1 < e.op true q
  · have hd : decide (1 < e.op true q) = true := decide_eq_true hx
    have HR : Hid (clsB e true q = false) := hide (by unfold clsB; exact decide_eq_false (by omega))
    have HX := hide hx
    generalize e.op true q = x at cm hv' hd
    clear h hx
    have hfol : Tryz.prog.follows .mixedOrders = true := by kernel_rfl
    go_enter Tryz.func105, Tryz.ntmps105
    go_wp2_with fail
    refine region_last (by assumption) (by kernel_rfl) (by kernel_rfl) (by kernel_rfl) (by kernel_rfl) ?_
    dsimp only [List.dropLast, List.getLast, List.cons_append, List.nil_append]
    repeat (go_big_quiet_step (fail))
    refine wpQuiet_nil ?_
    rintro _ ⟨nq, rfl⟩
    have hE := HE.out.drewN nq
    have h1 := hE.setOp true HQ.out v'
    have h2 := h1.1.setUp (inc e.up)
    have CS := hide (setI_any (K := A.K) (v := v') ((hE.op true).get (rowI_at HQ.out)) ((hE.op true).frz q) (h1.1.bx.get (i := 21) rfl) (h1.1.bx.frz 21))
    have HN : Hid (En N S A T F n (clsE e true q) tv (((w.drewN nq).setCell ⟨A.op true, q, none⟩ (.int .i64 v')).setCell ⟨A.K, 21, none⟩ (.int .i64 (inc e.up)))) := hide (by
      unfold clsE
      rw [if_pos HX.out, HV.out]
      exact h2.1)
    have HF := hide ((Fr.of_below (below_drewN w nq)).trans (h1.2.trans h2.2))
    clear hE h1 h2 k8 cm hv' hd
    go_wp2_with (go_at_call 108; refine CS.out.mono ?_; rintro _ w2 ⟨rfl, rfl⟩)
    go_ret
    exact ⟨by rw [HR.out]; rfl, HN.out, HF.out⟩
  · have hd : decide (1 < e.op true q) = false := decide_eq_false hx
    have HR : Hid (clsB e true q = (e.op true q == 1)) := hide (by unfold clsB; by_cases e0 : e.op true q = 1 <;> simp [e0])
    have HC : Hid (clsE e true q = e) := hide (by unfold clsE; rw [if_neg hx])
    generalize e.op true q = x at cm hd HR
    clear h hx hv' HV
    go_enter Tryz.func105, Tryz.ntmps105
    go_wp2_with fail
    go_ret
    exact ⟨by rw [HR.out]; rfl, by rw [HC.out]; exact HE.out, Fr.refl _ _⟩
end
end Go.Proofs.YtcobmbclhhimjaaGreat.Fa
/- tell, lose. -/
namespace Go.Proofs.YtcobmbclhhimjaaGreat.Fa
open Go.RowKit

theorem infoPr : (Tryz.prog.info? 92).map (fun i => (i.zero, i.size, i.bytes)) = some (some (.agg #[.int .i64 0, .int .i64 0]), 2, 16) := by kernel_rfl
section
variable {N : Nat} {S : Nat → Prop} {A : Ad} {T : Th} {F : List Int} {n : Nat} {e : Es} {w w' : World}
/-- The engine, wherever what is told lies. -/
def Eg (N : Nat) (S : Nat → Prop) (A : Ad) (T : Th) (F : List Int) (n : Nat) (e : Es) (w : World) : Prop := ∃ tv, En N S A T F n e tv w
theorem Eg.go (h : Eg N S A T F n e w) (hb : Below w.heap.size w w') : Eg N S A T F n e w' := by
  obtain ⟨tv, h⟩ := h
  exact ⟨tv, h.go hb⟩
set_option maxRecDepth 100000 in
set_option maxHeartbeats 6400000 in
theorem tell_any {q : Nat} {t : Int} (h : Eg N S A T F n e w) (hq : q < n) (ht : isTag t) :
    Calls Tryz.prog 99 #[ptr A.K, .int .i64 q, .int .i64 t] w fun o w' => o = .returned (.tuple #[]) ∧ Eg N S A T F n (tell e q t) w' ∧ Fr (fun k => ¬ S k) w w' := by
  obtain ⟨tv, h⟩ := h
  have CH := hide (has_any h hq ht)
  have HE := hide h
  cases hh : has e q t with
  | true =>
    rw [hh] at CH
    have HR : Hid (tell e q t = e) := hide (by unfold tell; rw [hh]; rfl)
    clear h hh
    go_enter Tryz.func99, Tryz.ntmps99
    go_wp2_with (go_at_call 36; refine CH.out.mono ?_; rintro _ w2 ⟨rfl, hb⟩; have HB := hide hb; clear hb)
    refine bodyPost_ret (results_none rfl _ _ _) rfl ?_
    exact ⟨rfl, by rw [HR.out]; exact ⟨tv, HE.out.go HB.out⟩, Fr.of_below HB.out⟩
  | false =>
    rw [hh] at CH
    have HHH := hide hh
    have HR : Hid (tell e q t = { e with mq := upd e.mq q (orB (e.mq q) t), td := e.td ++ [((q : Int), t)], up := inc (inc e.up) }) := hide (by unfold tell; rw [hh]; rfl)
    clear h hh
    have hfol : Tryz.prog.follows .mixedOrders = true := by kernel_rfl
    go_enter Tryz.func99, Tryz.ntmps99
    go_upto_region 1 with (go_at_call 36; refine CH.out.mono ?_; rintro _ w2 ⟨rfl, hb⟩; have HB := hide hb; clear hb)
    have HE2 := hide (HE.out.go HB.out)
    clear CH HE
    have k8 := HE2.out.bx.get (i := 18) rfl
    have cm := HE2.out.mq.get (rowU_at hq)
    have CB := hide fun d : Nat => bitF_any (w := w2.drewN d) ht
    obtain ⟨x, hx⟩ : ∃ x, e.mq (q : Int) = x := ⟨_, rfl⟩
    obtain ⟨y, hy⟩ : ∃ y, bitM t = y := ⟨_, rfl⟩
    obtain ⟨v, hv⟩ : ∃ v, bits .or .u8 x y = v := ⟨_, rfl⟩
    have HV : Hid (orB (e.mq (q : Int)) t = v) := hide (by unfold orB; rw [hx, hy]; exact hv)
    rw [hx] at cm
    rw [hy] at CB
    clear hx hy
    refine region_last (by assumption) (by kernel_rfl) (by kernel_rfl) (by kernel_rfl) (by kernel_rfl) ?_
    dsimp only [List.dropLast, List.getLast, List.cons_append, List.nil_append]
    repeat (go_big_quiet_step ((go_at_call 53; exact Calls.quiet_of_same (CB.out _))))
    refine wpQuiet_nil ?_
    rintro _ ⟨nq, rfl⟩
    have hE := HE2.out.drewN nq
    have h1 : Fx A.mq 77 (rowU n (upd e.mq q v)) ((w2.drewN nq).setCell ⟨A.mq, q, none⟩ (.int .u8 v)) := by
      have := hE.mq.set q (.int .u8 v)
      rw [rowU_set hq] at this
      exact this
    have h2 := hE.bx.keep (other_set (i := q) (v := .int .u8 v) (fx_ne hE.bx hE.mq (by decide)))
    have CS := hide (setU_any (K := A.K) (v := v) (hE.mq.get (rowU_at hq)) (hE.mq.frz q) (h2.get (i := 21) rfl) (h2.frz 21))
    have h3 := h2.set 21 (.int .i64 (inc e.up))
    have HTD : Hid ((((w2.drewN nq).setCell ⟨A.mq, q, none⟩ (.int .u8 v)).setCell ⟨A.K, 21, none⟩ (.int .i64 (inc e.up))).ownsRow 0 92 2 tv e.td.length (prs e.td)) := hide (owns_keep hE.td fun g hg => by rw [other_set (show g ≠ A.K from fun x => own_ne' hE.td hE.bx (by decide) (x ▸ hg)), other_set (show g ≠ A.mq from fun x => own_ne' hE.td hE.mq (by decide) (x ▸ hg))])
    have HED := hide hE
    clear k8 cm h1 h2 hE CB hv
    go_upto_region 2 with (go_at_call 118; refine CS.out.mono ?_; rintro _ w3 ⟨rfl, rfl⟩)
    clear CS
    have HW3 : Hid (∀ k, k < w2.heap.size → (((w2.drewN nq).setCell ⟨A.mq, q, none⟩ (.int .u8 v)).setCell ⟨A.K, 21, none⟩ (.int .i64 (inc e.up))).heap[k]? = (((w2.drewN nq).setCell ⟨A.mq, q, none⟩ (.int .u8 (orB (e.mq q) t))).setCell ⟨A.K, 21, none⟩ (.int .i64 (inc e.up))).heap[k]?) := hide fun k _ => by rw [HV.out]
    have HS3 : Hid ((((w2.drewN nq).setCell ⟨A.mq, q, none⟩ (.int .u8 v)).setCell ⟨A.K, 21, none⟩ (.int .i64 (inc e.up))).heap.size = w2.heap.size ∧ (((w2.drewN nq).setCell ⟨A.mq, q, none⟩ (.int .u8 v)).setCell ⟨A.K, 21, none⟩ (.int .i64 (inc e.up))).os = w2.os ∧ (((w2.drewN nq).setCell ⟨A.mq, q, none⟩ (.int .u8 v)).setCell ⟨A.K, 21, none⟩ (.int .i64 (inc e.up))).tape = w2.tape ∧ (((w2.drewN nq).setCell ⟨A.mq, q, none⟩ (.int .u8 v)).setCell ⟨A.K, 21, none⟩ (.int .i64 (inc e.up))).output = w2.output) := hide ⟨by simp, rfl, rfl, rfl⟩
    have HBX3 := hide h3
    clear h3
    generalize ((w2.drewN nq).setCell ⟨A.mq, q, none⟩ (.int .u8 v)).setCell ⟨A.K, 21, none⟩ (.int .i64 (inc e.up)) = w3 at *
    obtain ⟨ta, tc, htv⟩ := owns_slice HTD.out
    subst htv
    obtain ⟨m, hm⟩ : ∃ m, e.td.length = m := ⟨_, rfl⟩
    have HM := hide hm
    have c19 : w3.cell? ⟨A.K, 19, none⟩ = some (.slice ta m tc) := by rw [← hm]; exact HBX3.out.get (i := 19) rfl
    have c19b : (w3.alloc (.cells #[.int .i64 q, .int .i64 t] 92)).cell? ⟨A.K, 19, none⟩ = some (.slice ta m tc) := by rw [← hm]; exact (HBX3.out.keep ((below_new w3 _).block _ HBX3.out.lt)).get (i := 19) rfl
    have hml : m ≤ 16384 := by have := HED.out.tok.len; have := HED.out.pf.n4; omega
    obtain ⟨iP, hiP, zP0, zP1, zP2⟩ := info_parts infoPr
    have HOM : Hid ((w3.alloc (.cells #[.int .i64 q, .int .i64 t] 92)).drew.ownsRow 0 92 2 (.slice ta m tc) m (prs e.td)) := hide (by
      have := owns_keep HTD.out fun g hg => ((below_new w3 (.cells #[.int .i64 q, .int .i64 t] 92)).drew).block g (owns_lt HTD.out hg)
      rw [hm] at this
      exact this)
    have HNA : Hid (∀ j u, [Value.int .i64 q, .int .i64 t][j]? = some u → (w3.alloc (.cells #[.int .i64 q, .int .i64 t] 92)).drew.cell? ((⟨w3.heap.size, 0, none⟩ : Addr).add j) = some u) := hide (World.news_of_block (cs := [Value.int .i64 q, .int .i64 t].toArray) (t := 92) (fr := (0, 0)) (heap_alloc_new w3 (.cells #[.int .i64 q, .int .i64 t] 92)))
    have HSA : Hid ((w3.alloc (.cells #[.int .i64 q, .int .i64 t] 92)).drew.heap.size = w3.heap.size + 1) := hide (by show (w3.alloc (.cells #[.int .i64 q, .int .i64 t] 92)).heap.size = _; simp)
    have HKN : Hid (Value.ownBlock (.slice ta m tc) ≠ some A.K) := hide (by rw [← hm]; exact own_ne' HTD.out HBX3.out (by decide))
    clear hm
    go_region_law (first | (refine step_append_lies _ (by rfl) _ _ _ (by rfl) 0 92 iP _ 2 16 Tryz.underlying60 hiP zP0 zP1 zP2 rfl (by decide) (.slice ta m tc) m (prs e.td) (by rfl) HOM.out ⟨w3.heap.size, 0, none⟩ 1 1 [.int .i64 q, .int .i64 t] (by rfl) rfl HNA.out (by simp [Value.oneCell']) (by decide) (by unfold maxLen; omega) (by omega) (Nat.zero_le _) (w3.heap.size + 1) HSA.out ?_; intro gg cap w5 hown hgrow hat hlt5; have HGR := hide hgrow; have HOW := hide hown; have HAT := hide hat; have HLT := hide hlt5; have HB5 := hide (HBX3.out.keep (grown_old2 hgrow HBX3.out.lt HKN.out)); have HB6 := hide (HB5.out.set 19 (.slice (some ⟨gg, 0, none⟩) (m + 1) cap)); have CS := hide (setS_any (K := A.K) (a := some ⟨gg, 0, none⟩) (m := m + 1) (c := cap) (HB5.out.get (i := 19) rfl) (HB5.out.frz 19) (HB6.out.get (i := 21) rfl) (HB6.out.frz 21)); clear hown hgrow hat hlt5) | (go_simp; go_wp2_with (go_at_call 119; refine CS.out.mono ?_; rintro _ w6 ⟨rfl, rfl⟩)))
    all_goals
      have hm := HM.out
      subst hm
      have hs3 := HS3.out
      have hgs := HGR.out.size
      have hga := HSA.out
      have hfin := HED.out.setMk hq ht HHH.out (w1 := w5) (u1 := inc e.up) (g := gg) (c := cap) (by rw [prs_snoc]; exact HOW.out)
        (fun k hk hn => (grown_old2 HGR.out (by rw [hs3.1]; exact hk) hn).trans (HW3.out k hk)) (by show w2.heap.size ≤ _; omega)
        (by rcases HAT.out with h | h; exact .inl h; exact .inr (by show w2.heap.size ≤ gg; omega)) ⟨HGR.out.os.trans hs3.2.1, HGR.out.tape.trans hs3.2.2.1, HGR.out.output.trans hs3.2.2.2⟩ (inc (inc e.up))
      have HFIN := hide hfin
      clear hfin hs3 hgs hga c19 c19b
      go_end0
      exact ⟨rfl, by rw [HR.out]; exact ⟨_, HFIN.out.1⟩, (Fr.of_below HB.out).trans ((Fr.of_below (below_drewN w2 nq)).trans HFIN.out.2)⟩
set_option maxRecDepth 100000 in
set_option maxHeartbeats 6400000 in
theorem lose_any {q : Nat} (h : Eg N S A T F n e w) (hq : q < n) :
    Calls Tryz.prog 103 #[ptr A.K, .int .i64 q] w fun o w' => o = .returned (.tuple #[]) ∧ Eg N S A T F n (loseE e q) w' ∧ Fr (fun k => ¬ S k) w w' := by
  have HE := hide h
  obtain ⟨tv, h⟩ := h
  have CH := hide (has_any h hq tag2)
  cases hh : has e q 2 with
  | true =>
    rw [hh] at CH
    have HR : Hid (loseE e q = tell e q 4) := hide (by unfold loseE; rw [hh]; rfl)
    clear h hh
    go_enter Tryz.func103, Tryz.ntmps103
    go_wp2_with (first | (go_at_call 36; refine CH.out.mono ?_; rintro _ w2 ⟨rfl, hb⟩; have HB := hide hb; have CT := hide (tell_any (HE.out.go hb) hq tag4); clear hb) | (go_at_call 99; refine CT.out.mono ?_; rintro _ w3 ⟨rfl, he, hf⟩; have HE3 := hide he; have HF3 := hide hf; clear he hf))
    go_end0
    exact ⟨rfl, by rw [HR.out]; exact HE3.out, (Fr.of_below HB.out).trans HF3.out⟩
  | false =>
    rw [hh] at CH
    have HR : Hid (loseE e q = e) := hide (by unfold loseE; rw [hh]; rfl)
    clear h hh
    go_enter Tryz.func103, Tryz.ntmps103
    go_wp2_with (go_at_call 36; refine CH.out.mono ?_; rintro _ w2 ⟨rfl, hb⟩; have HB := hide hb; clear hb)
    go_end0
    exact ⟨rfl, by rw [HR.out]; exact HE.out.go HB.out, Fr.of_below HB.out⟩
end
end Go.Proofs.YtcobmbclhhimjaaGreat.Fa
