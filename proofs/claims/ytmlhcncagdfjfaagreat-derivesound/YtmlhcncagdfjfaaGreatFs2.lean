import Derived.Test.YtmlhcncagdfjfaaGreatFsM
import Derived.Deep.RegionLaw
set_option maxRecDepth 100000
set_option maxHeartbeats 3200000
namespace Go.Proofs.YtmlhcncagdfjfaaGreat.Fa
open Go.RowKit
section
variable {N : Nat} {S : Nat → Prop} {A : Ad} {T : Th} {F : List Int} {n : Nat} {e : Es} {tv : Value} {w w' : World}
theorem wl {r : Nat} (h : En N S A T F n e tv w) (hr : r < T.rules.length) :
    Calls Tryz.prog 217 #[aa A.K, .pointer (some ⟨A.K, 8, none⟩), .int .i64 r] w fun o w' => o = .returned (.bool (decide ((du e false r).ms false r = 0))) ∧ En N S A T F n (du e false r) tv w' ∧ Fr (fun k => ¬ S k) w w' := by
 have k8 := h.bx.get (i := 9) rfl
 have cm := (h.ms false).get (aY hr)
 obtain ⟨v', hv'⟩ : ∃ v', IntKind.i64.wrap (e.ms false r - 1) = v' := ⟨_, rfl⟩
 have HV : Hid (lT (e.ms false r) = v') := hide hv'
 have HE := hide h
 have HQ := hide hr
 generalize e.ms false r = x at cm hv'
 clear h
 have Aa : Tryz.prog.follows .mixedOrders = true := by kernel_rfl
 go_enter Tryz.func217, Tryz.ntmps217
 go_wp2_with fail
 refine aK (by assumption) (by kernel_rfl) (by kernel_rfl) (by kernel_rfl) (by kernel_rfl) ?_
 dsimp only [List.dropLast, List.getLast, List.cons_append, List.nil_append]
 repeat (go_big_quiet_step (fail))
 refine wpQuiet_nil ?_
 rintro _ ⟨nq, rfl⟩
 have hE := HE.out.drewN nq
 have h1 := hE.setMs false HQ.out v'
 have h2 := h1.1.setUp (aE e.up)
 have CS := hide (fE (K := A.K) (v := v') ((hE.ms false).get (aY HQ.out)) ((hE.ms false).frz r) (h1.1.bx.get (i := 21) rfl) (h1.1.bx.frz 21))
 have HN : Hid (En N S A T F n (du e false r) tv (((w.drewN nq).setCell ⟨A.ms false, r, none⟩ (.int .i64 v')).setCell ⟨A.K, 21, none⟩ (.int .i64 (aE e.up)))) := hide (by
  unfold du
  rw [HV.out]
  exact h2.1)
 have HF := hide ((Fr.of_below (ah w nq)).trans (h1.2.trans h2.2))
 have HB : Hid (decide ((du e false r).ms false r = 0) = (v' == 0)) := hide (by
  unfold du
  simp only [dx, aL, HV.out]
  by_cases e0 : v' = 0 <;> simp [e0])
 have k9 := HN.out.bx.get (i := 9) rfl
 have c9 : (((w.drewN nq).setCell ⟨A.ms false, r, none⟩ (.int .i64 v')).setCell ⟨A.K, 21, none⟩ (.int .i64 (aE e.up))).cell? ⟨A.ms false, r, none⟩ = some (.int .i64 v') := by
  have := (HN.out.ms false).get (aY HQ.out)
  unfold du at this
  simp only [dx, aL, HV.out] at this
  exact this
 clear hE h1 h2 k8 cm hv'
 go_wp2_with (go_at_call 223; refine CS.out.mono ?_; rintro _ w2 ⟨rfl, rfl⟩)
 go_ret
 exact ⟨by rw [HB.out]; rfl, HN.out, HF.out⟩
theorem rA {r : Nat} (h : En N S A T F n e tv w) (hr : r < T.rules.length) :
    Calls Tryz.prog 219 #[aa A.K, .pointer (some ⟨A.K, 8, none⟩), .int .i64 r] w fun o w' => o = .returned (.bool (!e.rf false r)) ∧ En N S A T F n (refE e false r) tv w' ∧ Fr (fun k => ¬ S k) w w' := by
 have k8 := h.bx.get (i := 10) rfl
 have cm := (h.rf false).get (dy hr)
 have HE := hide h
 have HQ := hide hr
 cases hx : e.rf false r with
 | true =>
  rw [hx] at cm
  have HR : Hid (refE e false r = e) := hide (by unfold refE; rw [hx]; rfl)
  clear h hx
  go_enter Tryz.func219, Tryz.ntmps219
  go_wp2_with fail
  go_ret
  exact ⟨rfl, by rw [HR.out]; exact HE.out, Fr.refl _ _⟩
 | false =>
  rw [hx] at cm
  have h1 := h.setRf false hr true
  have h2 := h1.1.setUp (aE e.up)
  have CS := hide (mQ (K := A.K) (v := true) cm ((h.rf false).frz r) (h1.1.bx.get (i := 21) rfl) (h1.1.bx.frz 21))
  have HN : Hid (En N S A T F n (refE e false r) tv ((w.setCell ⟨A.rr false, r, none⟩ (.bool true)).setCell ⟨A.K, 21, none⟩ (.int .i64 (aE e.up)))) := hide (by
   unfold refE
   rw [hx]
   exact h2.1)
  have HF := hide (h1.2.trans h2.2)
  clear h h1 h2 hx
  go_enter Tryz.func219, Tryz.ntmps219
  go_wp2_with (go_at_call 210; refine CS.out.mono ?_; rintro _ w2 ⟨rfl, rfl⟩)
  go_ret
  exact ⟨rfl, HN.out, HF.out⟩
theorem lV {q : Nat} (h : En N S A T F n e tv w) (hq : q < n) :
    Calls Tryz.prog 220 #[aa A.K, .pointer (some ⟨A.K, 8, none⟩), .int .i64 q] w fun o w' => o = .returned (.bool (ep e false q)) ∧ En N S A T F n (cu e false q) tv w' ∧ Fr (fun k => ¬ S k) w w' := by
 have k8 := h.bx.get (i := 11) rfl
 have cm := (h.op false).get (aY hq)
 obtain ⟨v', hv'⟩ : ∃ v', IntKind.i64.wrap (e.op false q - 1) = v' := ⟨_, rfl⟩
 have HV : Hid (lT (e.op false q) = v') := hide hv'
 have HE := hide h
 have HQ := hide hq
 by_cases hx : 1 < e.op false q
 ·have hd : decide (1 < e.op false q) = true := decide_eq_true hx
  have HR : Hid (ep e false q = false) := hide (by unfold ep; exact decide_eq_false (by omega))
  have HX := hide hx
  generalize e.op false q = x at cm hv' hd
  clear h hx
  have Aa : Tryz.prog.follows .mixedOrders = true := by kernel_rfl
  go_enter Tryz.func220, Tryz.ntmps220
  go_wp2_with fail
  refine aK (by assumption) (by kernel_rfl) (by kernel_rfl) (by kernel_rfl) (by kernel_rfl) ?_
  dsimp only [List.dropLast, List.getLast, List.cons_append, List.nil_append]
  repeat (go_big_quiet_step (fail))
  refine wpQuiet_nil ?_
  rintro _ ⟨nq, rfl⟩
  have hE := HE.out.drewN nq
  have h1 := hE.setOp false HQ.out v'
  have h2 := h1.1.setUp (aE e.up)
  have CS := hide (fE (K := A.K) (v := v') ((hE.op false).get (aY HQ.out)) ((hE.op false).frz q) (h1.1.bx.get (i := 21) rfl) (h1.1.bx.frz 21))
  have HN : Hid (En N S A T F n (cu e false q) tv (((w.drewN nq).setCell ⟨A.op false, q, none⟩ (.int .i64 v')).setCell ⟨A.K, 21, none⟩ (.int .i64 (aE e.up)))) := hide (by
   unfold cu
   rw [if_pos HX.out, HV.out]
   exact h2.1)
  have HF := hide ((Fr.of_below (ah w nq)).trans (h1.2.trans h2.2))
  clear hE h1 h2 k8 cm hv' hd
  go_wp2_with (go_at_call 223; refine CS.out.mono ?_; rintro _ w2 ⟨rfl, rfl⟩)
  go_ret
  exact ⟨by rw [HR.out]; rfl, HN.out, HF.out⟩
 have hd : decide (1 < e.op false q) = false := decide_eq_false hx
 have HR : Hid (ep e false q = (e.op false q == 1)) := hide (by unfold ep; by_cases e0 : e.op false q = 1 <;> simp [e0])
 have HC : Hid (cu e false q = e) := hide (by unfold cu; rw [if_neg hx])
 generalize e.op false q = x at cm hd HR
 clear h hx hv' HV
 go_enter Tryz.func220, Tryz.ntmps220
 go_wp2_with fail
 go_ret
 exact ⟨by rw [HR.out]; rfl, by rw [HC.out]; exact HE.out, Fr.refl _ _⟩
theorem wg {r : Nat} (h : En N S A T F n e tv w) (hr : r < T.rules.length) :
    Calls Tryz.prog 217 #[aa A.K, .pointer (some ⟨A.K, 12, none⟩), .int .i64 r] w fun o w' => o = .returned (.bool (decide ((du e true r).ms true r = 0))) ∧ En N S A T F n (du e true r) tv w' ∧ Fr (fun k => ¬ S k) w w' := by
 have k8 := h.bx.get (i := 13) rfl
 have cm := (h.ms true).get (aY hr)
 obtain ⟨v', hv'⟩ : ∃ v', IntKind.i64.wrap (e.ms true r - 1) = v' := ⟨_, rfl⟩
 have HV : Hid (lT (e.ms true r) = v') := hide hv'
 have HE := hide h
 have HQ := hide hr
 generalize e.ms true r = x at cm hv'
 clear h
 have Aa : Tryz.prog.follows .mixedOrders = true := by kernel_rfl
 go_enter Tryz.func217, Tryz.ntmps217
 go_wp2_with fail
 refine aK (by assumption) (by kernel_rfl) (by kernel_rfl) (by kernel_rfl) (by kernel_rfl) ?_
 dsimp only [List.dropLast, List.getLast, List.cons_append, List.nil_append]
 repeat (go_big_quiet_step (fail))
 refine wpQuiet_nil ?_
 rintro _ ⟨nq, rfl⟩
 have hE := HE.out.drewN nq
 have h1 := hE.setMs true HQ.out v'
 have h2 := h1.1.setUp (aE e.up)
 have CS := hide (fE (K := A.K) (v := v') ((hE.ms true).get (aY HQ.out)) ((hE.ms true).frz r) (h1.1.bx.get (i := 21) rfl) (h1.1.bx.frz 21))
 have HN : Hid (En N S A T F n (du e true r) tv (((w.drewN nq).setCell ⟨A.ms true, r, none⟩ (.int .i64 v')).setCell ⟨A.K, 21, none⟩ (.int .i64 (aE e.up)))) := hide (by
  unfold du
  rw [HV.out]
  exact h2.1)
 have HF := hide ((Fr.of_below (ah w nq)).trans (h1.2.trans h2.2))
 have HB : Hid (decide ((du e true r).ms true r = 0) = (v' == 0)) := hide (by
  unfold du
  simp only [dx, aL, HV.out]
  by_cases e0 : v' = 0 <;> simp [e0])
 have k9 := HN.out.bx.get (i := 13) rfl
 have c9 : (((w.drewN nq).setCell ⟨A.ms true, r, none⟩ (.int .i64 v')).setCell ⟨A.K, 21, none⟩ (.int .i64 (aE e.up))).cell? ⟨A.ms true, r, none⟩ = some (.int .i64 v') := by
  have := (HN.out.ms true).get (aY HQ.out)
  unfold du at this
  simp only [dx, aL, HV.out] at this
  exact this
 clear hE h1 h2 k8 cm hv'
 go_wp2_with (go_at_call 223; refine CS.out.mono ?_; rintro _ w2 ⟨rfl, rfl⟩)
 go_ret
 exact ⟨by rw [HB.out]; rfl, HN.out, HF.out⟩
theorem re {r : Nat} (h : En N S A T F n e tv w) (hr : r < T.rules.length) :
    Calls Tryz.prog 219 #[aa A.K, .pointer (some ⟨A.K, 12, none⟩), .int .i64 r] w fun o w' => o = .returned (.bool (!e.rf true r)) ∧ En N S A T F n (refE e true r) tv w' ∧ Fr (fun k => ¬ S k) w w' := by
 have k8 := h.bx.get (i := 14) rfl
 have cm := (h.rf true).get (dy hr)
 have HE := hide h
 have HQ := hide hr
 cases hx : e.rf true r with
 | true =>
  rw [hx] at cm
  have HR : Hid (refE e true r = e) := hide (by unfold refE; rw [hx]; rfl)
  clear h hx
  go_enter Tryz.func219, Tryz.ntmps219
  go_wp2_with fail
  go_ret
  exact ⟨rfl, by rw [HR.out]; exact HE.out, Fr.refl _ _⟩
 | false =>
  rw [hx] at cm
  have h1 := h.setRf true hr true
  have h2 := h1.1.setUp (aE e.up)
  have CS := hide (mQ (K := A.K) (v := true) cm ((h.rf true).frz r) (h1.1.bx.get (i := 21) rfl) (h1.1.bx.frz 21))
  have HN : Hid (En N S A T F n (refE e true r) tv ((w.setCell ⟨A.rr true, r, none⟩ (.bool true)).setCell ⟨A.K, 21, none⟩ (.int .i64 (aE e.up)))) := hide (by
   unfold refE
   rw [hx]
   exact h2.1)
  have HF := hide (h1.2.trans h2.2)
  clear h h1 h2 hx
  go_enter Tryz.func219, Tryz.ntmps219
  go_wp2_with (go_at_call 210; refine CS.out.mono ?_; rintro _ w2 ⟨rfl, rfl⟩)
  go_ret
  exact ⟨rfl, HN.out, HF.out⟩
theorem rh {q : Nat} (h : En N S A T F n e tv w) (hq : q < n) :
    Calls Tryz.prog 220 #[aa A.K, .pointer (some ⟨A.K, 12, none⟩), .int .i64 q] w fun o w' => o = .returned (.bool (ep e true q)) ∧ En N S A T F n (cu e true q) tv w' ∧ Fr (fun k => ¬ S k) w w' := by
 have k8 := h.bx.get (i := 15) rfl
 have cm := (h.op true).get (aY hq)
 obtain ⟨v', hv'⟩ : ∃ v', IntKind.i64.wrap (e.op true q - 1) = v' := ⟨_, rfl⟩
 have HV : Hid (lT (e.op true q) = v') := hide hv'
 have HE := hide h
 have HQ := hide hq
 by_cases hx : 1 < e.op true q
 ·have hd : decide (1 < e.op true q) = true := decide_eq_true hx
  have HR : Hid (ep e true q = false) := hide (by unfold ep; exact decide_eq_false (by omega))
  have HX := hide hx
  generalize e.op true q = x at cm hv' hd
  clear h hx
  have Aa : Tryz.prog.follows .mixedOrders = true := by kernel_rfl
  go_enter Tryz.func220, Tryz.ntmps220
  go_wp2_with fail
  refine aK (by assumption) (by kernel_rfl) (by kernel_rfl) (by kernel_rfl) (by kernel_rfl) ?_
  dsimp only [List.dropLast, List.getLast, List.cons_append, List.nil_append]
  repeat (go_big_quiet_step (fail))
  refine wpQuiet_nil ?_
  rintro _ ⟨nq, rfl⟩
  have hE := HE.out.drewN nq
  have h1 := hE.setOp true HQ.out v'
  have h2 := h1.1.setUp (aE e.up)
  have CS := hide (fE (K := A.K) (v := v') ((hE.op true).get (aY HQ.out)) ((hE.op true).frz q) (h1.1.bx.get (i := 21) rfl) (h1.1.bx.frz 21))
  have HN : Hid (En N S A T F n (cu e true q) tv (((w.drewN nq).setCell ⟨A.op true, q, none⟩ (.int .i64 v')).setCell ⟨A.K, 21, none⟩ (.int .i64 (aE e.up)))) := hide (by
   unfold cu
   rw [if_pos HX.out, HV.out]
   exact h2.1)
  have HF := hide ((Fr.of_below (ah w nq)).trans (h1.2.trans h2.2))
  clear hE h1 h2 k8 cm hv' hd
  go_wp2_with (go_at_call 223; refine CS.out.mono ?_; rintro _ w2 ⟨rfl, rfl⟩)
  go_ret
  exact ⟨by rw [HR.out]; rfl, HN.out, HF.out⟩
 have hd : decide (1 < e.op true q) = false := decide_eq_false hx
 have HR : Hid (ep e true q = (e.op true q == 1)) := hide (by unfold ep; by_cases e0 : e.op true q = 1 <;> simp [e0])
 have HC : Hid (cu e true q = e) := hide (by unfold cu; rw [if_neg hx])
 generalize e.op true q = x at cm hd HR
 clear h hx hv' HV
 go_enter Tryz.func220, Tryz.ntmps220
 go_wp2_with fail
 go_ret
 exact ⟨by rw [HR.out]; rfl, by rw [HC.out]; exact HE.out, Fr.refl _ _⟩
end
set_option maxRecDepth 100000
set_option maxHeartbeats 6400000
theorem yS : (Tryz.prog.info? 85).map (fun i => (i.zero, i.size, i.bytes)) = some (some (.agg #[.int .i64 0, .int .i64 0]), 2, 16) := by kernel_rfl
section
variable {N : Nat} {S : Nat → Prop} {A : Ad} {T : Th} {F : List Int} {n : Nat} {e : Es} {w w' : World}
def Eg (N : Nat) (S : Nat → Prop) (A : Ad) (T : Th) (F : List Int) (n : Nat) (e : Es) (w : World) : Prop := ∃ tv, En N S A T F n e tv w
theorem Eg.go (h : Eg N S A T F n e w) (hb : Below w.heap.size w w') : Eg N S A T F n e w' := by
 obtain ⟨tv, h⟩ := h
 exact ⟨tv, h.go hb⟩
theorem dh {q : Nat} {t : Int} (h : Eg N S A T F n e w) (hq : q < n) (ht : aw t) :
    Calls Tryz.prog 213 #[aa A.K, .int .i64 q, .int .i64 t] w fun o w' => o = .returned (.tuple #[]) ∧ Eg N S A T F n (tell e q t) w' ∧ Fr (fun k => ¬ S k) w w' := by
 obtain ⟨tv, h⟩ := h
 have CH := hide (dc h hq ht)
 have HE := hide h
 cases hh : has e q t with
 | true =>
  rw [hh] at CH
  have HR : Hid (tell e q t = e) := hide (by unfold tell; rw [hh]; rfl)
  clear h hh
  go_enter Tryz.func213, Tryz.ntmps213
  go_wp2_with (go_at_call 214; refine CH.out.mono ?_; rintro _ w2 ⟨rfl, hb⟩; have HB := hide hb; clear hb)
  refine bodyPost_ret (results_none rfl _ _ _) rfl ?_
  exact ⟨rfl, by rw [HR.out]; exact ⟨tv, HE.out.go HB.out⟩, Fr.of_below HB.out⟩
 | false =>
  rw [hh] at CH
  have AE := hide hh
  have HR : Hid (tell e q t = { e with mq := aA e.mq q (dt (e.mq q) t), td := e.td ++ [((q : Int), t)], up := aE (aE e.up) }) := hide (by unfold tell; rw [hh]; rfl)
  clear h hh
  have AG : Tryz.prog.follows .mixedOrders = true := by kernel_rfl
  go_enter Tryz.func213, Tryz.ntmps213
  go_upto_region 1 with (go_at_call 214; refine CH.out.mono ?_; rintro _ w2 ⟨rfl, hb⟩; have HB := hide hb; clear hb)
  have Al := hide (HE.out.go HB.out)
  clear CH HE
  have k8 := Al.out.bx.get (i := 18) rfl
  have cm := Al.out.mq.get (jl hq)
  have CB := hide fun d : Nat => qR (w := w2.drewN d) ht
  obtain ⟨x, hx⟩ : ∃ x, e.mq (q : Int) = x := ⟨_, rfl⟩
  obtain ⟨y, hy⟩ : ∃ y, bitM t = y := ⟨_, rfl⟩
  obtain ⟨v, hv⟩ : ∃ v, bits .or .u8 x y = v := ⟨_, rfl⟩
  have HV : Hid (dt (e.mq (q : Int)) t = v) := hide (by unfold dt; rw [hx, hy]; exact hv)
  rw [hx] at cm
  rw [hy] at CB
  clear hx hy
  refine aK (by assumption) (by kernel_rfl) (by kernel_rfl) (by kernel_rfl) (by kernel_rfl) ?_
  dsimp only [List.dropLast, List.getLast, List.cons_append, List.nil_append]
  repeat (go_big_quiet_step ((go_at_call 232; exact Calls.quiet_of_same (CB.out _))))
  refine wpQuiet_nil ?_
  rintro _ ⟨nq, rfl⟩
  have hE := Al.out.drewN nq
  have h1 : Fx A.mq 67 (eQ n (aA e.mq q v)) ((w2.drewN nq).setCell ⟨A.mq, q, none⟩ (.int .u8 v)) := by
   have := hE.mq.set q (.int .u8 v)
   rw [mG hq] at this
   exact this
  have h2 := hE.bx.keep (other_set (i := q) (v := .int .u8 v) (an hE.bx hE.mq (by decide)))
  have CS := hide (vf (K := A.K) (v := v) (hE.mq.get (jl hq)) (hE.mq.frz q) (h2.get (i := 21) rfl) (h2.frz 21))
  have h3 := h2.set 21 (.int .i64 (aE e.up))
  have Ae : Hid ((((w2.drewN nq).setCell ⟨A.mq, q, none⟩ (.int .u8 v)).setCell ⟨A.K, 21, none⟩ (.int .i64 (aE e.up))).ownsRow 0 85 2 tv e.td.length (prs e.td)) := hide (owns_keep hE.td fun g hg => by rw [other_set (show g ≠ A.K from fun x => de hE.td hE.bx (by decide) (x ▸ hg)), other_set (show g ≠ A.mq from fun x => de hE.td hE.mq (by decide) (x ▸ hg))])
  have Ag := hide hE
  clear k8 cm h1 h2 hE CB hv
  go_upto_region 2 with (go_at_call 231; refine CS.out.mono ?_; rintro _ w3 ⟨rfl, rfl⟩)
  clear CS
  have Ax : Hid (∀ k, k < w2.heap.size → (((w2.drewN nq).setCell ⟨A.mq, q, none⟩ (.int .u8 v)).setCell ⟨A.K, 21, none⟩ (.int .i64 (aE e.up))).heap[k]? = (((w2.drewN nq).setCell ⟨A.mq, q, none⟩ (.int .u8 (dt (e.mq q) t))).setCell ⟨A.K, 21, none⟩ (.int .i64 (aE e.up))).heap[k]?) := hide fun k _ => by rw [HV.out]
  have Aw : Hid ((((w2.drewN nq).setCell ⟨A.mq, q, none⟩ (.int .u8 v)).setCell ⟨A.K, 21, none⟩ (.int .i64 (aE e.up))).heap.size = w2.heap.size ∧ (((w2.drewN nq).setCell ⟨A.mq, q, none⟩ (.int .u8 v)).setCell ⟨A.K, 21, none⟩ (.int .i64 (aE e.up))).os = w2.os ∧ (((w2.drewN nq).setCell ⟨A.mq, q, none⟩ (.int .u8 v)).setCell ⟨A.K, 21, none⟩ (.int .i64 (aE e.up))).tape = w2.tape ∧ (((w2.drewN nq).setCell ⟨A.mq, q, none⟩ (.int .u8 v)).setCell ⟨A.K, 21, none⟩ (.int .i64 (aE e.up))).output = w2.output) := hide ⟨by simp, rfl, rfl, rfl⟩
  have Aa := hide h3
  clear h3
  generalize ((w2.drewN nq).setCell ⟨A.mq, q, none⟩ (.int .u8 v)).setCell ⟨A.K, 21, none⟩ (.int .i64 (aE e.up)) = w3 at *
  obtain ⟨ta, tc, Az⟩ := bf Ae.out
  subst Az
  obtain ⟨m, hm⟩ : ∃ m, e.td.length = m := ⟨_, rfl⟩
  have HM := hide hm
  have AC : w3.cell? ⟨A.K, 19, none⟩ = some (.slice ta m tc) := by rw [← hm]; exact Aa.out.get (i := 19) rfl
  have Ap : (w3.alloc (.cells #[.int .i64 q, .int .i64 t] 85)).cell? ⟨A.K, 19, none⟩ = some (.slice ta m tc) := by rw [← hm]; exact (Aa.out.keep ((ae w3 _).block _ Aa.out.lt)).get (i := 19) rfl
  have AI : m ≤ 16384 := by have := Ag.out.tok.len; have := Ag.out.pf.n4; omega
  obtain ⟨iP, Ay, AB, AA, AF⟩ := info_parts yS
  have AD : Hid ((w3.alloc (.cells #[.int .i64 q, .int .i64 t] 85)).drew.ownsRow 0 85 2 (.slice ta m tc) m (prs e.td)) := hide (by
   have := owns_keep Ae.out fun g hg => ((ae w3 (.cells #[.int .i64 q, .int .i64 t] 85)).drew).block g (ax Ae.out hg)
   rw [hm] at this
   exact this)
  have At : Hid (∀ j u, [Value.int .i64 q, .int .i64 t][j]? = some u → (w3.alloc (.cells #[.int .i64 q, .int .i64 t] 85)).drew.cell? ((⟨w3.heap.size, 0, none⟩ : Addr).add j) = some u) := hide (World.news_of_block (cs := [Value.int .i64 q, .int .i64 t].toArray) (t := 85) (fr := (0, 0)) (heap_alloc_new w3 (.cells #[.int .i64 q, .int .i64 t] 85)))
  have An : Hid ((w3.alloc (.cells #[.int .i64 q, .int .i64 t] 85)).drew.heap.size = w3.heap.size + 1) := hide (by show (w3.alloc (.cells #[.int .i64 q, .int .i64 t] 85)).heap.size = _; simp)
  have Av : Hid (Value.ownBlock (.slice ta m tc) ≠ some A.K) := hide (by rw [← hm]; exact de Ae.out Aa.out (by decide))
  clear hm
  go_region_law (first | (refine step_append_lies _ (by rfl) _ _ _ (by rfl) 0 85 iP _ 2 16 Tryz.underlying42 Ay AB AA AF rfl (by decide) (.slice ta m tc) m (prs e.td) (by rfl) AD.out ⟨w3.heap.size, 0, none⟩ 1 1 [.int .i64 q, .int .i64 t] (by rfl) rfl At.out (by simp [Value.oneCell']) (by decide) (by unfold maxLen; omega) (by omega) (Nat.zero_le _) (w3.heap.size + 1) An.out ?_; intro gg cap w5 Af Ab Am Ak; have Ad := hide Ab; have As := hide Af; have Aq := hide Am; have AH := hide Ak; have Aj := hide (Aa.out.keep (aT Ab Aa.out.lt Av.out)); have Ao := hide (Aj.out.set 19 (.slice (some ⟨gg, 0, none⟩) (m + 1) cap)); have CS := hide (vO (K := A.K) (a := some ⟨gg, 0, none⟩) (m := m + 1) (c := cap) (Aj.out.get (i := 19) rfl) (Aj.out.frz 19) (Ao.out.get (i := 21) rfl) (Ao.out.frz 21)); clear Af Ab Am Ak) | (go_simp; go_wp2_with (go_at_call 233; refine CS.out.mono ?_; rintro _ w6 ⟨rfl, rfl⟩)))
  all_goals
   have hm := HM.out
   subst hm
   have Ac := Aw.out
   have Au := Ad.out.size
   have Ar := An.out
   have Ah := Ag.out.setMk hq ht AE.out (w1 := w5) (u1 := aE e.up) (g := gg) (c := cap) (by rw [mK]; exact As.out)
    (fun k hk hn => (aT Ad.out (by rw [Ac.1]; exact hk) hn).trans (Ax.out k hk)) (by show w2.heap.size ≤ _; omega)
    (by rcases Aq.out with h | h; exact .inl h; exact .inr (by show w2.heap.size ≤ gg; omega)) ⟨Ad.out.os.trans Ac.2.1, Ad.out.tape.trans Ac.2.2.1, Ad.out.output.trans Ac.2.2.2⟩ (aE (aE e.up))
   have Ai := hide Ah
   clear Ah Ac Au Ar AC Ap
   go_end0
   exact ⟨rfl, by rw [HR.out]; exact ⟨_, Ai.out.1⟩, (Fr.of_below HB.out).trans ((Fr.of_below (ah w2 nq)).trans Ai.out.2)⟩
theorem fD {q : Nat} (h : Eg N S A T F n e w) (hq : q < n) :
    Calls Tryz.prog 218 #[aa A.K, .int .i64 q] w fun o w' => o = .returned (.tuple #[]) ∧ Eg N S A T F n (bJ e q) w' ∧ Fr (fun k => ¬ S k) w w' := by
 have HE := hide h
 obtain ⟨tv, h⟩ := h
 have CH := hide (dc h hq tag2)
 cases hh : has e q 2 with
 | true =>
  rw [hh] at CH
  have HR : Hid (bJ e q = tell e q 4) := hide (by unfold bJ; rw [hh]; rfl)
  clear h hh
  go_enter Tryz.func218, Tryz.ntmps218
  go_wp2_with (first | (go_at_call 214; refine CH.out.mono ?_; rintro _ w2 ⟨rfl, hb⟩; have HB := hide hb; have CT := hide (dh (HE.out.go hb) hq tag4); clear hb) | (go_at_call 213; refine CT.out.mono ?_; rintro _ w3 ⟨rfl, he, hf⟩; have Ab := hide he; have Aa := hide hf; clear he hf))
  go_end0
  exact ⟨rfl, by rw [HR.out]; exact Ab.out, (Fr.of_below HB.out).trans Aa.out⟩
 | false =>
  rw [hh] at CH
  have HR : Hid (bJ e q = e) := hide (by unfold bJ; rw [hh]; rfl)
  clear h hh
  go_enter Tryz.func218, Tryz.ntmps218
  go_wp2_with (go_at_call 214; refine CH.out.mono ?_; rintro _ w2 ⟨rfl, hb⟩; have HB := hide hb; clear hb)
  go_end0
  exact ⟨rfl, by rw [HR.out]; exact HE.out.go HB.out, Fr.of_below HB.out⟩
end
set_option maxRecDepth 100000
set_option maxHeartbeats 6400000
theorem qC {w : World} {a : Option Addr} {l : List Int} {c : Nat} (h : At1 w a (aq l)) (hl : l.length ≤ 140737488351232) (hp : l.Pairwise (· < ·)) (t : Int) {k0 : Nat} (hk0 : l[k0]? = some t) :
    Calls Tryz.prog 140 #[.slice a l.length c, .int .i64 t] w fun e w' => e = .returned (.tuple #[.int .i64 k0, .bool true]) ∧ w' = w := by
 have HA := hide h
 have HP := hide hp
 have Aa := hide hk0
 clear h hp hk0
 go_enter Tryz.func140, Tryz.ntmps140
 go_wp2_with fail
 go_loop [7, 8] (fun x y => ∃ (i j : Nat), x = .int .i64 i ∧ y = .int .i64 j ∧ i ≤ j ∧ j ≤ l.length ∧ Hid (Bs l t i j)) (fun x y => (intOf y).toNat - (intOf x).toNat)
 case atStart => exact ⟨0, l.length, rfl, rfl, by omega, by omega, hide ⟨by omega, by omega, fun m x hm => by omega, fun m x hm hx => by rw [List.getElem?_eq_none (by omega)] at hx; cases hx⟩⟩
 obtain ⟨i, j, rfl, rfl, Ad, Ac, HB⟩ := hrel
 by_cases hlt : i < j
 ·obtain ⟨x, hx⟩ := am (l := l) (i := (i + j) / 2) (by omega)
  obtain ⟨g, of, rfl, kc⟩ := HA.out.get hx
  have HX := hide hx
  have CL := hide (qP x t w)
  clear hx
  by_cases hxt : x < t
  ·have HN : Hid (Bs l t ((i + j) / 2 + 1) j) := hide ⟨by omega, HB.out.n, fun m y hm hy => by
    by_cases e : m = (i + j) / 2
    ·subst e; rw [HX.out] at hy; cases hy; exact hxt
    have := lJ HP.out hy HX.out (by omega); omega, HB.out.hi⟩
   clear HX HB
   go_wp2_with (go_at_call 166; refine CL.out.mono ?_; rintro _ w1 ⟨rfl, hw⟩; subst w1)
   go_round
   case rel => exact ⟨(i + j) / 2 + 1, j, by go_num, rfl, by omega, by omega, HN⟩
   case measure => simp [intOf]; omega
  have HN : Hid (Bs l t i ((i + j) / 2)) := hide ⟨by omega, by omega, HB.out.lo, fun m y hm hy => by
   by_cases e : m = (i + j) / 2
   ·subst e; rw [HX.out] at hy; cases hy; omega
   have := lJ HP.out HX.out hy (by omega); omega⟩
  clear HX HB
  go_wp2_with (go_at_call 166; refine CL.out.mono ?_; rintro _ w1 ⟨rfl, hw⟩; subst w1)
  go_round
  case rel => exact ⟨i, (i + j) / 2, rfl, by go_num, by omega, by omega, HN⟩
  case measure => simp [intOf]; omega
 have e : i = j := by omega
 subst e
 have HN : Hid (∀ (m : Nat) x, l[m]? = some x → x = t → m = i) := hide fun m x hm hx => by
  subst hx
  have h1 : ¬ m < i := fun h => by have := HB.out.lo m x h hm; omega
  by_cases h2 : m = i
  ·exact h2
  obtain ⟨y, hy⟩ := am (l := l) (i := i) (by have := (List.getElem?_eq_some_iff.1 hm).1; omega)
  have h3 := HB.out.hi i y (Nat.le_refl _) hy
  have h4 := lJ HP.out hy hm (by omega)
  omega
 clear HB HP
 have ek : k0 = i := HN.out k0 t Aa.out rfl
 subst ek
 have Ab : k0 < l.length := (List.getElem?_eq_some_iff.1 Aa.out).1
 obtain ⟨g, of, rfl, kc⟩ := HA.out.get Aa.out
 clear HN hlt
 go_wp2_with fail
 go_ret2
 exact ⟨rfl, rfl⟩
def Tm (w : World) (p : Int → Bool) (D : Int → Prop) (v : Value) : Prop :=
 ∃ (k : Nat) (pre caps : Array Value), v = .func (.func k) pre caps ∧ (∀ args w', (callFunc k args).run Tryz.prog w' = .ok (.enter k args) w') ∧
  ∀ (x : Int) (w' : World), D x → Below w.heap.size w w' → Calls Tryz.prog k (pre ++ #[.int .i64 x] ++ caps) w' fun e w2 => e = .returned (.bool (p x)) ∧ Below w'.heap.size w' w2
section
variable {w : World} {p : Int → Bool} {D : Int → Prop} {v : Value} {l : List Int} {a : Option Addr} {c : Nat}
theorem vJ (h : Tm w p D v) (hl : At1 w a (aq l)) (hlim : l.length ≤ 140737488351232) (hin : ∀ x ∈ l, D x) :
    Calls Tryz.prog 240 #[.slice a l.length c, v] w fun e w' => ∃ i : Int, e = .returned (.int .i64 i) ∧ zQ (l.any p) i ∧ Below w.heap.size w w' := by
 obtain ⟨fn, Ae, Ad, rfl, hf, hc⟩ := h
 have HC := hide hc
 have HL := hide hl
 have Ac := hide hin
 obtain ⟨o, ho⟩ : ∃ o, l.any p = o := ⟨_, rfl⟩
 rw [ho]
 have HO : Hid ((l.drop 0).any p = o) := hide (by rw [List.drop_zero]; exact ho)
 clear hl hin ho hc
 go_enter Tryz.func240, Tryz.ntmps240
 go_wp2_with fail
 go_loopw [8] (fun x wr => ∃ k : Nat, k ≤ l.length ∧ x = .int .i64 k ∧ Hid ((l.drop k).any p = o) ∧ Hid (Below w.heap.size w wr)) (fun x _ => l.length - (intOf x).toNat)
 case atStart => exact ⟨0, by omega, rfl, HO, hide (Below.refl _ _)⟩
 clear HO
 obtain ⟨k, hk, rfl, HO, HB⟩ := hrel
 by_cases hlt : k < l.length
 ·obtain ⟨x, hx⟩ := am hlt
  obtain ⟨g, gg, rfl, cx⟩ := (HL.out.below HB.out).get hx
  have C := hide (HC.out x wr (Ac.out x (List.mem_of_getElem? hx)) HB.out)
  cases hb : p x with
  | true =>
   have HE : Hid (o = true) := hide (by rw [← HO.out]; exact lB hx hb)
   rw [hb] at C
   clear hb hx HO
   go_wp2_with fail
   refine C.out.mono ?_
   rintro _ w2 ⟨rfl, Aa⟩
   have Ab := hide (HB.out.trans (Aa.mono HB.out.size))
   clear Aa
   go_wp2_with fail
   go_ret
   exact ⟨k, rfl, ⟨fun _ => by omega, fun e => by rw [HE.out] at e; cases e⟩, Ab.out⟩
  | false =>
   have HE : Hid ((l.drop (k + 1)).any p = o) := hide (by rw [← HO.out]; exact (li hx hb).symm)
   rw [hb] at C
   clear hb hx HO
   go_wp2_with fail
   refine C.out.mono ?_
   rintro _ w2 ⟨rfl, Aa⟩
   have Ab := hide (HB.out.trans (Aa.mono HB.out.size))
   clear Aa
   go_wp2_with fail
   go_roundw
   case rel => exact ⟨k + 1, by omega, by go_num, HE, Ab⟩
   case measure => simp [intOf]; omega
 have HE : Hid (o = false) := hide (by rw [← HO.out, bV (by omega)]; rfl)
 go_wp2_with fail
 go_ret
 exact ⟨-1, rfl, ⟨fun e => absurd e (by rw [HE.out]; decide), fun _ => rfl⟩, HB.out⟩
theorem jd (h : Tm w p D v) (hl : At1 w a (aq l)) (hlim : l.length ≤ 140737488351232) (hin : ∀ x ∈ l, D x) :
    Calls Tryz.prog 226 #[.slice a l.length c, v] w fun e w' => e = .returned (.bool (l.any p)) ∧ Below w.heap.size w w' := by
 have CI := hide (vJ (c := c) h hl hlim hin)
 obtain ⟨fn, Ad, Ab, rfl, hf, hc⟩ := h
 obtain ⟨o, ho⟩ : ∃ o, l.any p = o := ⟨_, rfl⟩
 rw [ho] at CI ⊢
 clear hl hin ho hc
 go_enter Tryz.func226, Tryz.ntmps226
 cases o with
 | true =>
  go_wp2_with (go_at_call 240; refine CI.out.mono ?_; rintro _ w2 ⟨i, rfl, hi, hb⟩; have HB := hide hb; have Aa : 0 ≤ i := hi.1 rfl; have Ac : decide (0 ≤ i) = true := decide_eq_true Aa; clear hb hi)
  go_ret
  exact ⟨bC (by simp), HB.out⟩
 | false =>
  go_wp2_with (go_at_call 240; refine CI.out.mono ?_; rintro _ w2 ⟨i, rfl, hi, hb⟩; have HB := hide hb; have Aa : i = -1 := hi.2 rfl; subst Aa; clear hb hi)
  go_ret
  exact ⟨rfl, HB.out⟩
end
section
variable {T : Th} {F : List Int} {n : Nat}
theorem gG (h : Pf T F n) {q : Nat} (hq : q < n) : (row T.foes q).Pairwise (· < ·) ∧ (row T.foes q).length ≤ 64 := by
 obtain ⟨l, hl⟩ := am (l := T.foes) (i := q) (by have := h.ok.fl; have := h.ln; omega)
 have := h.ok.foe q l hl
 rw [bn (by rw [Int.toNat_natCast]; exact hl)]
 exact ⟨(bS (by omega) this.2.1).2, this.1⟩
theorem j4 (h : Pf T F n) {q : Nat} (hq : q < n) : (ao T q).Pairwise (· < ·) := (gG h hq).1.filter _
theorem eJ {l : List Int} (h : l.Pairwise (· < ·)) : l.Nodup := h.imp fun h => by omega
theorem mH (h : Pf T F n) {q : Nat} (hq : q < n) {p : Int} (hp : p ∈ ao T q) : 0 ≤ p ∧ p < (n : Int) := h.foe q hq p (List.mem_filter.1 hp).1
theorem cU (h : Pf T F n) {q : Nat} (hq : q < n) : (ao T q).length ≤ 64 := Nat.le_trans (List.length_filter_le _ _) (gG h hq).2
theorem fd (h : Pf T F n) {r : Nat} (hr : r < T.rules.length) : ∃ x, T.rules[r]? = some x ∧ aj T r = x.head ∧ 0 ≤ x.head ∧ x.head < (n : Int) := by
 obtain ⟨x, hx⟩ := am hr
 have := h.head x (List.mem_of_getElem? hx)
 refine ⟨x, hx, ?_, this.1, this.2⟩
 unfold aj
 rw [Int.toNat_natCast, hx]
 rfl
end
section
variable {N : Nat} {S : Nat → Prop} {A : Ad} {T : Th} {F : List Int} {n : Nat} {e : Es} {tv : Value} {w w' : World}
theorem jj {s k : Nat} {p : Int} (h : En N S A T F n e tv w) (hs : s < T.rules.length) (hp : (ao T (aj T s))[k]? = some p) :
    Calls Tryz.prog 209 #[aa A.K, .int .i64 p, .int .i64 s] w fun o w' => o = .returned (.int .i64 k) ∧ ∃ m, w' = w.drewN m := by
 have k2 := h.bx.get (i := 2) rfl
 have k6 := h.bx.get (i := 6) rfl
 obtain ⟨x, hx, Ac, Ae, Af⟩ := fd h.pf hs
 obtain ⟨gr, go, bd, bp, er, -, -, x1, -, -, -, -⟩ := dG h.ro.ta.rules hx
 rw [er] at k2
 obtain ⟨hm, Ab⟩ := Int.eq_ofNat_of_zero_le Ae
 have Aa : hm < n := by omega
 rw [Ac, Ab] at hp
 rw [Ab] at x1
 obtain ⟨la, lc, cl, hA⟩ := h.ro.lv.at Aa
 have CF := hide fun d : Nat => qC (w := w.drewN d) (c := lc) (show At1 (w.drewN d) la _ from hA) (by have := cU h.pf Aa; omega) (j4 h.pf Aa) p hp
 have Ag : T.rules.length ≤ 4096 := h.pf.ok.rl
 clear h hx Ac Ab hA er Ae Af hp
 obtain ⟨ln, Ad⟩ : ∃ ln, (ao T (hm : Int)).length = ln := ⟨_, rfl⟩
 rw [Ad] at cl CF
 clear Ad
 go_enter Tryz.func209, Tryz.ntmps209
 go_upto_region 1 with fail
 go_quiet ((go_at_call 140; exact Calls.quiet_of_same (CF.out _)))
 go_wp2_with fail
 go_ret
 exact ⟨rfl, _, rfl⟩
end
set_option maxRecDepth 100000
set_option maxHeartbeats 6400000
theorem enters_go {P : Program} {f : FuncId} {fn : Func} (hf : P.funcs[f]? = some fn) (hn : (fn.name == "runtime.NumGoroutine") = false) (hb : fn.body.isNone = false) : ∀ args w, (callFunc f args).run P w = .ok (.enter f args) w := by
 intro args w
 have h1 : ¬ fn.name = "runtime.NumGoroutine" := by simpa using hn
 have h2 : ¬ fn.body = none := by
  intro e
  rw [e] at hb
  cases hb
 simp [callFunc, hf, h1, h2]
def aV (T : Th) (r : Int) : Prop := 0 ≤ r ∧ r < (T.rules.length : Int)
def cP (n : Nat) (x : Int) : Prop := 0 ≤ x ∧ x < (n : Int)
theorem mR {T : Th} {p : RuleM → Bool} {z x : Int} (h : x ∈ ag T p z) : aV T x := bN h
theorem iR {T : Th} {p : RuleM → Bool} {z : Int} : (ag T p z).length ≤ T.rules.length := bg
section
variable {N : Nat} {S : Nat → Prop} {A : Ad} {T : Th} {F : List Int} {n : Nat} {e : Es} {tv : Value} {w w' : World}
theorem yr (h : En N S A T F n e tv w) : Tm w (used e) (aV T) (.func (.func 234) #[aa A.K] #[]) :=
 ⟨_, _, _, rfl, enters_go Tryz.func234 (by kernel_rfl) (by kernel_rfl), fun x w' hx hw => by
  obtain ⟨r, rfl⟩ := Int.eq_ofNat_of_zero_le hx.1
  exact (me (h.go hw) (by have := hx.2; omega)).mono fun o w2 ⟨h1, h2⟩ => ⟨h1, by rw [h2]; exact Below.refl _ _⟩⟩
theorem jb {q : Nat} (h : Eg N S A T F n e w) (hq : q < n) :
    Calls Tryz.prog 215 #[aa A.K, .int .i64 q] w fun o w' => o = .returned (.tuple #[]) ∧ Eg N S A T F n (dl T e q) w' ∧ Fr (fun k => ¬ S k) w w' := by
 have HE := hide h
 obtain ⟨tv, h⟩ := h
 have Af := h.bx.get (i := 17) rfl
 have k5 := h.bx.get (i := 5) rfl
 have co := h.ob.get (aY hq)
 obtain ⟨la, lc, cl, hA⟩ := h.ro.lt.at hq
 have Ae : T.rules.length ≤ 4096 := h.pf.ok.rl
 have CC := hide (jd (c := lc) (yr h) hA (by have := iR (T := T) (p := kT) (z := (q : Int)); omega) fun x hx => mR hx)
 obtain ⟨b, hb⟩ : ∃ b, (ag T kT (q : Int)).any (used e) = b := ⟨_, rfl⟩
 rw [hb] at CC
 obtain ⟨ln, Aa⟩ : ∃ ln, (ag T kT (q : Int)).length = ln := ⟨_, rfl⟩
 rw [Aa] at cl CC
 have HP : Hid (dl T e q = if decide (e.ob q = 0) && b then tell e q 3 else e) := hide (by unfold dl; rw [hb])
 generalize e.ob q = x at co HP
 clear h hA hb Aa
 by_cases hx : x = 0
 ·have Ab : (x == 0) = true := by simpa using hx
  cases b with
  | true =>
   have HR : Hid (dl T e q = tell e q 3) := hide (by rw [HP.out, decide_eq_true hx]; rfl)
   clear hx HP
   go_enter Tryz.func215, Tryz.ntmps215
   go_wp2_with (first | (go_at_call 226; refine CC.out.mono ?_; rintro _ w2 ⟨rfl, hb⟩; have HB := hide hb; have CT := hide (dh (HE.out.go hb) hq tag3); clear hb) | (go_at_call 213; refine CT.out.mono ?_; rintro _ w3 ⟨rfl, he, hf⟩; have Ac := hide he; have Ad := hide hf; clear he hf))
   go_end0
   exact ⟨rfl, by rw [HR.out]; exact Ac.out, (Fr.of_below HB.out).trans Ad.out⟩
  | false =>
   have HR : Hid (dl T e q = e) := hide (by rw [HP.out, decide_eq_true hx]; rfl)
   clear hx HP
   go_enter Tryz.func215, Tryz.ntmps215
   go_wp2_with (go_at_call 226; refine CC.out.mono ?_; rintro _ w2 ⟨rfl, hb⟩; have HB := hide hb; clear hb)
   go_end0
   exact ⟨rfl, by rw [HR.out]; exact HE.out.go HB.out, Fr.of_below HB.out⟩
 have Ab : (x == 0) = false := by simpa using hx
 have HR : Hid (dl T e q = e) := hide (by rw [HP.out, decide_eq_false hx]; rfl)
 clear hx HP
 go_enter Tryz.func215, Tryz.ntmps215
 go_wp2_with fail
 go_end0
 exact ⟨rfl, by rw [HR.out]; exact HE.out, Fr.refl _ _⟩
abbrev Bk (b K : Nat) (w : World) : Prop := Fx b 182 [aa K] w
theorem ux {r : Nat} {b : Nat} (h : En N S A T F n e tv w) (hb : Bk b A.K w) (hr : r < T.rules.length) :
    Calls Tryz.prog 242 #[.int .i64 r, aa b] w fun o w' => o = .returned (.bool (!dropped e r)) ∧ w' = w := by
 have C := hide (jg h hr)
 have c1 := hb.get (i := 0) rfl
 generalize dropped e r = o at *
 clear h hb
 go_enter Tryz.func242, Tryz.ntmps242
 go_wp2_with (go_at_call 211; refine C.out.mono ?_; rintro _ w2 ⟨rfl, rfl⟩)
 go_ret
 exact ⟨rfl, rfl⟩
theorem tZ {q : Nat} {b : Nat} (h : En N S A T F n e tv w) (hb : Bk b A.K w) (hq : q < n) :
    Calls Tryz.prog 243 #[.int .i64 q, aa b] w fun o w' => o = .returned (.bool (has e q 1)) ∧ Below w.heap.size w w' := by
 have C := hide (dc h hq tag1)
 have c1 := hb.get (i := 0) rfl
 generalize has e q 1 = o at *
 clear h hb
 go_enter Tryz.func243, Tryz.ntmps243
 go_wp2_with (go_at_call 214; refine C.out.mono ?_; rintro _ w2 ⟨rfl, Aa⟩; have HB := hide Aa; clear Aa)
 go_ret
 exact ⟨rfl, HB.out⟩
theorem yn {b : Nat} (h : En N S A T F n e tv w) (hb : Bk b A.K w) : Tm w (fun r => !dropped e r) (aV T) (.func (.func 242) #[] #[aa b]) :=
 ⟨_, _, _, rfl, enters_go Tryz.func242 (by kernel_rfl) (by kernel_rfl), fun x w' hx hw => by
  obtain ⟨r, rfl⟩ := Int.eq_ofNat_of_zero_le hx.1
  exact (ux (h.go hw) (hb.keep (hw.block _ hb.lt)) (by have := hx.2; omega)).mono fun o w2 ⟨h1, h2⟩ => ⟨h1, by rw [h2]; exact Below.refl _ _⟩⟩
theorem xL {b : Nat} (h : En N S A T F n e tv w) (hb : Bk b A.K w) : Tm w (fun f => has e f 1) (cP n) (.func (.func 243) #[] #[aa b]) :=
 ⟨_, _, _, rfl, enters_go Tryz.func243 (by kernel_rfl) (by kernel_rfl), fun x w' hx hw => by
  obtain ⟨r, rfl⟩ := Int.eq_ofNat_of_zero_le hx.1
  exact tZ (h.go hw) (hb.keep (hw.block _ hb.lt)) (by have := hx.2; omega)⟩
theorem uR {q : Nat} (h : En N S A T F n e tv w) (hq : q < n) :
    Calls Tryz.prog 235 #[aa A.K, .int .i64 q] w fun o w' => o = .returned (.bool (lD T e q)) ∧ Below w.heap.size w w' := by
 have hB := ae w (.cells #[aa A.K] 182)
 have hF : Bk w.heap.size A.K (w.alloc (.cells #[aa A.K] 182)) := heap_alloc_new w _
 have hE := h.go hB
 have HB := hide hB
 have Ac : T.rules.length ≤ 4096 := h.pf.ok.rl
 clear h hB
 go_enter Tryz.func235, Tryz.ntmps235
 go_upto_region 1 with fail
 generalize w.alloc (.cells #[aa A.K] 182) = W at *
 have k5 := hE.bx.get (i := 5) rfl
 have c1 := hF.get (i := 0) rfl
 obtain ⟨la, lc, cl, hA⟩ := hE.ro.lt.at hq
 have CC := hide (jd (c := lc) (yn hE hF) hA (by have := iR (T := T) (p := kT) (z := (q : Int)); omega) fun x hx => mR hx)
 obtain ⟨b, hb⟩ : ∃ b, (ag T kT (q : Int)).any (fun r => !dropped e r) = b := ⟨_, rfl⟩
 have HR : Hid (lD T e q = !b) := hide (by unfold lD; rw [hb])
 rw [hb] at CC
 obtain ⟨ln, Aa⟩ : ∃ ln, (ag T kT (q : Int)).length = ln := ⟨_, rfl⟩
 rw [Aa] at cl CC
 clear hE hA hb Aa hF
 go_wp2_with (go_at_call 226; refine CC.out.mono ?_; rintro _ w2 ⟨rfl, hb⟩; have Ab := hide hb; clear hb)
 go_ret
 exact ⟨by rw [HR.out]; rfl, HB.out.trans (Ab.out.mono HB.out.size)⟩
theorem rW (h : En N S A T F n e tv w) {q : Nat} (hq : q < n) : ∃ l a c, row T.foes q = l ∧ T.foes[q]? = some l ∧ At1 w a (aq l) ∧ l.length ≤ 64 ∧ (∀ x ∈ l, cP n x) ∧ q < T.foes.length ∧ ∃ g o, A.fa = some ⟨g, o, none⟩ ∧ w.cell? ⟨g, o + q, none⟩ = some (.slice a l.length c) := by
 obtain ⟨l, hl⟩ := am (l := T.foes) (i := q) (by have := h.pf.ok.fl; have := h.pf.ln; omega)
 have er : row T.foes (q : Int) = l := bn (by rw [Int.toNat_natCast]; exact hl)
 obtain ⟨g, o, a2, c2, e1, -, hc, -, -, hI⟩ := bH h.ro.ta.foes hl
 exact ⟨l, a2, c2, er, hl, hI.at1, by rw [← er]; exact (gG h.pf hq).2, fun x hx => h.pf.foe q hq x (by rw [er]; exact hx), (List.getElem?_eq_some_iff.1 hl).1, g, o, e1, hc⟩
theorem mj {q : Nat} (h : En N S A T F n e tv w) (hq : q < n) :
    Calls Tryz.prog 236 #[aa A.K, .int .i64 q] w fun o w' => o = .returned (.bool (nG T e q)) ∧ Below w.heap.size w w' := by
 have hB := ae w (.cells #[aa A.K] 182)
 have hF : Bk w.heap.size A.K (w.alloc (.cells #[aa A.K] 182)) := heap_alloc_new w _
 have hE := h.go hB
 have HB := hide hB
 clear h hB
 go_enter Tryz.func236, Tryz.ntmps236
 go_upto_region 1 with fail
 generalize w.alloc (.cells #[aa A.K] 182) = W at *
 have k1 := hE.bx.get (i := 1) rfl
 have c1 := hF.get (i := 0) rfl
 obtain ⟨l, la, lc, er, -, hA, Ad, Aa, Ae, g, o, e1, cl⟩ := rW hE hq
 rw [e1] at k1
 have CC := hide (jd (c := lc) (xL hE hF) hA (by omega) Aa)
 obtain ⟨b, hb⟩ : ∃ b, l.any (fun f => has e f 1) = b := ⟨_, rfl⟩
 have HR : Hid (nG T e q = b) := hide (by unfold nG; rw [er]; exact hb)
 rw [hb] at CC
 obtain ⟨ln, Ab⟩ : ∃ ln, l.length = ln := ⟨_, rfl⟩
 rw [Ab] at cl CC
 clear hE hA hb Ab hF e1 er Aa Ad
 go_wp2_with (go_at_call 226; refine CC.out.mono ?_; rintro _ w2 ⟨rfl, hb⟩; have Ac := hide hb; clear hb)
 go_ret
 exact ⟨by rw [HR.out]; rfl, HB.out.trans (Ac.out.mono HB.out.size)⟩
end
set_option maxRecDepth 100000
set_option maxHeartbeats 6400000
section
variable {N : Nat} {S : Nat → Prop} {A : Ad} {T : Th} {F : List Int} {n : Nat} {e : Es} {tv : Value} {w w' : World}
theorem hH (h : Pf T F n) {q f : Int} (h0 : 0 ≤ q) (h1 : q < (n : Int)) (hf : f ∈ row T.foes q) : q ∈ row T.foes f := by
 obtain ⟨a, rfl⟩ := Int.eq_ofNat_of_zero_le h0
 obtain ⟨l, hl⟩ := am (l := T.foes) (i := a) (by have := h.ok.fl; have := h.ln; omega)
 rw [bn (by rw [Int.toNat_natCast]; exact hl)] at hf
 exact (h.ok.foe a l hl).2.2.2 f hf
theorem sL {p : RuleM → Bool} {z : Int} {s : Nat} (h : (s : Int) ∈ ag T p z) : aj T s = z := by
 obtain ⟨a, r, e, hr, -, hh⟩ := i9.1 h
 have : s = a := by omega
 subst this
 unfold aj
 rw [Int.toNat_natCast, hr]
 exact hh
theorem iO {q p : Int} : p ∈ ao T q ↔ p ∈ row T.foes q ∧ ag T kT p ≠ [] := by
 unfold ao
 rw [List.mem_filter]
 simp
theorem mT (h : En N S A T F n e tv w) {s : Nat} (hs : s < T.rules.length) {p : Int} (hp : p ∈ ao T (aj T s)) : ∃ k : Nat, (ao T (aj T s))[k]? = some p ∧ k < (ao T (aj T s)).length ∧ (ao T (aj T s)).length ≤ 64 ∧ w.cell? ⟨A.cl, s, none⟩ = some (sl (A.cr s) (ao T (aj T s)).length) ∧ w.cell? ⟨A.cr s, k * 2, none⟩ = some (.int .i64 (e.cd s p)) ∧ w.cell? ⟨A.cr s, k * 2 + 1, none⟩ = some (.bool (e.cb s p)) := by
 obtain ⟨k, hk⟩ := List.mem_iff_getElem?.1 hp
 obtain ⟨x, -, Ab, Ac, Ad⟩ := fd h.pf hs
 obtain ⟨hm, Aa⟩ := Int.eq_ofNat_of_zero_le Ac
 refine ⟨k, hk, (List.getElem?_eq_some_iff.1 hk).1, ?_, h.ro.lx.get (by rw [List.getElem?_map, List.getElem?_range hs]; rfl), (h.cr s hs).get (fI hk).1, (h.cr s hs).get (fI hk).2⟩
 rw [Ab, Aa]
 exact cU h.pf (by omega)
theorem qk {q : Nat} (h : En N S A T F n e tv w) (hq : q < n) (ht : ag T kT (q : Int) ≠ []) :
    Calls Tryz.prog 237 #[aa A.K, .int .i64 q] w fun o w' => o = .returned (.bool (pJ T e q)) ∧ Below w.heap.size w w' := by
 have k1 := h.bx.get (i := 1) rfl
 have k4 := h.bx.get (i := 4) rfl
 have AA := h.bx.get (i := 16) rfl
 have Az := h.pf.n4
 have AB : T.rules.length ≤ 4096 := h.pf.ok.rl
 obtain ⟨l, la, lc, er, -, hA, AC, Ai, AE, g, o, e1, cl⟩ := rW h hq
 rw [e1] at k1
 obtain ⟨b, hb⟩ : ∃ b, pJ T e q = b := ⟨_, rfl⟩
 rw [hb]
 have HO : Hid ((l.drop 0).any (fun f => (ag T kA f).any fun s => used e s && decide (e.cd s q = 0)) = b) := hide (by rw [List.drop_zero, ← hb, ← er]; rfl)
 have HE := hide h
 have HA := hide hA
 have An := hide Ai
 have Ao : Hid (∀ f ∈ l, (q : Int) ∈ ao T f) := hide fun f hf => iO.2 ⟨hH h.pf (q := (q : Int)) (by omega) (by omega) (by rw [er]; exact hf), ht⟩
 clear h hA hb er Ai e1
 go_enter Tryz.func237, Tryz.ntmps237
 go_wp2_with fail
 clear k1 cl
 go_loopw [19] (fun x wr => ∃ k : Nat, k ≤ l.length ∧ x = .int .i64 k ∧ Hid ((l.drop k).any (fun f => (ag T kA f).any fun s => used e s && decide (e.cd s q = 0)) = b) ∧ Hid (∃ d, wr = w.drewN d)) (fun x _ => l.length - (intOf x).toNat)
 case atStart => exact ⟨0, by omega, rfl, HO, hide ⟨0, rfl⟩⟩
 clear HO
 obtain ⟨k, hk, rfl, HO, HD⟩ := hrel
 by_cases hlt : k < l.length
 ·obtain ⟨f, hf⟩ := am hlt
  obtain ⟨f0, f1⟩ := An.out f (List.mem_of_getElem? hf)
  obtain ⟨fm, rfl⟩ := Int.eq_ofNat_of_zero_le f0
  have As : fm < n := by omega
  have HEr : Hid (En N S A T F n e tv wr) := hide (by obtain ⟨d, hd⟩ := HD.out; rw [hd]; exact HE.out.drewN d)
  obtain ⟨gg, oo, rfl, cx⟩ := (show At1 wr la (aq l) from by obtain ⟨d, hd⟩ := HD.out; rw [hd]; exact HA.out).get hf
  have r4 := HEr.out.bx.get (i := 4) rfl
  obtain ⟨ra, rc, cr, hR⟩ := HEr.out.ro.lr.at As
  obtain ⟨rl, Ab⟩ : ∃ rl, ag T kA (fm : Int) = rl := ⟨_, rfl⟩
  rw [Ab] at cr hR
  have Ax : rl.length ≤ 4096 := by rw [← Ab]; have := iR (T := T) (p := kA) (z := (fm : Int)); omega
  have Am : Hid (∀ s ∈ rl, ∃ sm : Nat, s = (sm : Int) ∧ sm < T.rules.length ∧ aj T sm = (fm : Int)) := hide fun s hs => by
   rw [← Ab] at hs
   obtain ⟨s0, s1⟩ := mR hs
   obtain ⟨sm, rfl⟩ := Int.eq_ofNat_of_zero_le s0
   exact ⟨sm, rfl, by omega, sL hs⟩
  have Au : Hid ((q : Int) ∈ ao T (fm : Int)) := hide (Ao.out _ (List.mem_of_getElem? hf))
  obtain ⟨o2, Ae⟩ : ∃ o2, rl.any (fun s => used e s && decide (e.cd s q = 0)) = o2 := ⟨_, rfl⟩
  have Aa : Hid ((rl.drop 0).any (fun s => used e s && decide (e.cd s q = 0)) = o2) := hide (by rw [List.drop_zero]; exact Ae)
  have HY : Hid (o2 = true → b = true) := hide fun ht2 => by
   rw [← HO.out]
   exact lB hf (by show (ag T kA (fm : Int)).any _ = true; rw [Ab, Ae]; exact ht2)
  have Aq : Hid (o2 = false → (l.drop (k + 1)).any (fun f => (ag T kA f).any fun s => used e s && decide (e.cd s q = 0)) = b) := hide fun ht2 => by
   rw [← HO.out]
   exact (li hf (by show (ag T kA (fm : Int)).any _ = false; rw [Ab, Ae]; exact ht2)).symm
  have HR := hide hR
  clear hf f0 f1 Ab Ae HO hR
  go_wp2_with fail
  clear cx r4 cr
  have Ak := hide HD.out
  clear HD HEr
  go_loopw [32] (fun x wz => ∃ j : Nat, j ≤ rl.length ∧ x = .int .i64 j ∧ Hid ((rl.drop j).any (fun s => used e s && decide (e.cd s q = 0)) = o2) ∧ Hid (∃ d, wz = w.drewN d)) (fun x _ => rl.length - (intOf x).toNat)
  case atStart => exact ⟨0, by omega, rfl, Aa, hide Ak.out⟩
  clear Aa
  rename World => wz
  obtain ⟨j, hj, rfl, Aa, HD⟩ := hrel
  by_cases hjl : j < rl.length
  ·obtain ⟨s, hs⟩ := am hjl
   obtain ⟨sm, rfl, Ag, Al⟩ := Am.out s (List.mem_of_getElem? hs)
   have Ad : En N S A T F n e tv wz := by obtain ⟨d, hd⟩ := HD.out; rw [hd]; exact HE.out.drewN d
   obtain ⟨Ay, AF, rfl, cy⟩ := (show At1 wz ra (aq rl) from by obtain ⟨d, hd⟩ := HD.out; obtain ⟨d2, Aw⟩ := Ak.out; rw [hd]; rw [Aw] at HR; exact HR.out).get hs
   obtain ⟨p, hp, Av, Ar, c1, c2, -⟩ := mT Ad Ag (p := (q : Int)) (by rw [Al]; exact Au.out)
   have AD := Ad.bx.get (i := 16) rfl
   have CU := hide fun d : Nat => me (Ad.drewN d) Ag
   have CP := hide fun d : Nat => jj (Ad.drewN d) Ag hp
   obtain ⟨Aj, Ah⟩ : ∃ Aj, (ao T (aj T (sm : Int))).length = Aj := ⟨_, rfl⟩
   rw [Ah] at c1 Av Ar
   obtain ⟨u, hu⟩ : ∃ u, used e (sm : Int) = u := ⟨_, rfl⟩
   rw [hu] at CU
   obtain ⟨v, hv⟩ : ∃ v, e.cd (sm : Int) q = v := ⟨_, rfl⟩
   rw [hv] at c2
   have Ac : Hid ((used e (sm : Int) && decide (e.cd (sm : Int) q = 0)) = (u && decide (v = 0))) := hide (by rw [hu, hv])
   have HS := hide hs
   clear hs Ad hp Ah hu hv Al
   cases u with
   | false =>
    have Af : Hid ((rl.drop (j + 1)).any (fun s => used e s && decide (e.cd s q = 0)) = o2) := hide (by rw [← Aa.out]; exact (li HS.out (by rw [Ac.out]; rfl)).symm)
    clear Aa Ac HS
    go_upto_region 7 with fail
    go_quiet ((go_at_call 234; exact Calls.quiet_of_same (CU.out _)))
    clear CU CP
    go_wp2_with fail
    go_roundw
    case rel => exact ⟨j + 1, by omega, by go_num, Af, hide (by obtain ⟨d, hd⟩ := HD.out; exact ⟨_, by rw [hd, World.drewN_drewN]⟩)⟩
    case measure => simp [intOf]; omega
   | true =>
    by_cases hv0 : v = 0
    ·have Ap : (v == 0) = true := by simpa using hv0
     have HT : Hid (b = true) := hide (HY.out (by rw [← Aa.out]; exact lB HS.out (by rw [Ac.out, decide_eq_true hv0]; rfl)))
     clear Aa Ac HS hv0
     go_upto_region 7 with fail
     go_quiet (first | (go_at_call 234; exact Calls.quiet_of_same (CU.out _)) | (go_at_call 209; exact Calls.quiet_of (CP.out _)))
     clear CU CP
     go_wp2_with fail
     go_ret
     exact ⟨by rw [HT.out]; rfl, by obtain ⟨d, hd⟩ := HD.out; rw [hd, World.drewN_drewN]; exact ah w _⟩
    have Ap : (v == 0) = false := by simpa using hv0
    have Af : Hid ((rl.drop (j + 1)).any (fun s => used e s && decide (e.cd s q = 0)) = o2) := hide (by rw [← Aa.out]; exact (li HS.out (by rw [Ac.out, decide_eq_false hv0]; rfl)).symm)
    clear Aa Ac HS hv0
    go_upto_region 7 with fail
    go_quiet (first | (go_at_call 234; exact Calls.quiet_of_same (CU.out _)) | (go_at_call 209; exact Calls.quiet_of (CP.out _)))
    clear CU CP
    go_wp2_with fail
    go_roundw
    case rel => exact ⟨j + 1, by omega, by go_num, Af, hide (by obtain ⟨d, hd⟩ := HD.out; exact ⟨_, by rw [hd, World.drewN_drewN]⟩)⟩
    case measure => simp [intOf]; omega
  have HN : Hid (o2 = false) := hide (by rw [← Aa.out, bV (by omega)]; rfl)
  have At := hide (Aq.out HN.out)
  go_wp2_with fail
  go_roundw
  case rel => exact ⟨k + 1, by omega, by go_num, At, HD⟩
  case measure => simp [intOf]; omega
 have HN : Hid (b = false) := hide (by rw [← HO.out, bV (by omega)]; rfl)
 go_wp2_with fail
 go_ret
 exact ⟨by rw [HN.out]; rfl, by obtain ⟨d, hd⟩ := HD.out; rw [hd]; exact ah w _⟩
theorem ga {q : Nat} (h : Eg N S A T F n e w) (hq : q < n) :
    Calls Tryz.prog 216 #[aa A.K, .int .i64 q] w fun o w' => o = .returned (.tuple #[]) ∧ Eg N S A T F n (aW T e q) w' ∧ Fr (fun k => ¬ S k) w w' := by
 have HE := hide h
 obtain ⟨tv, h⟩ := h
 have CF := hide (uR h hq)
 have HEn := hide h
 cases hf : lD T e q with
 | true =>
  have HR : Hid (aW T e q = bJ e q) := hide (by unfold aW; rw [hf]; rfl)
  rw [hf] at CF
  clear h hf
  go_enter Tryz.func216, Tryz.ntmps216
  go_wp2_with (first | (go_at_call 235; refine CF.out.mono ?_; rintro _ w2 ⟨rfl, hb⟩; have HB := hide hb; have CT := hide (fD (HE.out.go hb) hq); clear hb) | (go_at_call 218; refine CT.out.mono ?_; rintro _ w3 ⟨rfl, he, hf⟩; have Ad := hide he; have Ae := hide hf; clear he hf))
  go_end0
  exact ⟨rfl, by rw [HR.out]; exact Ad.out, (Fr.of_below HB.out).trans Ae.out⟩
 | false =>
  have ht : ag T kT (q : Int) ≠ [] := fun e0 => by
   unfold lD at hf
   rw [e0] at hf
   cases hf
  have HT := hide ht
  cases hr : nG T e q with
  | true =>
   have HR : Hid (aW T e q = bJ e q) := hide (by unfold aW; rw [hf, hr]; rfl)
   rw [hf] at CF
   have Ac := hide hr
   clear h hf ht hr
   go_enter Tryz.func216, Tryz.ntmps216
   go_wp2_with (first | (go_at_call 235; refine CF.out.mono ?_; rintro _ w2 ⟨rfl, hb⟩; have HB := hide hb; have CR := hide (mj (HEn.out.go hb) hq); rw [Ac.out] at CR; clear hb) | (go_at_call 236; refine CR.out.mono ?_; rintro _ w3 ⟨rfl, hb⟩; have Aa := hide (HB.out.trans (hb.mono HB.out.size)); have CT := hide (fD (HE.out.go Aa.out) hq); clear hb) | (go_at_call 218; refine CT.out.mono ?_; rintro _ w4 ⟨rfl, he, hf⟩; have Ad := hide he; have Ae := hide hf; clear he hf))
   go_end0
   exact ⟨rfl, by rw [HR.out]; exact Ad.out, (Fr.of_below Aa.out).trans Ae.out⟩
  | false =>
   cases ho : pJ T e q with
   | true =>
    have HR : Hid (aW T e q = bJ e q) := hide (by unfold aW; rw [hf, hr, ho]; rfl)
    rw [hf] at CF
    have Ac := hide hr
    have Af := hide ho
    clear h hf ht hr ho
    go_enter Tryz.func216, Tryz.ntmps216
    go_wp2_with (first | (go_at_call 235; refine CF.out.mono ?_; rintro _ w2 ⟨rfl, hb⟩; have HB := hide hb; have CR := hide (mj (HEn.out.go hb) hq); rw [Ac.out] at CR; clear hb) | (go_at_call 236; refine CR.out.mono ?_; rintro _ w3 ⟨rfl, hb⟩; have Aa := hide (HB.out.trans (hb.mono HB.out.size)); have CO := hide (qk (HEn.out.go Aa.out) hq HT.out); rw [Af.out] at CO; clear hb) | (go_at_call 237; refine CO.out.mono ?_; rintro _ w4 ⟨rfl, hb⟩; have Ab := hide (Aa.out.trans (hb.mono Aa.out.size)); have CT := hide (fD (HE.out.go Ab.out) hq); clear hb) | (go_at_call 218; refine CT.out.mono ?_; rintro _ w5 ⟨rfl, he, hf⟩; have Ad := hide he; have Ae := hide hf; clear he hf))
    go_end0
    exact ⟨rfl, by rw [HR.out]; exact Ad.out, (Fr.of_below Ab.out).trans Ae.out⟩
   | false =>
    have HR : Hid (aW T e q = e) := hide (by unfold aW; rw [hf, hr, ho]; rfl)
    rw [hf] at CF
    have Ac := hide hr
    have Af := hide ho
    clear h hf ht hr ho
    go_enter Tryz.func216, Tryz.ntmps216
    go_wp2_with (first | (go_at_call 235; refine CF.out.mono ?_; rintro _ w2 ⟨rfl, hb⟩; have HB := hide hb; have CR := hide (mj (HEn.out.go hb) hq); rw [Ac.out] at CR; clear hb) | (go_at_call 236; refine CR.out.mono ?_; rintro _ w3 ⟨rfl, hb⟩; have Aa := hide (HB.out.trans (hb.mono HB.out.size)); have CO := hide (qk (HEn.out.go Aa.out) hq HT.out); rw [Af.out] at CO; clear hb) | (go_at_call 237; refine CO.out.mono ?_; rintro _ w4 ⟨rfl, hb⟩; have Ab := hide (Aa.out.trans (hb.mono Aa.out.size)); clear hb))
    go_end0
    exact ⟨rfl, by rw [HR.out]; exact HE.out.go Ab.out, Fr.of_below Ab.out⟩
end
set_option maxRecDepth 100000
set_option maxHeartbeats 6400000
section
variable {N : Nat} {S : Nat → Prop} {A : Ad} {T : Th} {F : List Int} {n : Nat} {e : Es} {tv : Value} {w w' : World}
theorem LL.stay {L : Int → List Int} {b : Nat} (h : LL S L n b w) {i : Nat} (hi : i < n) : ∃ a c, w.cell? ⟨b, i, none⟩ = some (.slice a (L i).length c) ∧ ∀ w' : World, (∀ k, S k → w'.heap[k]? = w.heap[k]?) → At1 w' a (aq (L i)) := by
 obtain ⟨_, vs, hf, hl, h⟩ := h
 obtain ⟨a, c, h1, h2, h3⟩ := h i hi
 refine ⟨a, c, hf.get h1, fun w' hk j v hj => ?_⟩
 obtain ⟨g, o, e, hc⟩ := h2 j v hj
 refine ⟨g, o, e, (World.cell?_of_block (hk g (h3 g o e fun e2 => ?_))).trans hc⟩
 rw [e2] at hj
 simp [aq] at hj
theorem En.stay (h : En N S A T F n e tv w) (hf : Fr (fun k => ¬ S k) w w') : ∀ k, S k → w'.heap[k]? = w.heap[k]? := fun k hk => hf.block k (h.kp k hk).1 fun hn => hn hk
theorem iZ (h : En N S A T F n e tv w) {r : Nat} (hr : r < T.rules.length) : ∃ (hm g o : Nat), aj T r = (hm : Int) ∧ hm < n ∧ A.ra = some ⟨g, o, none⟩ ∧ ∀ w' : World, (∀ k, S k → w'.heap[k]? = w.heap[k]?) → w'.cell? ⟨g, o + r * 3 + 1, none⟩ = some (.int .i64 hm) := by
 obtain ⟨x, hx, Ab, Ac, Ad⟩ := fd h.pf hr
 obtain ⟨hm, Aa⟩ := Int.eq_ofNat_of_zero_le Ac
 obtain ⟨gr, go, bd, bp, er, hg, -, x1, -, -, -, -⟩ := dG h.ro.ta.rules hx
 exact ⟨hm, gr, go, by rw [Ab, Aa], by omega, er, fun w' hk => by rw [World.cell?_of_block (hk gr (h.ro.n0 gr hg)), x1, Aa]⟩
theorem nk (h : En N S A T F n e tv w) {r : Nat} (hr : r < T.rules.length) : ∃ l a c g o, row T.beats r = l ∧ A.ba = some ⟨g, o, none⟩ ∧ r < T.beats.length ∧ l.length ≤ 4096 ∧ w.cell? ⟨g, o + r, none⟩ = some (.slice a l.length c) ∧ (∀ s ∈ l, ∃ sm : Nat, s = (sm : Int) ∧ sm < T.rules.length ∧ aj T s ∈ row T.foes (aj T r)) ∧ l.Nodup ∧ ∀ w' : World, (∀ k, S k → w'.heap[k]? = w.heap[k]?) → At1 w' a (aq l) := by
 have Ag := h.pf.ok.bl
 obtain ⟨l, hl⟩ := am (l := T.beats) (i := r) (by omega)
 have er : row T.beats (r : Int) = l := bn (by rw [Int.toNat_natCast]; exact hl)
 obtain ⟨g, o, a2, c2, e1, -, hc, -, -, hI⟩ := bH h.ro.ta.beats hl
 obtain ⟨Ac, Ad⟩ := h.pf.ok.beat r l hl
 obtain ⟨Aa, Ab⟩ := bS (by omega) Ac
 have Af := h.pf.ok.rl
 have Ae : l.length ≤ T.rules.length := by
  have h2 : (l.map Int.toNat).Nodup := i6 (eJ Ab) fun x hx y hy hxy => by have := (Aa x hx).1; have := (Aa y hy).1; omega
  have := gM (N := T.rules.length) h2 fun k hk => by
   obtain ⟨x, hx, rfl⟩ := List.mem_map.1 hk
   have := Aa x hx
   omega
  simpa using this
 refine ⟨l, a2, c2, g, o, er, e1, (List.getElem?_eq_some_iff.1 hl).1, by omega, hc, fun s hs => ?_, eJ Ab, fun w' hk => (Ints.keep (fun g hg => hk g (h.ro.n0 g hg)) hI).at1⟩
 obtain ⟨s0, s1⟩ := Aa s hs
 obtain ⟨sm, rfl⟩ := Int.eq_ofNat_of_zero_le (show 0 ≤ s by omega)
 exact ⟨sm, rfl, by omega, Ad _ hs⟩
theorem vG {r : Nat} (ht : bT T r = true) : (r : Int) ∈ ag T kT (aj T r) := by
 unfold bT at ht
 rw [Int.toNat_natCast] at ht
 cases hR : T.rules[r]? with
 | none => rw [hR] at ht; cases ht
 | some x =>
  rw [hR] at ht
  refine i9.2 ⟨r, x, rfl, hR, ht, ?_⟩
  unfold aj
  rw [Int.toNat_natCast, hR]
  rfl
theorem ip (h : Pf T F n) {r : Nat} (hr : r < T.rules.length) (ht : bT T r = true) {s : Int} (hs : aj T s ∈ row T.foes (aj T r)) : aj T r ∈ ao T (aj T s) := by
 obtain ⟨x, hx, Aa, Ac, Ab⟩ := fd h hr
 refine iO.2 ⟨hH h (by rw [Aa]; exact Ac) (by rw [Aa]; exact Ab) hs, fun e0 => ?_⟩
 have := vG ht
 rw [e0] at this
 cases this
theorem cT {α : Type} {f : Es → α → Es} {e : Es} {l : List α} {k : Nat} {x : α} (hx : l[k]? = some x) : (l.take (k + 1)).foldl f e = f ((l.take k).foldl f e) x := by rw [bD hx, List.foldl_append]; rfl
theorem lq (h : Pf T F n) {s : Nat} (hs : s < T.rules.length) : (ao T (aj T s)).Nodup := by
 obtain ⟨x, -, Ab, Ac, Ad⟩ := fd h hs
 obtain ⟨hm, Aa⟩ := Int.eq_ofNat_of_zero_le Ac
 rw [Ab, Aa]
 exact eJ (j4 h (by omega))
theorem nN {r : Nat} (h : Eg N S A T F n e w) (hr : r < T.rules.length) (ht : bT T r = true) :
    Calls Tryz.prog 179 #[aa A.K, .int .i64 r] w fun o w' => o = .returned (.tuple #[]) ∧ Eg N S A T F n (defendE T e r) w' ∧ Fr (fun k => ¬ S k) w w' := by
 have Av := hide h
 obtain ⟨tv, h⟩ := h
 have HE := hide h
 have AC : T.rules.length ≤ 4096 := h.pf.ok.rl
 obtain ⟨hm, gr, go, hh, Au, er, Aq⟩ := iZ h hr
 have x1 := Aq w fun _ _ => rfl
 obtain ⟨l, la, lc, gb, ob, el, eb, AB, AD, cb, Aj, -, Ao⟩ := nk h hr
 have k2 := h.bx.get (i := 2) rfl
 have k3 := h.bx.get (i := 3) rfl
 rw [er] at k2
 rw [eb] at k3
 have As := hide Aj
 have At := hide Ao
 have Az : Hid (∀ s : Nat, (s : Int) ∈ l → s < T.rules.length ∧ (hm : Int) ∈ ao T (aj T s)) := hide fun s hs => by
  obtain ⟨sm, e1, h1, h2⟩ := Aj s hs
  have : s = sm := by omega
  subst this
  refine ⟨h1, ?_⟩
  have := ip h.pf hr ht h2
  rw [hh] at this
  exact this
 have HR : Hid (defendE T e r = l.foldl (eG (hm : Int)) e) := hide (by unfold defendE; rw [el, hh])
 clear h Aq Aj Ao er eb el hh ht
 go_enter Tryz.func179, Tryz.ntmps179
 go_wp2_with fail
 clear k2 k3 cb x1
 go_loopw [28] (fun x wr => ∃ k : Nat, k ≤ l.length ∧ x = .int .i64 k ∧ Hid (Eg N S A T F n ((l.take k).foldl (eG (hm : Int)) e) wr) ∧ Hid (Fr (fun k => ¬ S k) w wr)) (fun x _ => l.length - (intOf x).toNat)
 case atStart => exact ⟨0, by omega, rfl, hide Av.out, hide (Fr.refl _ _)⟩
 obtain ⟨k, hk, rfl, HEr, HFr⟩ := hrel
 by_cases hlt : k < l.length
 ·obtain ⟨s0, hs⟩ := am hlt
  obtain ⟨s, rfl, Ab, -⟩ := As.out s0 (List.mem_of_getElem? hs)
  obtain ⟨-, Ai⟩ := Az.out s (List.mem_of_getElem? hs)
  obtain ⟨gx, ox, rfl, cx⟩ := (At.out wr (HE.out.stay HFr.out)).get hs
  have Ah : Hid ((l.take (k + 1)).foldl (eG (hm : Int)) e = eG (hm : Int) ((l.take k).foldl (eG (hm : Int)) e) s) := hide (cT hs)
  clear hs
  generalize (l.take k).foldl (eG (hm : Int)) e = e1 at HEr Ah
  obtain ⟨Al, Aa⟩ := HEr.out
  clear HEr
  obtain ⟨p, hp, AA, Ay, c1, -, c3⟩ := mT Aa Ab Ai
  have Ag := lq Aa.pf Ab
  have AE := Aa.bx.get (i := 16) rfl
  have CP := hide fun d : Nat => jj (Aa.drewN d) Ab hp
  obtain ⟨Ap, Ad⟩ : ∃ Ap, (ao T (aj T (s : Int))).length = Ap := ⟨_, rfl⟩
  rw [Ad] at c1 AA Ay
  have Ar := hide Aa
  have HP := hide hp
  have AF := hide Ag
  cases hcb : e1.cb s hm with
  | true =>
   have HT : Hid (eG (hm : Int) e1 s = e1) := hide (by unfold eG; rw [hcb]; rfl)
   rw [hcb] at c3
   clear hcb Aa hp Ag Ai Ad
   go_upto_region 4 with fail
   go_quiet ((go_at_call 209; exact Calls.quiet_of (CP.out _)))
   go_wp2_with fail
   go_roundw
   case rel => exact ⟨k + 1, by omega, by go_num, hide (by rw [Ah.out, HT.out]; exact ⟨Al, Ar.out.drewN _⟩), hide (HFr.out.trans (Fr.of_below (ah wr _)))⟩
   case measure => simp [intOf]; omega
  | false =>
   rw [hcb] at c3
   have Ac := fun d : Nat => (Aa.drewN d).setCb Ab hp Ag true
   have Ae := hide fun d : Nat => (Ac d).1.setUp (aE e1.up)
   have An := hide fun d : Nat => ((Fr.of_below (Z := fun k => ¬ S k) (ah wr d)).trans (Ac d).2).trans (Ae.out d).2
   have CS := hide fun d : Nat => mQ (w := wr.drewN d) (K := A.K) (g := A.cr s) (i := p * 2 + 1) (v := true) (x := .bool false) c3 ((Aa.drewN d |>.cr s Ab).frz _) ((Ac d).1.bx.get (i := 21) rfl) ((Ac d).1.bx.frz 21)
   cases hdr : dropped e1 s with
   | true =>
    have HT : Hid (eG (hm : Int) e1 s = { e1 with cb := aA e1.cb s (aA (e1.cb s) hm true), up := aE e1.up }) := hide (by
     unfold eG
     rw [hcb, if_neg (by decide)]
     have : dropped { e1 with cb := aA e1.cb s (aA (e1.cb s) hm true), up := aE e1.up } s = true := hdr
     show (if dropped { e1 with cb := aA e1.cb s (aA (e1.cb s) hm true), up := aE e1.up } s then _ else _) = _
     rw [if_pos this])
    have CD := hide fun d : Nat => jg (Ae.out d).1 Ab
    have Ak : Hid (dropped { e1 with cb := aA e1.cb s (aA (e1.cb s) hm true), up := aE e1.up } s = true) := hide hdr
    clear hcb Aa hp Ag Ai Ad Ac hdr
    go_upto_region 4 with fail
    go_quiet ((go_at_call 209; exact Calls.quiet_of (CP.out _)))
    go_wp2_with (first | (go_at_call 210; refine (CS.out _).mono ?_; rintro _ w2 ⟨rfl, rfl⟩) | (go_at_call 211; refine (CD.out _).mono ?_; rintro _ w3 ⟨Af, rfl⟩; have Am := Af.trans (by rw [Ak.out]); subst Am; clear Af))
    go_roundw
    case rel => exact ⟨k + 1, by omega, by go_num, hide (by rw [Ah.out, HT.out]; exact ⟨Al, (Ae.out _).1⟩), hide (HFr.out.trans (An.out _))⟩
    case measure => simp [intOf]; omega
   | false =>
    have HT : Hid (eG (hm : Int) e1 s = fM { e1 with cb := aA e1.cb s (aA (e1.cb s) hm true), up := aE e1.up } hm) := hide (by
     unfold eG
     rw [hcb, if_neg (by decide)]
     have : dropped { e1 with cb := aA e1.cb s (aA (e1.cb s) hm true), up := aE e1.up } s = false := hdr
     show (if dropped { e1 with cb := aA e1.cb s (aA (e1.cb s) hm true), up := aE e1.up } s then _ else _) = _
     rw [this, if_neg (by decide)])
    have CD := hide fun d : Nat => jg (Ae.out d).1 Ab
    have Ak : Hid (dropped { e1 with cb := aA e1.cb s (aA (e1.cb s) hm true), up := aE e1.up } s = false) := hide hdr
    have CC := hide fun d : Nat => kF (Ae.out d).1 Au
    clear hcb Aa hp Ag Ai Ad Ac hdr
    go_upto_region 4 with fail
    go_quiet ((go_at_call 209; exact Calls.quiet_of (CP.out _)))
    go_wp2_with (first | (go_at_call 210; refine (CS.out _).mono ?_; rintro _ w2 ⟨rfl, rfl⟩) | (go_at_call 211; refine (CD.out _).mono ?_; rintro _ w3 ⟨Af, rfl⟩; have Am := Af.trans (by rw [Ak.out]); subst Am; clear Af) | (go_at_call 212; refine (CC.out _).mono ?_; rintro _ w4 ⟨rfl, he, hf⟩; have Ax := hide he; have Aw := hide ((An.out _).trans hf); clear he hf))
    go_roundw
    case rel => exact ⟨k + 1, by omega, by go_num, hide (by rw [Ah.out, HT.out]; exact ⟨Al, Ax.out⟩), hide (HFr.out.trans Aw.out)⟩
    case measure => simp [intOf]; omega
 have HL : Hid (l.take k = l) := hide (List.take_of_length_le (by omega))
 go_wp2_with fail
 go_end0
 exact ⟨rfl, by rw [HR.out]; have := HEr.out; rw [HL.out] at this; exact this, HFr.out⟩
end
set_option maxRecDepth 100000
set_option maxHeartbeats 6400000
section
variable {N : Nat} {S : Nat → Prop} {A : Ad} {T : Th} {F : List Int} {n : Nat} {e : Es} {tv : Value} {w w' : World}
theorem qa {r : Nat} (h : Eg N S A T F n e w) (hr : r < T.rules.length) (ht : bT T r = true) :
    Calls Tryz.prog 238 #[aa A.K, .int .i64 r] w fun o w' => o = .returned (.tuple #[]) ∧ Eg N S A T F n (withE T e r) w' ∧ Fr (fun k => ¬ S k) w w' := by
 have Au := hide h
 obtain ⟨tv, h⟩ := h
 have HE := hide h
 have AF : T.rules.length ≤ 4096 := h.pf.ok.rl
 obtain ⟨hm, gr, go, hh, At, er, Ap⟩ := iZ h hr
 have x1 := Ap w fun _ _ => rfl
 obtain ⟨l, la, lc, gb, ob, el, eb, AE, AG, cb, Ag, -, Am⟩ := nk h hr
 have k2 := h.bx.get (i := 2) rfl
 have k3 := h.bx.get (i := 3) rfl
 rw [er] at k2
 rw [eb] at k3
 have Ar := hide Ag
 have As := hide Am
 have AA : Hid (∀ s : Nat, (s : Int) ∈ l → s < T.rules.length ∧ (hm : Int) ∈ ao T (aj T s)) := hide fun s hs => by
  obtain ⟨sm, e1, h1, h2⟩ := Ag s hs
  have : s = sm := by omega
  subst this
  refine ⟨h1, ?_⟩
  have := ip h.pf hr ht h2
  rw [hh] at this
  exact this
 have HR : Hid (withE T e r = l.foldl (fg (hm : Int)) e) := hide (by unfold withE; rw [el, hh])
 clear h Ap Ag Am er eb el hh ht
 go_enter Tryz.func238, Tryz.ntmps238
 go_wp2_with fail
 clear k2 k3 cb x1
 have AC : Tryz.prog.follows .mixedOrders = true := by kernel_rfl
 go_loopw [28] (fun x wr => ∃ k : Nat, k ≤ l.length ∧ x = .int .i64 k ∧ Hid (Eg N S A T F n ((l.take k).foldl (fg (hm : Int)) e) wr) ∧ Hid (Fr (fun k => ¬ S k) w wr)) (fun x _ => l.length - (intOf x).toNat)
 case atStart => exact ⟨0, by omega, rfl, hide Au.out, hide (Fr.refl _ _)⟩
 obtain ⟨k, hk, rfl, HEr, HFr⟩ := hrel
 by_cases hlt : k < l.length
 ·obtain ⟨s0, hs⟩ := am hlt
  obtain ⟨s, rfl, Ab, -⟩ := Ar.out s0 (List.mem_of_getElem? hs)
  obtain ⟨-, Aq⟩ := AA.out s (List.mem_of_getElem? hs)
  obtain ⟨gx, ox, rfl, cx⟩ := (As.out wr (HE.out.stay HFr.out)).get hs
  have Ae : Hid ((l.take (k + 1)).foldl (fg (hm : Int)) e = fg (hm : Int) ((l.take k).foldl (fg (hm : Int)) e) s) := hide (cT hs)
  clear hs
  generalize (l.take k).foldl (fg (hm : Int)) e = e1 at HEr Ae
  obtain ⟨Ao, Aa⟩ := HEr.out
  clear HEr
  obtain ⟨p, hp, AB, Ay, c1, c2, -⟩ := mT Aa Ab Aq
  have Ai := lq Aa.pf Ab
  have Az := Aa.bx.get (i := 16) rfl
  have CP := hide fun d : Nat => jj (Aa.drewN d) Ab hp
  obtain ⟨An, Aj⟩ : ∃ An, (ao T (aj T (s : Int))).length = An := ⟨_, rfl⟩
  rw [Aj] at c1 AB Ay
  obtain ⟨v', hv'⟩ : ∃ v', IntKind.i64.wrap (e1.cd s hm - 1) = v' := ⟨_, rfl⟩
  have HV : Hid (lT (e1.cd s hm) = v') := hide hv'
  have AD := hide Aa
  have HP := hide hp
  have AH := hide Ai
  obtain ⟨e2, Af⟩ : ∃ e2 : Es, e2 = { e1 with cd := aA e1.cd s (aA (e1.cd s) hm v'), up := aE e1.up } := ⟨_, rfl⟩
  have Ah : Hid (fg (hm : Int) e1 s = if decide (v' = 0) && used e2 s then bJ e2 hm else e2) := hide (by
   unfold fg
   rw [HV.out, Af]
   simp only [aL])
  have Ac := hide fun d : Nat => (Aa.drewN d).setCd Ab hp Ai v'
  have Ad : Hid (∀ d : Nat, En N S A T F n e2 Ao (((wr.drewN d).setCell ⟨A.cr s, p * 2, none⟩ (.int .i64 v')).setCell ⟨A.K, 21, none⟩ (.int .i64 (aE e1.up)))) := hide fun d => by
   rw [Af]
   exact ((Ac.out d).1.setUp (aE e1.up)).1
  have Ak := hide fun d : Nat => ((Fr.of_below (Z := fun k => ¬ S k) (ah wr d)).trans (Ac.out d).2).trans ((Ac.out d).1.setUp (aE e1.up)).2
  have CS := hide fun d : Nat => fE (w := wr.drewN d) (K := A.K) (g := A.cr s) (i := p * 2) (v := v') (x := .int .i64 (e1.cd s hm)) c2 ((Aa.drewN d |>.cr s Ab).frz _) ((Ac.out d).1.bx.get (i := 21) rfl) ((Ac.out d).1.bx.frz 21)
  have Al : Hid (∀ d : Nat, (((wr.drewN d).setCell ⟨A.cr s, p * 2, none⟩ (.int .i64 v')).setCell ⟨A.K, 21, none⟩ (.int .i64 (aE e1.up))).cell? ⟨A.cr s, p * 2, none⟩ = some (.int .i64 v')) := hide fun d => by
   have := ((Ad.out d).cr s Ab).get (fI hp).1
   rw [Af] at this
   simp only [aL] at this
   exact this
  have CU := hide fun d : Nat => me (Ad.out d) Ab
  have HEg := hide fun d : Nat => (⟨Ao, Ad.out d⟩ : Eg N S A T F n e2 _)
  generalize e1.cd s hm = x at c2 hv' CS
  clear Aa hp Ai Aq Aj Af
  go_upto_region 4 with fail
  go_quiet ((go_at_call 209; exact Calls.quiet_of (CP.out _)))
  rename Nat => d0
  clear CP Az c1 cx
  go_upto_region 5 with fail
  refine aK (by assumption) (by kernel_rfl) (by kernel_rfl) (by kernel_rfl) (by kernel_rfl) ?_
  dsimp only [List.dropLast, List.getLast, List.cons_append, List.nil_append]
  repeat (go_big_quiet_step (fail))
  refine wpQuiet_nil ?_
  rintro _ ⟨nq, rfl⟩
  rw [World.drewN_drewN]
  generalize d0 + nq = dd
  have CSd := hide (CS.out dd)
  have c9 := Al.out dd
  have CUd := hide (CU.out dd)
  have HEd := hide (HEg.out dd)
  have HFd := hide (Ak.out dd)
  clear CS Al CU HEg Ak Ad Ac c2 hv'
  by_cases hv0 : v' = 0
  ·have Av : (v' == 0) = true := by simpa using hv0
   cases hu : used e2 s with
   | true =>
    have HT : Hid (fg (hm : Int) e1 s = bJ e2 hm) := hide (by rw [Ah.out, hu, decide_eq_true hv0]; rfl)
    have CL := hide (fD HEd.out At)
    rw [hu] at CUd
    clear hu hv0
    go_wp2_with (first | (go_at_call 223; refine CSd.out.mono ?_; rintro _ w2 ⟨rfl, rfl⟩) | (go_at_call 234; refine CUd.out.mono ?_; rintro _ w3 ⟨rfl, rfl⟩) | (go_at_call 218; refine CL.out.mono ?_; rintro _ w4 ⟨rfl, he, hf⟩; have Ax := hide he; have Aw := hide (HFd.out.trans hf); clear he hf))
    go_roundw
    case rel => exact ⟨k + 1, by omega, by go_num, hide (by rw [Ae.out, HT.out]; exact Ax.out), hide (HFr.out.trans Aw.out)⟩
    case measure => simp [intOf]; omega
   | false =>
    have HT : Hid (fg (hm : Int) e1 s = e2) := hide (by rw [Ah.out, hu, decide_eq_true hv0]; rfl)
    rw [hu] at CUd
    clear hu hv0
    go_wp2_with (first | (go_at_call 223; refine CSd.out.mono ?_; rintro _ w2 ⟨rfl, rfl⟩) | (go_at_call 234; refine CUd.out.mono ?_; rintro _ w3 ⟨rfl, rfl⟩))
    go_roundw
    case rel => exact ⟨k + 1, by omega, by go_num, hide (by rw [Ae.out, HT.out]; exact HEd.out), hide (HFr.out.trans HFd.out)⟩
    case measure => simp [intOf]; omega
  have Av : (v' == 0) = false := by simpa using hv0
  have HT : Hid (fg (hm : Int) e1 s = e2) := hide (by rw [Ah.out, decide_eq_false hv0]; rfl)
  clear hv0
  go_wp2_with (go_at_call 223; refine CSd.out.mono ?_; rintro _ w2 ⟨rfl, rfl⟩)
  go_roundw
  case rel => exact ⟨k + 1, by omega, by go_num, hide (by rw [Ae.out, HT.out]; exact HEd.out), hide (HFr.out.trans HFd.out)⟩
  case measure => simp [intOf]; omega
 have HL : Hid (l.take k = l) := hide (List.take_of_length_le (by omega))
 go_wp2_with fail
 go_end0
 exact ⟨rfl, by rw [HR.out]; have := HEr.out; rw [HL.out] at this; exact this, HFr.out⟩
theorem fh {k h : Int} {v : Value} : Calls Tryz.prog 176 #[.agg #[.int .i64 k, .int .i64 h, v]] w fun o w' => o = .returned (.bool (!decide (k = 3))) ∧ Below w.heap.size w w' := by
 have hB := ae w (.cells #[.int .i64 k, .int .i64 h, v] 114)
 have c0 : (w.alloc (.cells #[.int .i64 k, .int .i64 h, v] 114)).cell? ⟨w.heap.size, 0, none⟩ = some (.int .i64 k) := cell_of_row _ _ 0 _ _ _ (heap_alloc_new w _)
 have HB := hide hB
 have HK : Hid ((!decide (k = 3)) = (k != 3)) := hide (by by_cases e0 : k = 3 <;> simp [e0])
 clear hB
 go_enter Tryz.func176, Tryz.ntmps176
 go_wp2_with fail
 go_ret
 exact ⟨by rw [HK.out]; rfl, HB.out⟩
end
end Go.Proofs.YtmlhcncagdfjfaaGreat.Fa
