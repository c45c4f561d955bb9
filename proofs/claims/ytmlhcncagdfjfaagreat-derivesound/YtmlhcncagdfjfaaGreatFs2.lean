import Derived.Test.YtmlhcncagdfjfaaGreatFsM
import Derived.Deep.RegionLaw
set_option maxRecDepth 100000
set_option maxHeartbeats 3200000
namespace Go.Proofs.YtmlhcncagdfjfaaGreat.Fa
open Go.RowKit
section
variable {N : Nat} {S : Nat → Prop} {A : Ad} {T : Th} {F : List Int} {n : Nat} {e : Es} {tv : Value} {w w' : World}
theorem ve {r : Nat} (h : En N S A T F n e tv w) (hr : r < T.rules.length) :
    Calls Tryz.prog 217 #[aa A.K, .pointer (some ⟨A.K, 8, none⟩), .int .i64 r] w fun o w' => o = .returned (.bool (decide ((du e false r).ms false r = 0))) ∧ En N S A T F n (du e false r) tv w' ∧ Fr (fun k => ¬ S k) w w' := by
 have k8 := h.bx.get (i := 9) rfl
 have cm := (h.ms false).get (aX hr)
 obtain ⟨v', hv'⟩ : ∃ v', IntKind.i64.wrap (e.ms false r - 1) = v' := ⟨_, rfl⟩
 have HV : Hid (lS (e.ms false r) = v') := hide hv'
 have HE := hide h
 have HQ := hide hr
 generalize e.ms false r = x at cm hv'
 clear h
 have Aa : Tryz.prog.follows .mixedOrders = true := by kernel_rfl
 go_enter Tryz.func217, Tryz.ntmps217
 go_wp2_with fail
 refine aL (by assumption) (by kernel_rfl) (by kernel_rfl) (by kernel_rfl) (by kernel_rfl) ?_
 dsimp only [List.dropLast, List.getLast, List.cons_append, List.nil_append]
 repeat (go_big_quiet_step (fail))
 refine wpQuiet_nil ?_
 rintro _ ⟨nq, rfl⟩
 have hE := HE.out.drewN nq
 have h1 := hE.setMs false HQ.out v'
 have h2 := h1.1.setUp (aF e.up)
 have CS := hide (fD (K := A.K) (v := v') ((hE.ms false).get (aX HQ.out)) ((hE.ms false).frz r) (h1.1.bx.get (i := 21) rfl) (h1.1.bx.frz 21))
 have HN : Hid (En N S A T F n (du e false r) tv (((w.drewN nq).setCell ⟨A.ms false, r, none⟩ (.int .i64 v')).setCell ⟨A.K, 21, none⟩ (.int .i64 (aF e.up)))) := hide (by
  unfold du
  rw [HV.out]
  exact h2.1)
 have HF := hide ((Fr.of_below (ah w nq)).trans (h1.2.trans h2.2))
 have HB : Hid (decide ((du e false r).ms false r = 0) = (v' == 0)) := hide (by
  unfold du
  simp only [dz, aM, HV.out]
  by_cases e0 : v' = 0 <;> simp [e0])
 have k9 := HN.out.bx.get (i := 9) rfl
 have c9 : (((w.drewN nq).setCell ⟨A.ms false, r, none⟩ (.int .i64 v')).setCell ⟨A.K, 21, none⟩ (.int .i64 (aF e.up))).cell? ⟨A.ms false, r, none⟩ = some (.int .i64 v') := by
  have := (HN.out.ms false).get (aX HQ.out)
  unfold du at this
  simp only [dz, aM, HV.out] at this
  exact this
 clear hE h1 h2 k8 cm hv'
 go_wp2_with (go_at_call 223; refine CS.out.mono ?_; rintro _ w2 ⟨rfl, rfl⟩)
 go_ret
 exact ⟨by rw [HB.out]; rfl, HN.out, HF.out⟩
theorem qZ {r : Nat} (h : En N S A T F n e tv w) (hr : r < T.rules.length) :
    Calls Tryz.prog 219 #[aa A.K, .pointer (some ⟨A.K, 8, none⟩), .int .i64 r] w fun o w' => o = .returned (.bool (!e.rf false r)) ∧ En N S A T F n (refE e false r) tv w' ∧ Fr (fun k => ¬ S k) w w' := by
 have k8 := h.bx.get (i := 10) rfl
 have cm := (h.rf false).get (dv hr)
 have HE := hide h
 have HQ := hide hr
 cases hx : e.rf false r with
 | true =>
  rw [hx] at cm
  have HR : Hid (refE e false r = e) := hide (by unfold refE; rw [hx]; rfl)
  clear h hx
  go_enter Tryz.func219, Tryz.ntmps219
  go_wp2_with fail
  go_ret
  exact ⟨rfl, by rw [HR.out]; exact HE.out, Fr.refl _ _⟩
 | false =>
  rw [hx] at cm
  have h1 := h.setRf false hr true
  have h2 := h1.1.setUp (aF e.up)
  have CS := hide (mi (K := A.K) (v := true) cm ((h.rf false).frz r) (h1.1.bx.get (i := 21) rfl) (h1.1.bx.frz 21))
  have HN : Hid (En N S A T F n (refE e false r) tv ((w.setCell ⟨A.rr false, r, none⟩ (.bool true)).setCell ⟨A.K, 21, none⟩ (.int .i64 (aF e.up)))) := hide (by
   unfold refE
   rw [hx]
   exact h2.1)
  have HF := hide (h1.2.trans h2.2)
  clear h h1 h2 hx
  go_enter Tryz.func219, Tryz.ntmps219
  go_wp2_with (go_at_call 210; refine CS.out.mono ?_; rintro _ w2 ⟨rfl, rfl⟩)
  go_ret
  exact ⟨rfl, HN.out, HF.out⟩
theorem lT {q : Nat} (h : En N S A T F n e tv w) (hq : q < n) :
    Calls Tryz.prog 220 #[aa A.K, .pointer (some ⟨A.K, 8, none⟩), .int .i64 q] w fun o w' => o = .returned (.bool (ep e false q)) ∧ En N S A T F n (cu e false q) tv w' ∧ Fr (fun k => ¬ S k) w w' := by
 have k8 := h.bx.get (i := 11) rfl
 have cm := (h.op false).get (aX hq)
 obtain ⟨v', hv'⟩ : ∃ v', IntKind.i64.wrap (e.op false q - 1) = v' := ⟨_, rfl⟩
 have HV : Hid (lS (e.op false q) = v') := hide hv'
 have HE := hide h
 have HQ := hide hq
 by_cases hx : 1 < e.op false q
 · have hd : decide (1 < e.op false q) = true := decide_eq_true hx
   have HR : Hid (ep e false q = false) := hide (by unfold ep; exact decide_eq_false (by omega))
   have HX := hide hx
   generalize e.op false q = x at cm hv' hd
   clear h hx
   have Aa : Tryz.prog.follows .mixedOrders = true := by kernel_rfl
   go_enter Tryz.func220, Tryz.ntmps220
   go_wp2_with fail
   refine aL (by assumption) (by kernel_rfl) (by kernel_rfl) (by kernel_rfl) (by kernel_rfl) ?_
   dsimp only [List.dropLast, List.getLast, List.cons_append, List.nil_append]
   repeat (go_big_quiet_step (fail))
   refine wpQuiet_nil ?_
   rintro _ ⟨nq, rfl⟩
   have hE := HE.out.drewN nq
   have h1 := hE.setOp false HQ.out v'
   have h2 := h1.1.setUp (aF e.up)
   have CS := hide (fD (K := A.K) (v := v') ((hE.op false).get (aX HQ.out)) ((hE.op false).frz q) (h1.1.bx.get (i := 21) rfl) (h1.1.bx.frz 21))
   have HN : Hid (En N S A T F n (cu e false q) tv (((w.drewN nq).setCell ⟨A.op false, q, none⟩ (.int .i64 v')).setCell ⟨A.K, 21, none⟩ (.int .i64 (aF e.up)))) := hide (by
    unfold cu
    rw [if_pos HX.out, HV.out]
    exact h2.1)
   have HF := hide ((Fr.of_below (ah w nq)).trans (h1.2.trans h2.2))
   clear hE h1 h2 k8 cm hv' hd
   go_wp2_with (go_at_call 223; refine CS.out.mono ?_; rintro _ w2 ⟨rfl, rfl⟩)
   go_ret
   exact ⟨by rw [HR.out]; rfl, HN.out, HF.out⟩
 · have hd : decide (1 < e.op false q) = false := decide_eq_false hx
   have HR : Hid (ep e false q = (e.op false q == 1)) := hide (by unfold ep; by_cases e0 : e.op false q = 1 <;> simp [e0])
   have HC : Hid (cu e false q = e) := hide (by unfold cu; rw [if_neg hx])
   generalize e.op false q = x at cm hd HR
   clear h hx hv' HV
   go_enter Tryz.func220, Tryz.ntmps220
   go_wp2_with fail
   go_ret
   exact ⟨by rw [HR.out]; rfl, by rw [HC.out]; exact HE.out, Fr.refl _ _⟩
theorem vZ {r : Nat} (h : En N S A T F n e tv w) (hr : r < T.rules.length) :
    Calls Tryz.prog 217 #[aa A.K, .pointer (some ⟨A.K, 12, none⟩), .int .i64 r] w fun o w' => o = .returned (.bool (decide ((du e true r).ms true r = 0))) ∧ En N S A T F n (du e true r) tv w' ∧ Fr (fun k => ¬ S k) w w' := by
 have k8 := h.bx.get (i := 13) rfl
 have cm := (h.ms true).get (aX hr)
 obtain ⟨v', hv'⟩ : ∃ v', IntKind.i64.wrap (e.ms true r - 1) = v' := ⟨_, rfl⟩
 have HV : Hid (lS (e.ms true r) = v') := hide hv'
 have HE := hide h
 have HQ := hide hr
 generalize e.ms true r = x at cm hv'
 clear h
 have Aa : Tryz.prog.follows .mixedOrders = true := by kernel_rfl
 go_enter Tryz.func217, Tryz.ntmps217
 go_wp2_with fail
 refine aL (by assumption) (by kernel_rfl) (by kernel_rfl) (by kernel_rfl) (by kernel_rfl) ?_
 dsimp only [List.dropLast, List.getLast, List.cons_append, List.nil_append]
 repeat (go_big_quiet_step (fail))
 refine wpQuiet_nil ?_
 rintro _ ⟨nq, rfl⟩
 have hE := HE.out.drewN nq
 have h1 := hE.setMs true HQ.out v'
 have h2 := h1.1.setUp (aF e.up)
 have CS := hide (fD (K := A.K) (v := v') ((hE.ms true).get (aX HQ.out)) ((hE.ms true).frz r) (h1.1.bx.get (i := 21) rfl) (h1.1.bx.frz 21))
 have HN : Hid (En N S A T F n (du e true r) tv (((w.drewN nq).setCell ⟨A.ms true, r, none⟩ (.int .i64 v')).setCell ⟨A.K, 21, none⟩ (.int .i64 (aF e.up)))) := hide (by
  unfold du
  rw [HV.out]
  exact h2.1)
 have HF := hide ((Fr.of_below (ah w nq)).trans (h1.2.trans h2.2))
 have HB : Hid (decide ((du e true r).ms true r = 0) = (v' == 0)) := hide (by
  unfold du
  simp only [dz, aM, HV.out]
  by_cases e0 : v' = 0 <;> simp [e0])
 have k9 := HN.out.bx.get (i := 13) rfl
 have c9 : (((w.drewN nq).setCell ⟨A.ms true, r, none⟩ (.int .i64 v')).setCell ⟨A.K, 21, none⟩ (.int .i64 (aF e.up))).cell? ⟨A.ms true, r, none⟩ = some (.int .i64 v') := by
  have := (HN.out.ms true).get (aX HQ.out)
  unfold du at this
  simp only [dz, aM, HV.out] at this
  exact this
 clear hE h1 h2 k8 cm hv'
 go_wp2_with (go_at_call 223; refine CS.out.mono ?_; rintro _ w2 ⟨rfl, rfl⟩)
 go_ret
 exact ⟨by rw [HB.out]; rfl, HN.out, HF.out⟩
theorem rp {r : Nat} (h : En N S A T F n e tv w) (hr : r < T.rules.length) :
    Calls Tryz.prog 219 #[aa A.K, .pointer (some ⟨A.K, 12, none⟩), .int .i64 r] w fun o w' => o = .returned (.bool (!e.rf true r)) ∧ En N S A T F n (refE e true r) tv w' ∧ Fr (fun k => ¬ S k) w w' := by
 have k8 := h.bx.get (i := 14) rfl
 have cm := (h.rf true).get (dv hr)
 have HE := hide h
 have HQ := hide hr
 cases hx : e.rf true r with
 | true =>
  rw [hx] at cm
  have HR : Hid (refE e true r = e) := hide (by unfold refE; rw [hx]; rfl)
  clear h hx
  go_enter Tryz.func219, Tryz.ntmps219
  go_wp2_with fail
  go_ret
  exact ⟨rfl, by rw [HR.out]; exact HE.out, Fr.refl _ _⟩
 | false =>
  rw [hx] at cm
  have h1 := h.setRf true hr true
  have h2 := h1.1.setUp (aF e.up)
  have CS := hide (mi (K := A.K) (v := true) cm ((h.rf true).frz r) (h1.1.bx.get (i := 21) rfl) (h1.1.bx.frz 21))
  have HN : Hid (En N S A T F n (refE e true r) tv ((w.setCell ⟨A.rr true, r, none⟩ (.bool true)).setCell ⟨A.K, 21, none⟩ (.int .i64 (aF e.up)))) := hide (by
   unfold refE
   rw [hx]
   exact h2.1)
  have HF := hide (h1.2.trans h2.2)
  clear h h1 h2 hx
  go_enter Tryz.func219, Tryz.ntmps219
  go_wp2_with (go_at_call 210; refine CS.out.mono ?_; rintro _ w2 ⟨rfl, rfl⟩)
  go_ret
  exact ⟨rfl, HN.out, HF.out⟩
theorem rz {q : Nat} (h : En N S A T F n e tv w) (hq : q < n) :
    Calls Tryz.prog 220 #[aa A.K, .pointer (some ⟨A.K, 12, none⟩), .int .i64 q] w fun o w' => o = .returned (.bool (ep e true q)) ∧ En N S A T F n (cu e true q) tv w' ∧ Fr (fun k => ¬ S k) w w' := by
 have k8 := h.bx.get (i := 15) rfl
 have cm := (h.op true).get (aX hq)
 obtain ⟨v', hv'⟩ : ∃ v', IntKind.i64.wrap (e.op true q - 1) = v' := ⟨_, rfl⟩
 have HV : Hid (lS (e.op true q) = v') := hide hv'
 have HE := hide h
 have HQ := hide hq
 by_cases hx : 1 < e.op true q
 · have hd : decide (1 < e.op true q) = true := decide_eq_true hx
   have HR : Hid (ep e true q = false) := hide (by unfold ep; exact decide_eq_false (by omega))
   have HX := hide hx
   generalize e.op true q = x at cm hv' hd
   clear h hx
   have Aa : Tryz.prog.follows .mixedOrders = true := by kernel_rfl
   go_enter Tryz.func220, Tryz.ntmps220
   go_wp2_with fail
   refine aL (by assumption) (by kernel_rfl) (by kernel_rfl) (by kernel_rfl) (by kernel_rfl) ?_
   dsimp only [List.dropLast, List.getLast, List.cons_append, List.nil_append]
   repeat (go_big_quiet_step (fail))
   refine wpQuiet_nil ?_
   rintro _ ⟨nq, rfl⟩
   have hE := HE.out.drewN nq
   have h1 := hE.setOp true HQ.out v'
   have h2 := h1.1.setUp (aF e.up)
   have CS := hide (fD (K := A.K) (v := v') ((hE.op true).get (aX HQ.out)) ((hE.op true).frz q) (h1.1.bx.get (i := 21) rfl) (h1.1.bx.frz 21))
   have HN : Hid (En N S A T F n (cu e true q) tv (((w.drewN nq).setCell ⟨A.op true, q, none⟩ (.int .i64 v')).setCell ⟨A.K, 21, none⟩ (.int .i64 (aF e.up)))) := hide (by
    unfold cu
    rw [if_pos HX.out, HV.out]
    exact h2.1)
   have HF := hide ((Fr.of_below (ah w nq)).trans (h1.2.trans h2.2))
   clear hE h1 h2 k8 cm hv' hd
   go_wp2_with (go_at_call 223; refine CS.out.mono ?_; rintro _ w2 ⟨rfl, rfl⟩)
   go_ret
   exact ⟨by rw [HR.out]; rfl, HN.out, HF.out⟩
 · have hd : decide (1 < e.op true q) = false := decide_eq_false hx
   have HR : Hid (ep e true q = (e.op true q == 1)) := hide (by unfold ep; by_cases e0 : e.op true q = 1 <;> simp [e0])
   have HC : Hid (cu e true q = e) := hide (by unfold cu; rw [if_neg hx])
   generalize e.op true q = x at cm hd HR
   clear h hx hv' HV
   go_enter Tryz.func220, Tryz.ntmps220
   go_wp2_with fail
   go_ret
   exact ⟨by rw [HR.out]; rfl, by rw [HC.out]; exact HE.out, Fr.refl _ _⟩
end
set_option maxRecDepth 100000
set_option maxHeartbeats 6400000
theorem zg : (Tryz.prog.info? 85).map (fun i => (i.zero, i.size, i.bytes)) = some (some (.agg #[.int .i64 0, .int .i64 0]), 2, 16) := by kernel_rfl
section
variable {N : Nat} {S : Nat → Prop} {A : Ad} {T : Th} {F : List Int} {n : Nat} {e : Es} {w w' : World}
def Eg (N : Nat) (S : Nat → Prop) (A : Ad) (T : Th) (F : List Int) (n : Nat) (e : Es) (w : World) : Prop := ∃ tv, En N S A T F n e tv w
theorem Eg.go (h : Eg N S A T F n e w) (hb : Below w.heap.size w w') : Eg N S A T F n e w' := by
 obtain ⟨tv, h⟩ := h
 exact ⟨tv, h.go hb⟩
theorem dp {q : Nat} {t : Int} (h : Eg N S A T F n e w) (hq : q < n) (ht : aw t) :
    Calls Tryz.prog 213 #[aa A.K, .int .i64 q, .int .i64 t] w fun o w' => o = .returned (.tuple #[]) ∧ Eg N S A T F n (tell e q t) w' ∧ Fr (fun k => ¬ S k) w w' := by
 obtain ⟨tv, h⟩ := h
 have CH := hide (da h hq ht)
 have HE := hide h
 cases hh : has e q t with
 | true =>
  rw [hh] at CH
  have HR : Hid (tell e q t = e) := hide (by unfold tell; rw [hh]; rfl)
  clear h hh
  go_enter Tryz.func213, Tryz.ntmps213
  go_wp2_with (go_at_call 214; refine CH.out.mono ?_; rintro _ w2 ⟨rfl, hb⟩; have HB := hide hb; clear hb)
  refine bodyPost_ret (results_none rfl _ _ _) rfl ?_
  exact ⟨rfl, by rw [HR.out]; exact ⟨tv, HE.out.go HB.out⟩, Fr.of_below HB.out⟩
 | false =>
  rw [hh] at CH
  have At := hide hh
  have HR : Hid (tell e q t = { e with mq := aB e.mq q (dt (e.mq q) t), td := e.td ++ [((q : Int), t)], up := aF (aF e.up) }) := hide (by unfold tell; rw [hh]; rfl)
  clear h hh
  have AG : Tryz.prog.follows .mixedOrders = true := by kernel_rfl
  go_enter Tryz.func213, Tryz.ntmps213
  go_upto_region 1 with (go_at_call 214; refine CH.out.mono ?_; rintro _ w2 ⟨rfl, hb⟩; have HB := hide hb; clear hb)
  have Aj := hide (HE.out.go HB.out)
  clear CH HE
  have k8 := Aj.out.bx.get (i := 18) rfl
  have cm := Aj.out.mq.get (jq hq)
  have CB := hide fun d : Nat => qy (w := w2.drewN d) ht
  obtain ⟨x, hx⟩ : ∃ x, e.mq (q : Int) = x := ⟨_, rfl⟩
  obtain ⟨y, hy⟩ : ∃ y, bitM t = y := ⟨_, rfl⟩
  obtain ⟨v, hv⟩ : ∃ v, bits .or .u8 x y = v := ⟨_, rfl⟩
  have HV : Hid (dt (e.mq (q : Int)) t = v) := hide (by unfold dt; rw [hx, hy]; exact hv)
  rw [hx] at cm
  rw [hy] at CB
  clear hx hy
  refine aL (by assumption) (by kernel_rfl) (by kernel_rfl) (by kernel_rfl) (by kernel_rfl) ?_
  dsimp only [List.dropLast, List.getLast, List.cons_append, List.nil_append]
  repeat (go_big_quiet_step ((go_at_call 232; exact Calls.quiet_of_same (CB.out _))))
  refine wpQuiet_nil ?_
  rintro _ ⟨nq, rfl⟩
  have hE := Aj.out.drewN nq
  have h1 : Fx A.mq 67 (eR n (aB e.mq q v)) ((w2.drewN nq).setCell ⟨A.mq, q, none⟩ (.int .u8 v)) := by
   have := hE.mq.set q (.int .u8 v)
   rw [mD hq] at this
   exact this
  have h2 := hE.bx.keep (other_set (i := q) (v := .int .u8 v) (an hE.bx hE.mq (by decide)))
  have CS := hide (vN (K := A.K) (v := v) (hE.mq.get (jq hq)) (hE.mq.frz q) (h2.get (i := 21) rfl) (h2.frz 21))
  have h3 := h2.set 21 (.int .i64 (aF e.up))
  have Ae : Hid ((((w2.drewN nq).setCell ⟨A.mq, q, none⟩ (.int .u8 v)).setCell ⟨A.K, 21, none⟩ (.int .i64 (aF e.up))).ownsRow 0 85 2 tv e.td.length (prs e.td)) := hide (owns_keep hE.td fun g hg => by rw [other_set (show g ≠ A.K from fun x => cZ hE.td hE.bx (by decide) (x ▸ hg)), other_set (show g ≠ A.mq from fun x => cZ hE.td hE.mq (by decide) (x ▸ hg))])
  have Ak := hide hE
  clear k8 cm h1 h2 hE CB hv
  go_upto_region 2 with (go_at_call 231; refine CS.out.mono ?_; rintro _ w3 ⟨rfl, rfl⟩)
  clear CS
  have Aw : Hid (∀ k, k < w2.heap.size → (((w2.drewN nq).setCell ⟨A.mq, q, none⟩ (.int .u8 v)).setCell ⟨A.K, 21, none⟩ (.int .i64 (aF e.up))).heap[k]? = (((w2.drewN nq).setCell ⟨A.mq, q, none⟩ (.int .u8 (dt (e.mq q) t))).setCell ⟨A.K, 21, none⟩ (.int .i64 (aF e.up))).heap[k]?) := hide fun k _ => by rw [HV.out]
  have Ay : Hid ((((w2.drewN nq).setCell ⟨A.mq, q, none⟩ (.int .u8 v)).setCell ⟨A.K, 21, none⟩ (.int .i64 (aF e.up))).heap.size = w2.heap.size ∧ (((w2.drewN nq).setCell ⟨A.mq, q, none⟩ (.int .u8 v)).setCell ⟨A.K, 21, none⟩ (.int .i64 (aF e.up))).os = w2.os ∧ (((w2.drewN nq).setCell ⟨A.mq, q, none⟩ (.int .u8 v)).setCell ⟨A.K, 21, none⟩ (.int .i64 (aF e.up))).tape = w2.tape ∧ (((w2.drewN nq).setCell ⟨A.mq, q, none⟩ (.int .u8 v)).setCell ⟨A.K, 21, none⟩ (.int .i64 (aF e.up))).output = w2.output) := hide ⟨by simp, rfl, rfl, rfl⟩
  have Aa := hide h3
  clear h3
  generalize ((w2.drewN nq).setCell ⟨A.mq, q, none⟩ (.int .u8 v)).setCell ⟨A.K, 21, none⟩ (.int .i64 (aF e.up)) = w3 at *
  obtain ⟨ta, tc, AD⟩ := bf Ae.out
  subst AD
  obtain ⟨m, hm⟩ : ∃ m, e.td.length = m := ⟨_, rfl⟩
  have HM := hide hm
  have AE : w3.cell? ⟨A.K, 19, none⟩ = some (.slice ta m tc) := by rw [← hm]; exact Aa.out.get (i := 19) rfl
  have Ap : (w3.alloc (.cells #[.int .i64 q, .int .i64 t] 85)).cell? ⟨A.K, 19, none⟩ = some (.slice ta m tc) := by rw [← hm]; exact (Aa.out.keep ((ae w3 _).block _ Aa.out.lt)).get (i := 19) rfl
  have AI : m ≤ 16384 := by have := Ak.out.tok.len; have := Ak.out.pf.n4; omega
  obtain ⟨iP, Ar, AB, Az, Av⟩ := info_parts zg
  have Au : Hid ((w3.alloc (.cells #[.int .i64 q, .int .i64 t] 85)).drew.ownsRow 0 85 2 (.slice ta m tc) m (prs e.td)) := hide (by
   have := owns_keep Ae.out fun g hg => ((ae w3 (.cells #[.int .i64 q, .int .i64 t] 85)).drew).block g (ax Ae.out hg)
   rw [hm] at this
   exact this)
  have AF : Hid (∀ j u, [Value.int .i64 q, .int .i64 t][j]? = some u → (w3.alloc (.cells #[.int .i64 q, .int .i64 t] 85)).drew.cell? ((⟨w3.heap.size, 0, none⟩ : Addr).add j) = some u) := hide (World.news_of_block (cs := [Value.int .i64 q, .int .i64 t].toArray) (t := 85) (fr := (0, 0)) (heap_alloc_new w3 (.cells #[.int .i64 q, .int .i64 t] 85)))
  have An : Hid ((w3.alloc (.cells #[.int .i64 q, .int .i64 t] 85)).drew.heap.size = w3.heap.size + 1) := hide (by show (w3.alloc (.cells #[.int .i64 q, .int .i64 t] 85)).heap.size = _; simp)
  have Aq : Hid (Value.ownBlock (.slice ta m tc) ≠ some A.K) := hide (by rw [← hm]; exact cZ Ae.out Aa.out (by decide))
  clear hm
  go_region_law (first | (refine step_append_lies _ (by rfl) _ _ _ (by rfl) 0 85 iP _ 2 16 Tryz.underlying42 Ar AB Az Av rfl (by decide) (.slice ta m tc) m (prs e.td) (by rfl) Au.out ⟨w3.heap.size, 0, none⟩ 1 1 [.int .i64 q, .int .i64 t] (by rfl) rfl AF.out (by simp [Value.oneCell']) (by decide) (by unfold maxLen; omega) (by omega) (Nat.zero_le _) (w3.heap.size + 1) An.out ?_; intro gg cap w5 Ag Ab Ao Ai; have Ac := hide Ab; have Ax := hide Ag; have AA := hide Ao; have AH := hide Ai; have Af := hide (Aa.out.keep (aA Ab Aa.out.lt Aq.out)); have Am := hide (Af.out.set 19 (.slice (some ⟨gg, 0, none⟩) (m + 1) cap)); have CS := hide (wg (K := A.K) (a := some ⟨gg, 0, none⟩) (m := m + 1) (c := cap) (Af.out.get (i := 19) rfl) (Af.out.frz 19) (Am.out.get (i := 21) rfl) (Am.out.frz 21)); clear Ag Ab Ao Ai) | (go_simp; go_wp2_with (go_at_call 233; refine CS.out.mono ?_; rintro _ w6 ⟨rfl, rfl⟩)))
  all_goals
   have hm := HM.out
   subst hm
   have Ad := Ay.out
   have AC := Ac.out.size
   have As := An.out
   have Ah := Ak.out.setMk hq ht At.out (w1 := w5) (u1 := aF e.up) (g := gg) (c := cap) (by rw [mH]; exact Ax.out)
    (fun k hk hn => (aA Ac.out (by rw [Ad.1]; exact hk) hn).trans (Aw.out k hk)) (by show w2.heap.size ≤ _; omega)
    (by rcases AA.out with h | h; exact .inl h; exact .inr (by show w2.heap.size ≤ gg; omega)) ⟨Ac.out.os.trans Ad.2.1, Ac.out.tape.trans Ad.2.2.1, Ac.out.output.trans Ad.2.2.2⟩ (aF (aF e.up))
   have Al := hide Ah
   clear Ah Ad AC As AE Ap
   go_end0
   exact ⟨rfl, by rw [HR.out]; exact ⟨_, Al.out.1⟩, (Fr.of_below HB.out).trans ((Fr.of_below (ah w2 nq)).trans Al.out.2)⟩
theorem fC {q : Nat} (h : Eg N S A T F n e w) (hq : q < n) :
    Calls Tryz.prog 218 #[aa A.K, .int .i64 q] w fun o w' => o = .returned (.tuple #[]) ∧ Eg N S A T F n (bJ e q) w' ∧ Fr (fun k => ¬ S k) w w' := by
 have HE := hide h
 obtain ⟨tv, h⟩ := h
 have CH := hide (da h hq tag2)
 cases hh : has e q 2 with
 | true =>
  rw [hh] at CH
  have HR : Hid (bJ e q = tell e q 4) := hide (by unfold bJ; rw [hh]; rfl)
  clear h hh
  go_enter Tryz.func218, Tryz.ntmps218
  go_wp2_with (first | (go_at_call 214; refine CH.out.mono ?_; rintro _ w2 ⟨rfl, hb⟩; have HB := hide hb; have CT := hide (dp (HE.out.go hb) hq tag4); clear hb) | (go_at_call 213; refine CT.out.mono ?_; rintro _ w3 ⟨rfl, he, hf⟩; have Aa := hide he; have Ab := hide hf; clear he hf))
  go_end0
  exact ⟨rfl, by rw [HR.out]; exact Aa.out, (Fr.of_below HB.out).trans Ab.out⟩
 | false =>
  rw [hh] at CH
  have HR : Hid (bJ e q = e) := hide (by unfold bJ; rw [hh]; rfl)
  clear h hh
  go_enter Tryz.func218, Tryz.ntmps218
  go_wp2_with (go_at_call 214; refine CH.out.mono ?_; rintro _ w2 ⟨rfl, hb⟩; have HB := hide hb; clear hb)
  go_end0
  exact ⟨rfl, by rw [HR.out]; exact HE.out.go HB.out, Fr.of_below HB.out⟩
end
set_option maxRecDepth 100000
set_option maxHeartbeats 6400000
theorem pQ {w : World} {a : Option Addr} {l : List Int} {c : Nat} (h : At1 w a (aq l)) (hl : l.length ≤ 140737488351232) (hp : l.Pairwise (· < ·)) (t : Int) {k0 : Nat} (hk0 : l[k0]? = some t) :
    Calls Tryz.prog 140 #[.slice a l.length c, .int .i64 t] w fun e w' => e = .returned (.tuple #[.int .i64 k0, .bool true]) ∧ w' = w := by
 have HA := hide h
 have HP := hide hp
 have Aa := hide hk0
 clear h hp hk0
 go_enter Tryz.func140, Tryz.ntmps140
 go_wp2_with fail
 go_loop [7, 8] (fun x y => ∃ (i j : Nat), x = .int .i64 i ∧ y = .int .i64 j ∧ i ≤ j ∧ j ≤ l.length ∧ Hid (Bs l t i j)) (fun x y => (intOf y).toNat - (intOf x).toNat)
 case atStart => exact ⟨0, l.length, rfl, rfl, by omega, by omega, hide ⟨by omega, by omega, fun m x hm => by omega, fun m x hm hx => by rw [List.getElem?_eq_none (by omega)] at hx; cases hx⟩⟩
 case round =>
  obtain ⟨i, j, rfl, rfl, Ac, Ad, HB⟩ := hrel
  by_cases hlt : i < j
  · obtain ⟨x, hx⟩ := am (l := l) (i := (i + j) / 2) (by omega)
    obtain ⟨g, of, rfl, kc⟩ := HA.out.get hx
    have HX := hide hx
    have CL := hide (qF x t w)
    clear hx
    by_cases hxt : x < t
    · have HN : Hid (Bs l t ((i + j) / 2 + 1) j) := hide ⟨by omega, HB.out.n, fun m y hm hy => by
       by_cases e : m = (i + j) / 2
       · subst e; rw [HX.out] at hy; cases hy; exact hxt
       · have := lF HP.out hy HX.out (by omega); omega, HB.out.hi⟩
      clear HX HB
      go_wp2_with (go_at_call 166; refine CL.out.mono ?_; rintro _ w1 ⟨rfl, hw⟩; subst w1)
      go_round
      case rel => exact ⟨(i + j) / 2 + 1, j, by go_num, rfl, by omega, by omega, HN⟩
      case measure => simp [intOf]; omega
    · have HN : Hid (Bs l t i ((i + j) / 2)) := hide ⟨by omega, by omega, HB.out.lo, fun m y hm hy => by
       by_cases e : m = (i + j) / 2
       · subst e; rw [HX.out] at hy; cases hy; omega
       · have := lF HP.out HX.out hy (by omega); omega⟩
      clear HX HB
      go_wp2_with (go_at_call 166; refine CL.out.mono ?_; rintro _ w1 ⟨rfl, hw⟩; subst w1)
      go_round
      case rel => exact ⟨i, (i + j) / 2, rfl, by go_num, by omega, by omega, HN⟩
      case measure => simp [intOf]; omega
  · have e : i = j := by omega
    subst e
    have HN : Hid (∀ (m : Nat) x, l[m]? = some x → x = t → m = i) := hide fun m x hm hx => by
     subst hx
     have h1 : ¬ m < i := fun h => by have := HB.out.lo m x h hm; omega
     by_cases h2 : m = i
     · exact h2
     · obtain ⟨y, hy⟩ := am (l := l) (i := i) (by have := (List.getElem?_eq_some_iff.1 hm).1; omega)
       have h3 := HB.out.hi i y (Nat.le_refl _) hy
       have h4 := lF HP.out hy hm (by omega)
       omega
    clear HB HP
    have ek : k0 = i := HN.out k0 t Aa.out rfl
    subst ek
    have Ab : k0 < l.length := (List.getElem?_eq_some_iff.1 Aa.out).1
    obtain ⟨g, of, rfl, kc⟩ := HA.out.get Aa.out
    clear HN hlt
    go_wp2_with fail
    go_ret2
    exact ⟨rfl, rfl⟩
def Tm (w : World) (p : Int → Bool) (D : Int → Prop) (v : Value) : Prop :=
 ∃ (k : Nat) (pre caps : Array Value), v = .func (.func k) pre caps ∧ (∀ args w', (callFunc k args).run Tryz.prog w' = .ok (.enter k args) w') ∧
  ∀ (x : Int) (w' : World), D x → Below w.heap.size w w' → Calls Tryz.prog k (pre ++ #[.int .i64 x] ++ caps) w' fun e w2 => e = .returned (.bool (p x)) ∧ Below w'.heap.size w' w2
section
variable {w : World} {p : Int → Bool} {D : Int → Prop} {v : Value} {l : List Int} {a : Option Addr} {c : Nat}
theorem wk (h : Tm w p D v) (hl : At1 w a (aq l)) (hlim : l.length ≤ 140737488351232) (hin : ∀ x ∈ l, D x) :
    Calls Tryz.prog 240 #[.slice a l.length c, v] w fun e w' => ∃ i : Int, e = .returned (.int .i64 i) ∧ zR (l.any p) i ∧ Below w.heap.size w w' := by
 obtain ⟨fn, Ae, Ad, rfl, hf, hc⟩ := h
 have HC := hide hc
 have HL := hide hl
 have Ac := hide hin
 obtain ⟨o, ho⟩ : ∃ o, l.any p = o := ⟨_, rfl⟩
 rw [ho]
 have HO : Hid ((l.drop 0).any p = o) := hide (by rw [List.drop_zero]; exact ho)
 clear hl hin ho hc
 go_enter Tryz.func240, Tryz.ntmps240
 go_wp2_with fail
 go_loopw [8] (fun x wr => ∃ k : Nat, k ≤ l.length ∧ x = .int .i64 k ∧ Hid ((l.drop k).any p = o) ∧ Hid (Below w.heap.size w wr)) (fun x _ => l.length - (intOf x).toNat)
 case atStart => exact ⟨0, by omega, rfl, HO, hide (Below.refl _ _)⟩
 case round =>
  clear HO
  obtain ⟨k, hk, rfl, HO, HB⟩ := hrel
  by_cases hlt : k < l.length
  · obtain ⟨x, hx⟩ := am hlt
    obtain ⟨g, gg, rfl, cx⟩ := (HL.out.below HB.out).get hx
    have C := hide (HC.out x wr (Ac.out x (List.mem_of_getElem? hx)) HB.out)
    cases hb : p x with
    | true =>
     have HE : Hid (o = true) := hide (by rw [← HO.out]; exact lH hx hb)
     rw [hb] at C
     clear hb hx HO
     go_wp2_with fail
     refine C.out.mono ?_
     rintro _ w2 ⟨rfl, Aa⟩
     have Ab := hide (HB.out.trans (Aa.mono HB.out.size))
     clear Aa
     go_wp2_with fail
     go_ret
     exact ⟨k, rfl, ⟨fun _ => by omega, fun e => by rw [HE.out] at e; cases e⟩, Ab.out⟩
    | false =>
     have HE : Hid ((l.drop (k + 1)).any p = o) := hide (by rw [← HO.out]; exact (kV hx hb).symm)
     rw [hb] at C
     clear hb hx HO
     go_wp2_with fail
     refine C.out.mono ?_
     rintro _ w2 ⟨rfl, Aa⟩
     have Ab := hide (HB.out.trans (Aa.mono HB.out.size))
     clear Aa
     go_wp2_with fail
     go_roundw
     case rel => exact ⟨k + 1, by omega, by go_num, HE, Ab⟩
     case measure => simp [intOf]; omega
  · have HE : Hid (o = false) := hide (by rw [← HO.out, bW (by omega)]; rfl)
    go_wp2_with fail
    go_ret
    exact ⟨-1, rfl, ⟨fun e => absurd e (by rw [HE.out]; decide), fun _ => rfl⟩, HB.out⟩
theorem jj (h : Tm w p D v) (hl : At1 w a (aq l)) (hlim : l.length ≤ 140737488351232) (hin : ∀ x ∈ l, D x) :
    Calls Tryz.prog 226 #[.slice a l.length c, v] w fun e w' => e = .returned (.bool (l.any p)) ∧ Below w.heap.size w w' := by
 have CI := hide (wk (c := c) h hl hlim hin)
 obtain ⟨fn, Ac, Ab, rfl, hf, hc⟩ := h
 obtain ⟨o, ho⟩ : ∃ o, l.any p = o := ⟨_, rfl⟩
 rw [ho] at CI ⊢
 clear hl hin ho hc
 go_enter Tryz.func226, Tryz.ntmps226
 cases o with
 | true =>
  go_wp2_with (go_at_call 240; refine CI.out.mono ?_; rintro _ w2 ⟨i, rfl, hi, hb⟩; have HB := hide hb; have Aa : 0 ≤ i := hi.1 rfl; have Ad : decide (0 ≤ i) = true := decide_eq_true Aa; clear hb hi)
  go_ret
  exact ⟨bB (by simp), HB.out⟩
 | false =>
  go_wp2_with (go_at_call 240; refine CI.out.mono ?_; rintro _ w2 ⟨i, rfl, hi, hb⟩; have HB := hide hb; have Aa : i = -1 := hi.2 rfl; subst Aa; clear hb hi)
  go_ret
  exact ⟨rfl, HB.out⟩
end
section
variable {T : Th} {F : List Int} {n : Nat}
theorem gG (h : Pf T F n) {q : Nat} (hq : q < n) : (row T.foes q).Pairwise (· < ·) ∧ (row T.foes q).length ≤ 64 := by
 obtain ⟨l, hl⟩ := am (l := T.foes) (i := q) (by have := h.ok.fl; have := h.ln; omega)
 have := h.ok.foe q l hl
 rw [bn (by rw [Int.toNat_natCast]; exact hl)]
 exact ⟨(bT (by omega) this.2.1).2, this.1⟩
theorem jL (h : Pf T F n) {q : Nat} (hq : q < n) : (ao T q).Pairwise (· < ·) := (gG h hq).1.filter _
theorem eK {l : List Int} (h : l.Pairwise (· < ·)) : l.Nodup := h.imp fun h => by omega
theorem mw (h : Pf T F n) {q : Nat} (hq : q < n) {p : Int} (hp : p ∈ ao T q) : 0 ≤ p ∧ p < (n : Int) := h.foe q hq p (List.mem_filter.1 hp).1
theorem cV (h : Pf T F n) {q : Nat} (hq : q < n) : (ao T q).length ≤ 64 := Nat.le_trans (List.length_filter_le _ _) (gG h hq).2
theorem fg (h : Pf T F n) {r : Nat} (hr : r < T.rules.length) : ∃ x, T.rules[r]? = some x ∧ aj T r = x.head ∧ 0 ≤ x.head ∧ x.head < (n : Int) := by
 obtain ⟨x, hx⟩ := am hr
 have := h.head x (List.mem_of_getElem? hx)
 refine ⟨x, hx, ?_, this.1, this.2⟩
 unfold aj
 rw [Int.toNat_natCast, hx]
 rfl
end
section
variable {N : Nat} {S : Nat → Prop} {A : Ad} {T : Th} {F : List Int} {n : Nat} {e : Es} {tv : Value} {w w' : World}
theorem jf {s k : Nat} {p : Int} (h : En N S A T F n e tv w) (hs : s < T.rules.length) (hp : (ao T (aj T s))[k]? = some p) :
    Calls Tryz.prog 209 #[aa A.K, .int .i64 p, .int .i64 s] w fun o w' => o = .returned (.int .i64 k) ∧ ∃ m, w' = w.drewN m := by
 have k2 := h.bx.get (i := 2) rfl
 have k6 := h.bx.get (i := 6) rfl
 obtain ⟨x, hx, Ad, Ac, Af⟩ := fg h.pf hs
 obtain ⟨gr, go, bd, bp, er, -, -, x1, -, -, -, -⟩ := dI h.ro.ta.rules hx
 rw [er] at k2
 obtain ⟨hm, Aa⟩ := Int.eq_ofNat_of_zero_le Ac
 have Ab : hm < n := by omega
 rw [Ad, Aa] at hp
 rw [Aa] at x1
 obtain ⟨la, lc, cl, hA⟩ := h.ro.lv.at Ab
 have CF := hide fun d : Nat => pQ (w := w.drewN d) (c := lc) (show At1 (w.drewN d) la _ from hA) (by have := cV h.pf Ab; omega) (jL h.pf Ab) p hp
 have Ag : T.rules.length ≤ 4096 := h.pf.ok.rl
 clear h hx Ad Aa hA er Ac Af hp
 obtain ⟨ln, Ae⟩ : ∃ ln, (ao T (hm : Int)).length = ln := ⟨_, rfl⟩
 rw [Ae] at cl CF
 clear Ae
 go_enter Tryz.func209, Tryz.ntmps209
 go_upto_region 1 with fail
 go_quiet ((go_at_call 140; exact Calls.quiet_of_same (CF.out _)))
 go_wp2_with fail
 go_ret
 exact ⟨rfl, _, rfl⟩
end
set_option maxRecDepth 100000
set_option maxHeartbeats 6400000
theorem enters_go {P : Program} {f : FuncId} {fn : Func} (hf : P.funcs[f]? = some fn) (hn : (fn.name == "runtime.NumGoroutine") = false) (hb : fn.body.isNone = false) : ∀ args w, (callFunc f args).run P w = .ok (.enter f args) w := by
 intro args w
 have h1 : ¬ fn.name = "runtime.NumGoroutine" := by simpa using hn
 have h2 : ¬ fn.body = none := by
  intro e
  rw [e] at hb
  cases hb
 simp [callFunc, hf, h1, h2]
def aV (T : Th) (r : Int) : Prop := 0 ≤ r ∧ r < (T.rules.length : Int)
def cS (n : Nat) (x : Int) : Prop := 0 ≤ x ∧ x < (n : Int)
theorem mA {T : Th} {p : RuleM → Bool} {z x : Int} (h : x ∈ ag T p z) : aV T x := bL h
theorem i7 {T : Th} {p : RuleM → Bool} {z : Int} : (ag T p z).length ≤ T.rules.length := bh
section
variable {N : Nat} {S : Nat → Prop} {A : Ad} {T : Th} {F : List Int} {n : Nat} {e : Es} {tv : Value} {w w' : World}
theorem xQ (h : En N S A T F n e tv w) : Tm w (used e) (aV T) (.func (.func 234) #[aa A.K] #[]) :=
 ⟨_, _, _, rfl, enters_go Tryz.func234 (by kernel_rfl) (by kernel_rfl), fun x w' hx hw => by
  obtain ⟨r, rfl⟩ := Int.eq_ofNat_of_zero_le hx.1
  exact (mj (h.go hw) (by have := hx.2; omega)).mono fun o w2 ⟨h1, h2⟩ => ⟨h1, by rw [h2]; exact Below.refl _ _⟩⟩
theorem iR {q : Nat} (h : Eg N S A T F n e w) (hq : q < n) :
    Calls Tryz.prog 215 #[aa A.K, .int .i64 q] w fun o w' => o = .returned (.tuple #[]) ∧ Eg N S A T F n (dm T e q) w' ∧ Fr (fun k => ¬ S k) w w' := by
 have HE := hide h
 obtain ⟨tv, h⟩ := h
 have Af := h.bx.get (i := 17) rfl
 have k5 := h.bx.get (i := 5) rfl
 have co := h.ob.get (aX hq)
 obtain ⟨la, lc, cl, hA⟩ := h.ro.lt.at hq
 have Ae : T.rules.length ≤ 4096 := h.pf.ok.rl
 have CC := hide (jj (c := lc) (xQ h) hA (by have := i7 (T := T) (p := kT) (z := (q : Int)); omega) fun x hx => mA hx)
 obtain ⟨b, hb⟩ : ∃ b, (ag T kT (q : Int)).any (used e) = b := ⟨_, rfl⟩
 rw [hb] at CC
 obtain ⟨ln, Aa⟩ : ∃ ln, (ag T kT (q : Int)).length = ln := ⟨_, rfl⟩
 rw [Aa] at cl CC
 have HP : Hid (dm T e q = if decide (e.ob q = 0) && b then tell e q 3 else e) := hide (by unfold dm; rw [hb])
 generalize e.ob q = x at co HP
 clear h hA hb Aa
 by_cases hx : x = 0
 · have Ad : (x == 0) = true := by simpa using hx
   cases b with
   | true =>
    have HR : Hid (dm T e q = tell e q 3) := hide (by rw [HP.out, decide_eq_true hx]; rfl)
    clear hx HP
    go_enter Tryz.func215, Tryz.ntmps215
    go_wp2_with (first | (go_at_call 226; refine CC.out.mono ?_; rintro _ w2 ⟨rfl, hb⟩; have HB := hide hb; have CT := hide (dp (HE.out.go hb) hq tag3); clear hb) | (go_at_call 213; refine CT.out.mono ?_; rintro _ w3 ⟨rfl, he, hf⟩; have Ab := hide he; have Ac := hide hf; clear he hf))
    go_end0
    exact ⟨rfl, by rw [HR.out]; exact Ab.out, (Fr.of_below HB.out).trans Ac.out⟩
   | false =>
    have HR : Hid (dm T e q = e) := hide (by rw [HP.out, decide_eq_true hx]; rfl)
    clear hx HP
    go_enter Tryz.func215, Tryz.ntmps215
    go_wp2_with (go_at_call 226; refine CC.out.mono ?_; rintro _ w2 ⟨rfl, hb⟩; have HB := hide hb; clear hb)
    go_end0
    exact ⟨rfl, by rw [HR.out]; exact HE.out.go HB.out, Fr.of_below HB.out⟩
 · have Ad : (x == 0) = false := by simpa using hx
   have HR : Hid (dm T e q = e) := hide (by rw [HP.out, decide_eq_false hx]; rfl)
   clear hx HP
   go_enter Tryz.func215, Tryz.ntmps215
   go_wp2_with fail
   go_end0
   exact ⟨rfl, by rw [HR.out]; exact HE.out, Fr.refl _ _⟩
abbrev Bk (b K : Nat) (w : World) : Prop := Fx b 182 [aa K] w
theorem uA {r : Nat} {b : Nat} (h : En N S A T F n e tv w) (hb : Bk b A.K w) (hr : r < T.rules.length) :
    Calls Tryz.prog 242 #[.int .i64 r, aa b] w fun o w' => o = .returned (.bool (!dropped e r)) ∧ w' = w := by
 have C := hide (je h hr)
 have c1 := hb.get (i := 0) rfl
 generalize dropped e r = o at *
 clear h hb
 go_enter Tryz.func242, Tryz.ntmps242
 go_wp2_with (go_at_call 211; refine C.out.mono ?_; rintro _ w2 ⟨rfl, rfl⟩)
 go_ret
 exact ⟨rfl, rfl⟩
theorem tC {q : Nat} {b : Nat} (h : En N S A T F n e tv w) (hb : Bk b A.K w) (hq : q < n) :
    Calls Tryz.prog 243 #[.int .i64 q, aa b] w fun o w' => o = .returned (.bool (has e q 1)) ∧ Below w.heap.size w w' := by
 have C := hide (da h hq tag1)
 have c1 := hb.get (i := 0) rfl
 generalize has e q 1 = o at *
 clear h hb
 go_enter Tryz.func243, Tryz.ntmps243
 go_wp2_with (go_at_call 214; refine C.out.mono ?_; rintro _ w2 ⟨rfl, Aa⟩; have HB := hide Aa; clear Aa)
 go_ret
 exact ⟨rfl, HB.out⟩
theorem yo {b : Nat} (h : En N S A T F n e tv w) (hb : Bk b A.K w) : Tm w (fun r => !dropped e r) (aV T) (.func (.func 242) #[] #[aa b]) :=
 ⟨_, _, _, rfl, enters_go Tryz.func242 (by kernel_rfl) (by kernel_rfl), fun x w' hx hw => by
  obtain ⟨r, rfl⟩ := Int.eq_ofNat_of_zero_le hx.1
  exact (uA (h.go hw) (hb.keep (hw.block _ hb.lt)) (by have := hx.2; omega)).mono fun o w2 ⟨h1, h2⟩ => ⟨h1, by rw [h2]; exact Below.refl _ _⟩⟩
theorem ye {b : Nat} (h : En N S A T F n e tv w) (hb : Bk b A.K w) : Tm w (fun f => has e f 1) (cS n) (.func (.func 243) #[] #[aa b]) :=
 ⟨_, _, _, rfl, enters_go Tryz.func243 (by kernel_rfl) (by kernel_rfl), fun x w' hx hw => by
  obtain ⟨r, rfl⟩ := Int.eq_ofNat_of_zero_le hx.1
  exact tC (h.go hw) (hb.keep (hw.block _ hb.lt)) (by have := hx.2; omega)⟩
theorem vX {q : Nat} (h : En N S A T F n e tv w) (hq : q < n) :
    Calls Tryz.prog 235 #[aa A.K, .int .i64 q] w fun o w' => o = .returned (.bool (lE T e q)) ∧ Below w.heap.size w w' := by
 have hB := ae w (.cells #[aa A.K] 182)
 have hF : Bk w.heap.size A.K (w.alloc (.cells #[aa A.K] 182)) := heap_alloc_new w _
 have hE := h.go hB
 have HB := hide hB
 have Ac : T.rules.length ≤ 4096 := h.pf.ok.rl
 clear h hB
 go_enter Tryz.func235, Tryz.ntmps235
 go_upto_region 1 with fail
 generalize w.alloc (.cells #[aa A.K] 182) = W at *
 have k5 := hE.bx.get (i := 5) rfl
 have c1 := hF.get (i := 0) rfl
 obtain ⟨la, lc, cl, hA⟩ := hE.ro.lt.at hq
 have CC := hide (jj (c := lc) (yo hE hF) hA (by have := i7 (T := T) (p := kT) (z := (q : Int)); omega) fun x hx => mA hx)
 obtain ⟨b, hb⟩ : ∃ b, (ag T kT (q : Int)).any (fun r => !dropped e r) = b := ⟨_, rfl⟩
 have HR : Hid (lE T e q = !b) := hide (by unfold lE; rw [hb])
 rw [hb] at CC
 obtain ⟨ln, Aa⟩ : ∃ ln, (ag T kT (q : Int)).length = ln := ⟨_, rfl⟩
 rw [Aa] at cl CC
 clear hE hA hb Aa hF
 go_wp2_with (go_at_call 226; refine CC.out.mono ?_; rintro _ w2 ⟨rfl, hb⟩; have Ab := hide hb; clear hb)
 go_ret
 exact ⟨by rw [HR.out]; rfl, HB.out.trans (Ab.out.mono HB.out.size)⟩
theorem rF (h : En N S A T F n e tv w) {q : Nat} (hq : q < n) : ∃ l a c, row T.foes q = l ∧ T.foes[q]? = some l ∧ At1 w a (aq l) ∧ l.length ≤ 64 ∧ (∀ x ∈ l, cS n x) ∧ q < T.foes.length ∧ ∃ g o, A.fa = some ⟨g, o, none⟩ ∧ w.cell? ⟨g, o + q, none⟩ = some (.slice a l.length c) := by
 obtain ⟨l, hl⟩ := am (l := T.foes) (i := q) (by have := h.pf.ok.fl; have := h.pf.ln; omega)
 have er : row T.foes (q : Int) = l := bn (by rw [Int.toNat_natCast]; exact hl)
 obtain ⟨g, o, a2, c2, e1, -, hc, -, -, hI⟩ := bH h.ro.ta.foes hl
 exact ⟨l, a2, c2, er, hl, hI.at1, by rw [← er]; exact (gG h.pf hq).2, fun x hx => h.pf.foe q hq x (by rw [er]; exact hx), (List.getElem?_eq_some_iff.1 hl).1, g, o, e1, hc⟩
theorem mS {q : Nat} (h : En N S A T F n e tv w) (hq : q < n) :
    Calls Tryz.prog 236 #[aa A.K, .int .i64 q] w fun o w' => o = .returned (.bool (nJ T e q)) ∧ Below w.heap.size w w' := by
 have hB := ae w (.cells #[aa A.K] 182)
 have hF : Bk w.heap.size A.K (w.alloc (.cells #[aa A.K] 182)) := heap_alloc_new w _
 have hE := h.go hB
 have HB := hide hB
 clear h hB
 go_enter Tryz.func236, Tryz.ntmps236
 go_upto_region 1 with fail
 generalize w.alloc (.cells #[aa A.K] 182) = W at *
 have k1 := hE.bx.get (i := 1) rfl
 have c1 := hF.get (i := 0) rfl
 obtain ⟨l, la, lc, er, -, hA, Ad, Aa, Ae, g, o, e1, cl⟩ := rF hE hq
 rw [e1] at k1
 have CC := hide (jj (c := lc) (ye hE hF) hA (by omega) Aa)
 obtain ⟨b, hb⟩ : ∃ b, l.any (fun f => has e f 1) = b := ⟨_, rfl⟩
 have HR : Hid (nJ T e q = b) := hide (by unfold nJ; rw [er]; exact hb)
 rw [hb] at CC
 obtain ⟨ln, Ab⟩ : ∃ ln, l.length = ln := ⟨_, rfl⟩
 rw [Ab] at cl CC
 clear hE hA hb Ab hF e1 er Aa Ad
 go_wp2_with (go_at_call 226; refine CC.out.mono ?_; rintro _ w2 ⟨rfl, hb⟩; have Ac := hide hb; clear hb)
 go_ret
 exact ⟨by rw [HR.out]; rfl, HB.out.trans (Ac.out.mono HB.out.size)⟩
end
set_option maxRecDepth 100000
set_option maxHeartbeats 6400000
section
variable {N : Nat} {S : Nat → Prop} {A : Ad} {T : Th} {F : List Int} {n : Nat} {e : Es} {tv : Value} {w w' : World}
theorem ig (h : Pf T F n) {q f : Int} (h0 : 0 ≤ q) (h1 : q < (n : Int)) (hf : f ∈ row T.foes q) : q ∈ row T.foes f := by
 obtain ⟨a, rfl⟩ := Int.eq_ofNat_of_zero_le h0
 obtain ⟨l, hl⟩ := am (l := T.foes) (i := a) (by have := h.ok.fl; have := h.ln; omega)
 rw [bn (by rw [Int.toNat_natCast]; exact hl)] at hf
 exact (h.ok.foe a l hl).2.2.2 f hf
theorem te {p : RuleM → Bool} {z : Int} {s : Nat} (h : (s : Int) ∈ ag T p z) : aj T s = z := by
 obtain ⟨a, r, e, hr, -, hh⟩ := i5.1 h
 have : s = a := by omega
 subst this
 unfold aj
 rw [Int.toNat_natCast, hr]
 exact hh
theorem iX {q p : Int} : p ∈ ao T q ↔ p ∈ row T.foes q ∧ ag T kT p ≠ [] := by
 unfold ao
 rw [List.mem_filter]
 simp
theorem mI (h : En N S A T F n e tv w) {s : Nat} (hs : s < T.rules.length) {p : Int} (hp : p ∈ ao T (aj T s)) : ∃ k : Nat, (ao T (aj T s))[k]? = some p ∧ k < (ao T (aj T s)).length ∧ (ao T (aj T s)).length ≤ 64 ∧ w.cell? ⟨A.cl, s, none⟩ = some (sl (A.cr s) (ao T (aj T s)).length) ∧ w.cell? ⟨A.cr s, k * 2, none⟩ = some (.int .i64 (e.cd s p)) ∧ w.cell? ⟨A.cr s, k * 2 + 1, none⟩ = some (.bool (e.cb s p)) := by
 obtain ⟨k, hk⟩ := List.mem_iff_getElem?.1 hp
 obtain ⟨x, -, Ac, Ab, Ad⟩ := fg h.pf hs
 obtain ⟨hm, Aa⟩ := Int.eq_ofNat_of_zero_le Ab
 refine ⟨k, hk, (List.getElem?_eq_some_iff.1 hk).1, ?_, h.ro.lx.get (by rw [List.getElem?_map, List.getElem?_range hs]; rfl), (h.cr s hs).get (fF hk).1, (h.cr s hs).get (fF hk).2⟩
 rw [Ac, Aa]
 exact cV h.pf (by omega)
theorem qs {q : Nat} (h : En N S A T F n e tv w) (hq : q < n) (ht : ag T kT (q : Int) ≠ []) :
    Calls Tryz.prog 237 #[aa A.K, .int .i64 q] w fun o w' => o = .returned (.bool (pH T e q)) ∧ Below w.heap.size w w' := by
 have k1 := h.bx.get (i := 1) rfl
 have k4 := h.bx.get (i := 4) rfl
 have Az := h.bx.get (i := 16) rfl
 have AC := h.pf.n4
 have AD : T.rules.length ≤ 4096 := h.pf.ok.rl
 obtain ⟨l, la, lc, er, -, hA, AF, Aj, Ay, g, o, e1, cl⟩ := rF h hq
 rw [e1] at k1
 obtain ⟨b, hb⟩ : ∃ b, pH T e q = b := ⟨_, rfl⟩
 rw [hb]
 have HO : Hid ((l.drop 0).any (fun f => (ag T kA f).any fun s => used e s && decide (e.cd s q = 0)) = b) := hide (by rw [List.drop_zero, ← hb, ← er]; rfl)
 have HE := hide h
 have HA := hide hA
 have At := hide Aj
 have Ar : Hid (∀ f ∈ l, (q : Int) ∈ ao T f) := hide fun f hf => iX.2 ⟨ig h.pf (q := (q : Int)) (by omega) (by omega) (by rw [er]; exact hf), ht⟩
 clear h hA hb er Aj e1
 go_enter Tryz.func237, Tryz.ntmps237
 go_wp2_with fail
 clear k1 cl
 go_loopw [19] (fun x wr => ∃ k : Nat, k ≤ l.length ∧ x = .int .i64 k ∧ Hid ((l.drop k).any (fun f => (ag T kA f).any fun s => used e s && decide (e.cd s q = 0)) = b) ∧ Hid (∃ d, wr = w.drewN d)) (fun x _ => l.length - (intOf x).toNat)
 case atStart => exact ⟨0, by omega, rfl, HO, hide ⟨0, rfl⟩⟩
 case round =>
  clear HO
  obtain ⟨k, hk, rfl, HO, HD⟩ := hrel
  by_cases hlt : k < l.length
  · obtain ⟨f, hf⟩ := am hlt
    obtain ⟨f0, f1⟩ := At.out f (List.mem_of_getElem? hf)
    obtain ⟨fm, rfl⟩ := Int.eq_ofNat_of_zero_le f0
    have Ao : fm < n := by omega
    have HEr : Hid (En N S A T F n e tv wr) := hide (by obtain ⟨d, hd⟩ := HD.out; rw [hd]; exact HE.out.drewN d)
    obtain ⟨gg, oo, rfl, cx⟩ := (show At1 wr la (aq l) from by obtain ⟨d, hd⟩ := HD.out; rw [hd]; exact HA.out).get hf
    have r4 := HEr.out.bx.get (i := 4) rfl
    obtain ⟨ra, rc, cr, hR⟩ := HEr.out.ro.lr.at Ao
    obtain ⟨rl, Ab⟩ : ∃ rl, ag T kA (fm : Int) = rl := ⟨_, rfl⟩
    rw [Ab] at cr hR
    have Ax : rl.length ≤ 4096 := by rw [← Ab]; have := i7 (T := T) (p := kA) (z := (fm : Int)); omega
    have Am : Hid (∀ s ∈ rl, ∃ sm : Nat, s = (sm : Int) ∧ sm < T.rules.length ∧ aj T sm = (fm : Int)) := hide fun s hs => by
     rw [← Ab] at hs
     obtain ⟨s0, s1⟩ := mA hs
     obtain ⟨sm, rfl⟩ := Int.eq_ofNat_of_zero_le s0
     exact ⟨sm, rfl, by omega, te hs⟩
    have Au : Hid ((q : Int) ∈ ao T (fm : Int)) := hide (Ar.out _ (List.mem_of_getElem? hf))
    obtain ⟨o2, Ae⟩ : ∃ o2, rl.any (fun s => used e s && decide (e.cd s q = 0)) = o2 := ⟨_, rfl⟩
    have Aa : Hid ((rl.drop 0).any (fun s => used e s && decide (e.cd s q = 0)) = o2) := hide (by rw [List.drop_zero]; exact Ae)
    have HY : Hid (o2 = true → b = true) := hide fun ht2 => by
     rw [← HO.out]
     exact lH hf (by show (ag T kA (fm : Int)).any _ = true; rw [Ab, Ae]; exact ht2)
    have Aq : Hid (o2 = false → (l.drop (k + 1)).any (fun f => (ag T kA f).any fun s => used e s && decide (e.cd s q = 0)) = b) := hide fun ht2 => by
     rw [← HO.out]
     exact (kV hf (by show (ag T kA (fm : Int)).any _ = false; rw [Ab, Ae]; exact ht2)).symm
    have HR := hide hR
    clear hf f0 f1 Ab Ae HO hR
    go_wp2_with fail
    clear cx r4 cr
    have Ak := hide HD.out
    clear HD HEr
    go_loopw [32] (fun x wz => ∃ j : Nat, j ≤ rl.length ∧ x = .int .i64 j ∧ Hid ((rl.drop j).any (fun s => used e s && decide (e.cd s q = 0)) = o2) ∧ Hid (∃ d, wz = w.drewN d)) (fun x _ => rl.length - (intOf x).toNat)
    case atStart => exact ⟨0, by omega, rfl, Aa, hide Ak.out⟩
    case round =>
     clear Aa
     rename World => wz
     obtain ⟨j, hj, rfl, Aa, HD⟩ := hrel
     by_cases hjl : j < rl.length
     · obtain ⟨s, hs⟩ := am hjl
       obtain ⟨sm, rfl, Af, Al⟩ := Am.out s (List.mem_of_getElem? hs)
       have Ad : En N S A T F n e tv wz := by obtain ⟨d, hd⟩ := HD.out; rw [hd]; exact HE.out.drewN d
       obtain ⟨AB, AA, rfl, cy⟩ := (show At1 wz ra (aq rl) from by obtain ⟨d, hd⟩ := HD.out; obtain ⟨d2, Ap⟩ := Ak.out; rw [hd]; rw [Ap] at HR; exact HR.out).get hs
       obtain ⟨p, hp, An, Aw, c1, c2, -⟩ := mI Ad Af (p := (q : Int)) (by rw [Al]; exact Au.out)
       have AE := Ad.bx.get (i := 16) rfl
       have CU := hide fun d : Nat => mj (Ad.drewN d) Af
       have CP := hide fun d : Nat => jf (Ad.drewN d) Af hp
       obtain ⟨Ai, Ah⟩ : ∃ Ai, (ao T (aj T (sm : Int))).length = Ai := ⟨_, rfl⟩
       rw [Ah] at c1 An Aw
       obtain ⟨u, hu⟩ : ∃ u, used e (sm : Int) = u := ⟨_, rfl⟩
       rw [hu] at CU
       obtain ⟨v, hv⟩ : ∃ v, e.cd (sm : Int) q = v := ⟨_, rfl⟩
       rw [hv] at c2
       have Ac : Hid ((used e (sm : Int) && decide (e.cd (sm : Int) q = 0)) = (u && decide (v = 0))) := hide (by rw [hu, hv])
       have HS := hide hs
       clear hs Ad hp Ah hu hv Al
       cases u with
       | false =>
        have Ag : Hid ((rl.drop (j + 1)).any (fun s => used e s && decide (e.cd s q = 0)) = o2) := hide (by rw [← Aa.out]; exact (kV HS.out (by rw [Ac.out]; rfl)).symm)
        clear Aa Ac HS
        go_upto_region 7 with fail
        go_quiet ((go_at_call 234; exact Calls.quiet_of_same (CU.out _)))
        clear CU CP
        go_wp2_with fail
        go_roundw
        case rel => exact ⟨j + 1, by omega, by go_num, Ag, hide (by obtain ⟨d, hd⟩ := HD.out; exact ⟨_, by rw [hd, World.drewN_drewN]⟩)⟩
        case measure => simp [intOf]; omega
       | true =>
        by_cases hv0 : v = 0
        · have As : (v == 0) = true := by simpa using hv0
          have HT : Hid (b = true) := hide (HY.out (by rw [← Aa.out]; exact lH HS.out (by rw [Ac.out, decide_eq_true hv0]; rfl)))
          clear Aa Ac HS hv0
          go_upto_region 7 with fail
          go_quiet (first | (go_at_call 234; exact Calls.quiet_of_same (CU.out _)) | (go_at_call 209; exact Calls.quiet_of (CP.out _)))
          clear CU CP
          go_wp2_with fail
          go_ret
          exact ⟨by rw [HT.out]; rfl, by obtain ⟨d, hd⟩ := HD.out; rw [hd, World.drewN_drewN]; exact ah w _⟩
        · have As : (v == 0) = false := by simpa using hv0
          have Ag : Hid ((rl.drop (j + 1)).any (fun s => used e s && decide (e.cd s q = 0)) = o2) := hide (by rw [← Aa.out]; exact (kV HS.out (by rw [Ac.out, decide_eq_false hv0]; rfl)).symm)
          clear Aa Ac HS hv0
          go_upto_region 7 with fail
          go_quiet (first | (go_at_call 234; exact Calls.quiet_of_same (CU.out _)) | (go_at_call 209; exact Calls.quiet_of (CP.out _)))
          clear CU CP
          go_wp2_with fail
          go_roundw
          case rel => exact ⟨j + 1, by omega, by go_num, Ag, hide (by obtain ⟨d, hd⟩ := HD.out; exact ⟨_, by rw [hd, World.drewN_drewN]⟩)⟩
          case measure => simp [intOf]; omega
     · have HN : Hid (o2 = false) := hide (by rw [← Aa.out, bW (by omega)]; rfl)
       have Av := hide (Aq.out HN.out)
       go_wp2_with fail
       go_roundw
       case rel => exact ⟨k + 1, by omega, by go_num, Av, HD⟩
       case measure => simp [intOf]; omega
  · have HN : Hid (b = false) := hide (by rw [← HO.out, bW (by omega)]; rfl)
    go_wp2_with fail
    go_ret
    exact ⟨by rw [HN.out]; rfl, by obtain ⟨d, hd⟩ := HD.out; rw [hd]; exact ah w _⟩
theorem gh {q : Nat} (h : Eg N S A T F n e w) (hq : q < n) :
    Calls Tryz.prog 216 #[aa A.K, .int .i64 q] w fun o w' => o = .returned (.tuple #[]) ∧ Eg N S A T F n (aW T e q) w' ∧ Fr (fun k => ¬ S k) w w' := by
 have HE := hide h
 obtain ⟨tv, h⟩ := h
 have CF := hide (vX h hq)
 have HEn := hide h
 cases hf : lE T e q with
 | true =>
  have HR : Hid (aW T e q = bJ e q) := hide (by unfold aW; rw [hf]; rfl)
  rw [hf] at CF
  clear h hf
  go_enter Tryz.func216, Tryz.ntmps216
  go_wp2_with (first | (go_at_call 235; refine CF.out.mono ?_; rintro _ w2 ⟨rfl, hb⟩; have HB := hide hb; have CT := hide (fC (HE.out.go hb) hq); clear hb) | (go_at_call 218; refine CT.out.mono ?_; rintro _ w3 ⟨rfl, he, hf⟩; have Ab := hide he; have Ad := hide hf; clear he hf))
  go_end0
  exact ⟨rfl, by rw [HR.out]; exact Ab.out, (Fr.of_below HB.out).trans Ad.out⟩
 | false =>
  have ht : ag T kT (q : Int) ≠ [] := fun e0 => by
   unfold lE at hf
   rw [e0] at hf
   cases hf
  have HT := hide ht
  cases hr : nJ T e q with
  | true =>
   have HR : Hid (aW T e q = bJ e q) := hide (by unfold aW; rw [hf, hr]; rfl)
   rw [hf] at CF
   have Ac := hide hr
   clear h hf ht hr
   go_enter Tryz.func216, Tryz.ntmps216
   go_wp2_with (first | (go_at_call 235; refine CF.out.mono ?_; rintro _ w2 ⟨rfl, hb⟩; have HB := hide hb; have CR := hide (mS (HEn.out.go hb) hq); rw [Ac.out] at CR; clear hb) | (go_at_call 236; refine CR.out.mono ?_; rintro _ w3 ⟨rfl, hb⟩; have Aa := hide (HB.out.trans (hb.mono HB.out.size)); have CT := hide (fC (HE.out.go Aa.out) hq); clear hb) | (go_at_call 218; refine CT.out.mono ?_; rintro _ w4 ⟨rfl, he, hf⟩; have Ab := hide he; have Ad := hide hf; clear he hf))
   go_end0
   exact ⟨rfl, by rw [HR.out]; exact Ab.out, (Fr.of_below Aa.out).trans Ad.out⟩
  | false =>
   cases ho : pH T e q with
   | true =>
    have HR : Hid (aW T e q = bJ e q) := hide (by unfold aW; rw [hf, hr, ho]; rfl)
    rw [hf] at CF
    have Ac := hide hr
    have Af := hide ho
    clear h hf ht hr ho
    go_enter Tryz.func216, Tryz.ntmps216
    go_wp2_with (first | (go_at_call 235; refine CF.out.mono ?_; rintro _ w2 ⟨rfl, hb⟩; have HB := hide hb; have CR := hide (mS (HEn.out.go hb) hq); rw [Ac.out] at CR; clear hb) | (go_at_call 236; refine CR.out.mono ?_; rintro _ w3 ⟨rfl, hb⟩; have Aa := hide (HB.out.trans (hb.mono HB.out.size)); have CO := hide (qs (HEn.out.go Aa.out) hq HT.out); rw [Af.out] at CO; clear hb) | (go_at_call 237; refine CO.out.mono ?_; rintro _ w4 ⟨rfl, hb⟩; have Ae := hide (Aa.out.trans (hb.mono Aa.out.size)); have CT := hide (fC (HE.out.go Ae.out) hq); clear hb) | (go_at_call 218; refine CT.out.mono ?_; rintro _ w5 ⟨rfl, he, hf⟩; have Ab := hide he; have Ad := hide hf; clear he hf))
    go_end0
    exact ⟨rfl, by rw [HR.out]; exact Ab.out, (Fr.of_below Ae.out).trans Ad.out⟩
   | false =>
    have HR : Hid (aW T e q = e) := hide (by unfold aW; rw [hf, hr, ho]; rfl)
    rw [hf] at CF
    have Ac := hide hr
    have Af := hide ho
    clear h hf ht hr ho
    go_enter Tryz.func216, Tryz.ntmps216
    go_wp2_with (first | (go_at_call 235; refine CF.out.mono ?_; rintro _ w2 ⟨rfl, hb⟩; have HB := hide hb; have CR := hide (mS (HEn.out.go hb) hq); rw [Ac.out] at CR; clear hb) | (go_at_call 236; refine CR.out.mono ?_; rintro _ w3 ⟨rfl, hb⟩; have Aa := hide (HB.out.trans (hb.mono HB.out.size)); have CO := hide (qs (HEn.out.go Aa.out) hq HT.out); rw [Af.out] at CO; clear hb) | (go_at_call 237; refine CO.out.mono ?_; rintro _ w4 ⟨rfl, hb⟩; have Ae := hide (Aa.out.trans (hb.mono Aa.out.size)); clear hb))
    go_end0
    exact ⟨rfl, by rw [HR.out]; exact HE.out.go Ae.out, Fr.of_below Ae.out⟩
end
set_option maxRecDepth 100000
set_option maxHeartbeats 6400000
section
variable {N : Nat} {S : Nat → Prop} {A : Ad} {T : Th} {F : List Int} {n : Nat} {e : Es} {tv : Value} {w w' : World}
theorem LL.stay {L : Int → List Int} {b : Nat} (h : LL S L n b w) {i : Nat} (hi : i < n) : ∃ a c, w.cell? ⟨b, i, none⟩ = some (.slice a (L i).length c) ∧ ∀ w' : World, (∀ k, S k → w'.heap[k]? = w.heap[k]?) → At1 w' a (aq (L i)) := by
 obtain ⟨_, vs, hf, hl, h⟩ := h
 obtain ⟨a, c, h1, h2, h3⟩ := h i hi
 refine ⟨a, c, hf.get h1, fun w' hk j v hj => ?_⟩
 obtain ⟨g, o, e, hc⟩ := h2 j v hj
 refine ⟨g, o, e, (World.cell?_of_block (hk g (h3 g o e fun e2 => ?_))).trans hc⟩
 rw [e2] at hj
 simp [aq] at hj
theorem En.stay (h : En N S A T F n e tv w) (hf : Fr (fun k => ¬ S k) w w') : ∀ k, S k → w'.heap[k]? = w.heap[k]? := fun k hk => hf.block k (h.kp k hk).1 fun hn => hn hk
theorem jb (h : En N S A T F n e tv w) {r : Nat} (hr : r < T.rules.length) : ∃ (hm g o : Nat), aj T r = (hm : Int) ∧ hm < n ∧ A.ra = some ⟨g, o, none⟩ ∧ ∀ w' : World, (∀ k, S k → w'.heap[k]? = w.heap[k]?) → w'.cell? ⟨g, o + r * 3 + 1, none⟩ = some (.int .i64 hm) := by
 obtain ⟨x, hx, Ac, Ab, Ad⟩ := fg h.pf hr
 obtain ⟨hm, Aa⟩ := Int.eq_ofNat_of_zero_le Ab
 obtain ⟨gr, go, bd, bp, er, hg, -, x1, -, -, -, -⟩ := dI h.ro.ta.rules hx
 exact ⟨hm, gr, go, by rw [Ac, Aa], by omega, er, fun w' hk => by rw [World.cell?_of_block (hk gr (h.ro.n0 gr hg)), x1, Aa]⟩
theorem nT (h : En N S A T F n e tv w) {r : Nat} (hr : r < T.rules.length) : ∃ l a c g o, row T.beats r = l ∧ A.ba = some ⟨g, o, none⟩ ∧ r < T.beats.length ∧ l.length ≤ 4096 ∧ w.cell? ⟨g, o + r, none⟩ = some (.slice a l.length c) ∧ (∀ s ∈ l, ∃ sm : Nat, s = (sm : Int) ∧ sm < T.rules.length ∧ aj T s ∈ row T.foes (aj T r)) ∧ l.Nodup ∧ ∀ w' : World, (∀ k, S k → w'.heap[k]? = w.heap[k]?) → At1 w' a (aq l) := by
 have Ag := h.pf.ok.bl
 obtain ⟨l, hl⟩ := am (l := T.beats) (i := r) (by omega)
 have er : row T.beats (r : Int) = l := bn (by rw [Int.toNat_natCast]; exact hl)
 obtain ⟨g, o, a2, c2, e1, -, hc, -, -, hI⟩ := bH h.ro.ta.beats hl
 obtain ⟨Ac, Ad⟩ := h.pf.ok.beat r l hl
 obtain ⟨Aa, Ab⟩ := bT (by omega) Ac
 have Af := h.pf.ok.rl
 have Ae : l.length ≤ T.rules.length := by
  have h2 : (l.map Int.toNat).Nodup := ja (eK Ab) fun x hx y hy hxy => by have := (Aa x hx).1; have := (Aa y hy).1; omega
  have := gN (N := T.rules.length) h2 fun k hk => by
   obtain ⟨x, hx, rfl⟩ := List.mem_map.1 hk
   have := Aa x hx
   omega
  simpa using this
 refine ⟨l, a2, c2, g, o, er, e1, (List.getElem?_eq_some_iff.1 hl).1, by omega, hc, fun s hs => ?_, eK Ab, fun w' hk => (Ints.keep (fun g hg => hk g (h.ro.n0 g hg)) hI).at1⟩
 obtain ⟨s0, s1⟩ := Aa s hs
 obtain ⟨sm, rfl⟩ := Int.eq_ofNat_of_zero_le (show 0 ≤ s by omega)
 exact ⟨sm, rfl, by omega, Ad _ hs⟩
theorem vA {r : Nat} (ht : bS T r = true) : (r : Int) ∈ ag T kT (aj T r) := by
 unfold bS at ht
 rw [Int.toNat_natCast] at ht
 cases hR : T.rules[r]? with
 | none => rw [hR] at ht; cases ht
 | some x =>
  rw [hR] at ht
  refine i5.2 ⟨r, x, rfl, hR, ht, ?_⟩
  unfold aj
  rw [Int.toNat_natCast, hR]
  rfl
theorem iG (h : Pf T F n) {r : Nat} (hr : r < T.rules.length) (ht : bS T r = true) {s : Int} (hs : aj T s ∈ row T.foes (aj T r)) : aj T r ∈ ao T (aj T s) := by
 obtain ⟨x, hx, Aa, Ac, Ab⟩ := fg h hr
 refine iX.2 ⟨ig h (by rw [Aa]; exact Ac) (by rw [Aa]; exact Ab) hs, fun e0 => ?_⟩
 have := vA ht
 rw [e0] at this
 cases this
theorem cT {α : Type} {f : Es → α → Es} {e : Es} {l : List α} {k : Nat} {x : α} (hx : l[k]? = some x) : (l.take (k + 1)).foldl f e = f ((l.take k).foldl f e) x := by rw [bC hx, List.foldl_append]; rfl
theorem kI (h : Pf T F n) {s : Nat} (hs : s < T.rules.length) : (ao T (aj T s)).Nodup := by
 obtain ⟨x, -, Ac, Ab, Ad⟩ := fg h hs
 obtain ⟨hm, Aa⟩ := Int.eq_ofNat_of_zero_le Ab
 rw [Ac, Aa]
 exact eK (jL h (by omega))
theorem nU {r : Nat} (h : Eg N S A T F n e w) (hr : r < T.rules.length) (ht : bS T r = true) :
    Calls Tryz.prog 179 #[aa A.K, .int .i64 r] w fun o w' => o = .returned (.tuple #[]) ∧ Eg N S A T F n (defendE T e r) w' ∧ Fr (fun k => ¬ S k) w w' := by
 have Ay := hide h
 obtain ⟨tv, h⟩ := h
 have HE := hide h
 have AD : T.rules.length ≤ 4096 := h.pf.ok.rl
 obtain ⟨hm, gr, go, hh, Az, er, Aq⟩ := jb h hr
 have x1 := Aq w fun _ _ => rfl
 obtain ⟨l, la, lc, gb, ob, el, eb, AC, AF, cb, Ak, -, Ao⟩ := nT h hr
 have k2 := h.bx.get (i := 2) rfl
 have k3 := h.bx.get (i := 3) rfl
 rw [er] at k2
 rw [eb] at k3
 have Aw := hide Ak
 have At := hide Ao
 have Ax : Hid (∀ s : Nat, (s : Int) ∈ l → s < T.rules.length ∧ (hm : Int) ∈ ao T (aj T s)) := hide fun s hs => by
  obtain ⟨sm, e1, h1, h2⟩ := Ak s hs
  have : s = sm := by omega
  subst this
  refine ⟨h1, ?_⟩
  have := iG h.pf hr ht h2
  rw [hh] at this
  exact this
 have HR : Hid (defendE T e r = l.foldl (eE (hm : Int)) e) := hide (by unfold defendE; rw [el, hh])
 clear h Aq Ak Ao er eb el hh ht
 go_enter Tryz.func179, Tryz.ntmps179
 go_wp2_with fail
 clear k2 k3 cb x1
 go_loopw [28] (fun x wr => ∃ k : Nat, k ≤ l.length ∧ x = .int .i64 k ∧ Hid (Eg N S A T F n ((l.take k).foldl (eE (hm : Int)) e) wr) ∧ Hid (Fr (fun k => ¬ S k) w wr)) (fun x _ => l.length - (intOf x).toNat)
 case atStart => exact ⟨0, by omega, rfl, hide Ay.out, hide (Fr.refl _ _)⟩
 case round =>
  obtain ⟨k, hk, rfl, HEr, HFr⟩ := hrel
  by_cases hlt : k < l.length
  · obtain ⟨s0, hs⟩ := am hlt
    obtain ⟨s, rfl, Ab, -⟩ := Aw.out s0 (List.mem_of_getElem? hs)
    obtain ⟨-, Ah⟩ := Ax.out s (List.mem_of_getElem? hs)
    obtain ⟨gx, ox, rfl, cx⟩ := (At.out wr (HE.out.stay HFr.out)).get hs
    have Ai : Hid ((l.take (k + 1)).foldl (eE (hm : Int)) e = eE (hm : Int) ((l.take k).foldl (eE (hm : Int)) e) s) := hide (cT hs)
    clear hs
    generalize (l.take k).foldl (eE (hm : Int)) e = e1 at HEr Ai
    obtain ⟨Al, Aa⟩ := HEr.out
    clear HEr
    obtain ⟨p, hp, As, AA, c1, -, c3⟩ := mI Aa Ab Ah
    have Af := kI Aa.pf Ab
    have AE := Aa.bx.get (i := 16) rfl
    have CP := hide fun d : Nat => jf (Aa.drewN d) Ab hp
    obtain ⟨An, Ad⟩ : ∃ An, (ao T (aj T (s : Int))).length = An := ⟨_, rfl⟩
    rw [Ad] at c1 As AA
    have Au := hide Aa
    have HP := hide hp
    have AB := hide Af
    cases hcb : e1.cb s hm with
    | true =>
     have HT : Hid (eE (hm : Int) e1 s = e1) := hide (by unfold eE; rw [hcb]; rfl)
     rw [hcb] at c3
     clear hcb Aa hp Af Ah Ad
     go_upto_region 4 with fail
     go_quiet ((go_at_call 209; exact Calls.quiet_of (CP.out _)))
     go_wp2_with fail
     go_roundw
     case rel => exact ⟨k + 1, by omega, by go_num, hide (by rw [Ai.out, HT.out]; exact ⟨Al, Au.out.drewN _⟩), hide (HFr.out.trans (Fr.of_below (ah wr _)))⟩
     case measure => simp [intOf]; omega
    | false =>
     rw [hcb] at c3
     have Ac := fun d : Nat => (Aa.drewN d).setCb Ab hp Af true
     have Ag := hide fun d : Nat => (Ac d).1.setUp (aF e1.up)
     have Ap := hide fun d : Nat => ((Fr.of_below (Z := fun k => ¬ S k) (ah wr d)).trans (Ac d).2).trans (Ag.out d).2
     have CS := hide fun d : Nat => mi (w := wr.drewN d) (K := A.K) (g := A.cr s) (i := p * 2 + 1) (v := true) (x := .bool false) c3 ((Aa.drewN d |>.cr s Ab).frz _) ((Ac d).1.bx.get (i := 21) rfl) ((Ac d).1.bx.frz 21)
     cases hdr : dropped e1 s with
     | true =>
      have HT : Hid (eE (hm : Int) e1 s = { e1 with cb := aB e1.cb s (aB (e1.cb s) hm true), up := aF e1.up }) := hide (by
       unfold eE
       rw [hcb, if_neg (by decide)]
       have : dropped { e1 with cb := aB e1.cb s (aB (e1.cb s) hm true), up := aF e1.up } s = true := hdr
       show (if dropped { e1 with cb := aB e1.cb s (aB (e1.cb s) hm true), up := aF e1.up } s then _ else _) = _
       rw [if_pos this])
      have CD := hide fun d : Nat => je (Ag.out d).1 Ab
      have Am : Hid (dropped { e1 with cb := aB e1.cb s (aB (e1.cb s) hm true), up := aF e1.up } s = true) := hide hdr
      clear hcb Aa hp Af Ah Ad Ac hdr
      go_upto_region 4 with fail
      go_quiet ((go_at_call 209; exact Calls.quiet_of (CP.out _)))
      go_wp2_with (first | (go_at_call 210; refine (CS.out _).mono ?_; rintro _ w2 ⟨rfl, rfl⟩) | (go_at_call 211; refine (CD.out _).mono ?_; rintro _ w3 ⟨Ae, rfl⟩; have Aj := Ae.trans (by rw [Am.out]); subst Aj; clear Ae))
      go_roundw
      case rel => exact ⟨k + 1, by omega, by go_num, hide (by rw [Ai.out, HT.out]; exact ⟨Al, (Ag.out _).1⟩), hide (HFr.out.trans (Ap.out _))⟩
      case measure => simp [intOf]; omega
     | false =>
      have HT : Hid (eE (hm : Int) e1 s = fV { e1 with cb := aB e1.cb s (aB (e1.cb s) hm true), up := aF e1.up } hm) := hide (by
       unfold eE
       rw [hcb, if_neg (by decide)]
       have : dropped { e1 with cb := aB e1.cb s (aB (e1.cb s) hm true), up := aF e1.up } s = false := hdr
       show (if dropped { e1 with cb := aB e1.cb s (aB (e1.cb s) hm true), up := aF e1.up } s then _ else _) = _
       rw [this, if_neg (by decide)])
      have CD := hide fun d : Nat => je (Ag.out d).1 Ab
      have Am : Hid (dropped { e1 with cb := aB e1.cb s (aB (e1.cb s) hm true), up := aF e1.up } s = false) := hide hdr
      have CC := hide fun d : Nat => lp (Ag.out d).1 Az
      clear hcb Aa hp Af Ah Ad Ac hdr
      go_upto_region 4 with fail
      go_quiet ((go_at_call 209; exact Calls.quiet_of (CP.out _)))
      go_wp2_with (first | (go_at_call 210; refine (CS.out _).mono ?_; rintro _ w2 ⟨rfl, rfl⟩) | (go_at_call 211; refine (CD.out _).mono ?_; rintro _ w3 ⟨Ae, rfl⟩; have Aj := Ae.trans (by rw [Am.out]); subst Aj; clear Ae) | (go_at_call 212; refine (CC.out _).mono ?_; rintro _ w4 ⟨rfl, he, hf⟩; have Ar := hide he; have Av := hide ((Ap.out _).trans hf); clear he hf))
      go_roundw
      case rel => exact ⟨k + 1, by omega, by go_num, hide (by rw [Ai.out, HT.out]; exact ⟨Al, Ar.out⟩), hide (HFr.out.trans Av.out)⟩
      case measure => simp [intOf]; omega
  · have HL : Hid (l.take k = l) := hide (List.take_of_length_le (by omega))
    go_wp2_with fail
    go_end0
    exact ⟨rfl, by rw [HR.out]; have := HEr.out; rw [HL.out] at this; exact this, HFr.out⟩
end
set_option maxRecDepth 100000
set_option maxHeartbeats 6400000
section
variable {N : Nat} {S : Nat → Prop} {A : Ad} {T : Th} {F : List Int} {n : Nat} {e : Es} {tv : Value} {w w' : World}
theorem qW {r : Nat} (h : Eg N S A T F n e w) (hr : r < T.rules.length) (ht : bS T r = true) :
    Calls Tryz.prog 238 #[aa A.K, .int .i64 r] w fun o w' => o = .returned (.tuple #[]) ∧ Eg N S A T F n (withE T e r) w' ∧ Fr (fun k => ¬ S k) w w' := by
 have Ay := hide h
 obtain ⟨tv, h⟩ := h
 have HE := hide h
 have AG : T.rules.length ≤ 4096 := h.pf.ok.rl
 obtain ⟨hm, gr, go, hh, Az, er, Aq⟩ := jb h hr
 have x1 := Aq w fun _ _ => rfl
 obtain ⟨l, la, lc, gb, ob, el, eb, AF, AH, cb, Ag, -, Ao⟩ := nT h hr
 have k2 := h.bx.get (i := 2) rfl
 have k3 := h.bx.get (i := 3) rfl
 rw [er] at k2
 rw [eb] at k3
 have Aw := hide Ag
 have At := hide Ao
 have Ax : Hid (∀ s : Nat, (s : Int) ∈ l → s < T.rules.length ∧ (hm : Int) ∈ ao T (aj T s)) := hide fun s hs => by
  obtain ⟨sm, e1, h1, h2⟩ := Ag s hs
  have : s = sm := by omega
  subst this
  refine ⟨h1, ?_⟩
  have := iG h.pf hr ht h2
  rw [hh] at this
  exact this
 have HR : Hid (withE T e r = l.foldl (fd (hm : Int)) e) := hide (by unfold withE; rw [el, hh])
 clear h Aq Ag Ao er eb el hh ht
 go_enter Tryz.func238, Tryz.ntmps238
 go_wp2_with fail
 clear k2 k3 cb x1
 have AC : Tryz.prog.follows .mixedOrders = true := by kernel_rfl
 go_loopw [28] (fun x wr => ∃ k : Nat, k ≤ l.length ∧ x = .int .i64 k ∧ Hid (Eg N S A T F n ((l.take k).foldl (fd (hm : Int)) e) wr) ∧ Hid (Fr (fun k => ¬ S k) w wr)) (fun x _ => l.length - (intOf x).toNat)
 case atStart => exact ⟨0, by omega, rfl, hide Ay.out, hide (Fr.refl _ _)⟩
 case round =>
  obtain ⟨k, hk, rfl, HEr, HFr⟩ := hrel
  by_cases hlt : k < l.length
  · obtain ⟨s0, hs⟩ := am hlt
    obtain ⟨s, rfl, Ab, -⟩ := Aw.out s0 (List.mem_of_getElem? hs)
    obtain ⟨-, Al⟩ := Ax.out s (List.mem_of_getElem? hs)
    obtain ⟨gx, ox, rfl, cx⟩ := (At.out wr (HE.out.stay HFr.out)).get hs
    have Ad : Hid ((l.take (k + 1)).foldl (fd (hm : Int)) e = fd (hm : Int) ((l.take k).foldl (fd (hm : Int)) e) s) := hide (cT hs)
    clear hs
    generalize (l.take k).foldl (fd (hm : Int)) e = e1 at HEr Ad
    obtain ⟨An, Aa⟩ := HEr.out
    clear HEr
    obtain ⟨p, hp, As, AB, c1, c2, -⟩ := mI Aa Ab Al
    have Ai := kI Aa.pf Ab
    have AA := Aa.bx.get (i := 16) rfl
    have CP := hide fun d : Nat => jf (Aa.drewN d) Ab hp
    obtain ⟨Ak, Ah⟩ : ∃ Ak, (ao T (aj T (s : Int))).length = Ak := ⟨_, rfl⟩
    rw [Ah] at c1 As AB
    obtain ⟨v', hv'⟩ : ∃ v', IntKind.i64.wrap (e1.cd s hm - 1) = v' := ⟨_, rfl⟩
    have HV : Hid (lS (e1.cd s hm) = v') := hide hv'
    have AE := hide Aa
    have HP := hide hp
    have AD := hide Ai
    obtain ⟨e2, Ae⟩ : ∃ e2 : Es, e2 = { e1 with cd := aB e1.cd s (aB (e1.cd s) hm v'), up := aF e1.up } := ⟨_, rfl⟩
    have Aj : Hid (fd (hm : Int) e1 s = if decide (v' = 0) && used e2 s then bJ e2 hm else e2) := hide (by
     unfold fd
     rw [HV.out, Ae]
     simp only [aM])
    have Ac := hide fun d : Nat => (Aa.drewN d).setCd Ab hp Ai v'
    have Af : Hid (∀ d : Nat, En N S A T F n e2 An (((wr.drewN d).setCell ⟨A.cr s, p * 2, none⟩ (.int .i64 v')).setCell ⟨A.K, 21, none⟩ (.int .i64 (aF e1.up)))) := hide fun d => by
     rw [Ae]
     exact ((Ac.out d).1.setUp (aF e1.up)).1
    have Ap := hide fun d : Nat => ((Fr.of_below (Z := fun k => ¬ S k) (ah wr d)).trans (Ac.out d).2).trans ((Ac.out d).1.setUp (aF e1.up)).2
    have CS := hide fun d : Nat => fD (w := wr.drewN d) (K := A.K) (g := A.cr s) (i := p * 2) (v := v') (x := .int .i64 (e1.cd s hm)) c2 ((Aa.drewN d |>.cr s Ab).frz _) ((Ac.out d).1.bx.get (i := 21) rfl) ((Ac.out d).1.bx.frz 21)
    have Am : Hid (∀ d : Nat, (((wr.drewN d).setCell ⟨A.cr s, p * 2, none⟩ (.int .i64 v')).setCell ⟨A.K, 21, none⟩ (.int .i64 (aF e1.up))).cell? ⟨A.cr s, p * 2, none⟩ = some (.int .i64 v')) := hide fun d => by
     have := ((Af.out d).cr s Ab).get (fF hp).1
     rw [Ae] at this
     simp only [aM] at this
     exact this
    have CU := hide fun d : Nat => mj (Af.out d) Ab
    have HEg := hide fun d : Nat => (⟨An, Af.out d⟩ : Eg N S A T F n e2 _)
    generalize e1.cd s hm = x at c2 hv' CS
    clear Aa hp Ai Al Ah Ae
    go_upto_region 4 with fail
    go_quiet ((go_at_call 209; exact Calls.quiet_of (CP.out _)))
    rename Nat => d0
    clear CP AA c1 cx
    go_upto_region 5 with fail
    refine aL (by assumption) (by kernel_rfl) (by kernel_rfl) (by kernel_rfl) (by kernel_rfl) ?_
    dsimp only [List.dropLast, List.getLast, List.cons_append, List.nil_append]
    repeat (go_big_quiet_step (fail))
    refine wpQuiet_nil ?_
    rintro _ ⟨nq, rfl⟩
    rw [World.drewN_drewN]
    generalize d0 + nq = dd
    have CSd := hide (CS.out dd)
    have c9 := Am.out dd
    have CUd := hide (CU.out dd)
    have HEd := hide (HEg.out dd)
    have HFd := hide (Ap.out dd)
    clear CS Am CU HEg Ap Af Ac c2 hv'
    by_cases hv0 : v' = 0
    · have Av : (v' == 0) = true := by simpa using hv0
      cases hu : used e2 s with
      | true =>
       have HT : Hid (fd (hm : Int) e1 s = bJ e2 hm) := hide (by rw [Aj.out, hu, decide_eq_true hv0]; rfl)
       have CL := hide (fC HEd.out Az)
       rw [hu] at CUd
       clear hu hv0
       go_wp2_with (first | (go_at_call 223; refine CSd.out.mono ?_; rintro _ w2 ⟨rfl, rfl⟩) | (go_at_call 234; refine CUd.out.mono ?_; rintro _ w3 ⟨rfl, rfl⟩) | (go_at_call 218; refine CL.out.mono ?_; rintro _ w4 ⟨rfl, he, hf⟩; have Ar := hide he; have Au := hide (HFd.out.trans hf); clear he hf))
       go_roundw
       case rel => exact ⟨k + 1, by omega, by go_num, hide (by rw [Ad.out, HT.out]; exact Ar.out), hide (HFr.out.trans Au.out)⟩
       case measure => simp [intOf]; omega
      | false =>
       have HT : Hid (fd (hm : Int) e1 s = e2) := hide (by rw [Aj.out, hu, decide_eq_true hv0]; rfl)
       rw [hu] at CUd
       clear hu hv0
       go_wp2_with (first | (go_at_call 223; refine CSd.out.mono ?_; rintro _ w2 ⟨rfl, rfl⟩) | (go_at_call 234; refine CUd.out.mono ?_; rintro _ w3 ⟨rfl, rfl⟩))
       go_roundw
       case rel => exact ⟨k + 1, by omega, by go_num, hide (by rw [Ad.out, HT.out]; exact HEd.out), hide (HFr.out.trans HFd.out)⟩
       case measure => simp [intOf]; omega
    · have Av : (v' == 0) = false := by simpa using hv0
      have HT : Hid (fd (hm : Int) e1 s = e2) := hide (by rw [Aj.out, decide_eq_false hv0]; rfl)
      clear hv0
      go_wp2_with (go_at_call 223; refine CSd.out.mono ?_; rintro _ w2 ⟨rfl, rfl⟩)
      go_roundw
      case rel => exact ⟨k + 1, by omega, by go_num, hide (by rw [Ad.out, HT.out]; exact HEd.out), hide (HFr.out.trans HFd.out)⟩
      case measure => simp [intOf]; omega
  · have HL : Hid (l.take k = l) := hide (List.take_of_length_le (by omega))
    go_wp2_with fail
    go_end0
    exact ⟨rfl, by rw [HR.out]; have := HEr.out; rw [HL.out] at this; exact this, HFr.out⟩
theorem fh {k h : Int} {v : Value} : Calls Tryz.prog 176 #[.agg #[.int .i64 k, .int .i64 h, v]] w fun o w' => o = .returned (.bool (!decide (k = 3))) ∧ Below w.heap.size w w' := by
 have hB := ae w (.cells #[.int .i64 k, .int .i64 h, v] 114)
 have c0 : (w.alloc (.cells #[.int .i64 k, .int .i64 h, v] 114)).cell? ⟨w.heap.size, 0, none⟩ = some (.int .i64 k) := cell_of_row _ _ 0 _ _ _ (heap_alloc_new w _)
 have HB := hide hB
 have HK : Hid ((!decide (k = 3)) = (k != 3)) := hide (by by_cases e0 : k = 3 <;> simp [e0])
 clear hB
 go_enter Tryz.func176, Tryz.ntmps176
 go_wp2_with fail
 go_ret
 exact ⟨by rw [HK.out]; rfl, HB.out⟩
end
end Go.Proofs.YtmlhcncagdfjfaaGreat.Fa
