import Derived.Test.YtmlhcncagdfjfaaGreatFsM
import Derived.Deep.RegionLaw
set_option maxRecDepth 100000
set_option maxHeartbeats 3200000
namespace Go.Proofs.YtmlhcncagdfjfaaGreat.Fa
open Go.RowKit
section
variable {N : Nat} {S : Nat → Prop} {A : Ad} {T : Th} {F : List Int} {n : Nat} {e : Es} {tv : Value} {w w' : World}
theorem yJ {r : Nat} (h : En N S A T F n e tv w) (hr : r < T.rules.length) :
    Calls Tryz.prog 217 #[aa A.K, .pointer (some ⟨A.K, 8, none⟩), .int .i64 r] w fun o w' => o = .returned (.bool (decide ((bO e false r).ms false r = 0))) ∧ En N S A T F n (bO e false r) tv w' ∧ Fr (fun k => ¬ S k) w w' := by
 have k8 := h.bx.get (i := 9) rfl
 have cm := (h.ms false).get (bz hr)
 obtain ⟨v', hv'⟩ : ∃ v', IntKind.i64.wrap (e.ms false r - 1) = v' := ⟨_, rfl⟩
 have HV : Hid (dt (e.ms false r) = v') := hide hv'
 have HE := hide h
 have HQ := hide hr
 generalize e.ms false r = x at cm hv'
 clear h
 have Aa : Tryz.prog.follows .mixedOrders = true := by kernel_rfl
 go_enter Tryz.func217, Tryz.ntmps217
 go_wp2_with fail
 refine aX (by assumption) (by kernel_rfl) (by kernel_rfl) (by kernel_rfl) (by kernel_rfl) ?_
 dsimp only [List.dropLast, List.getLast, List.cons_append, List.nil_append]
 repeat (go_big_quiet_step (fail))
 refine wpQuiet_nil ?_
 rintro _ ⟨nq, rfl⟩
 have hE := HE.out.drewN nq
 have h1 := hE.setMs false HQ.out v'
 have h2 := h1.1.setUp (aH e.up)
 have CS := hide (gj (K := A.K) (v := v') ((hE.ms false).get (bz HQ.out)) ((hE.ms false).frz r) (h1.1.bx.get (i := 21) rfl) (h1.1.bx.frz 21))
 have HN : Hid (En N S A T F n (bO e false r) tv (((w.drewN nq).setCell ⟨A.ms false, r, none⟩ (.int .i64 v')).setCell ⟨A.K, 21, none⟩ (.int .i64 (aH e.up)))) := hide (by
  unfold bO
  rw [HV.out]
  exact h2.1)
 have HF := hide ((Fr.of_below (aj w nq)).trans (h1.2.trans h2.2))
 have HB : Hid (decide ((bO e false r).ms false r = 0) = (v' == 0)) := hide (by
  unfold bO
  simp only [aG, aA, HV.out]
  by_cases e0 : v' = 0 <;> simp [e0])
 have k9 := HN.out.bx.get (i := 9) rfl
 have c9 : (((w.drewN nq).setCell ⟨A.ms false, r, none⟩ (.int .i64 v')).setCell ⟨A.K, 21, none⟩ (.int .i64 (aH e.up))).cell? ⟨A.ms false, r, none⟩ = some (.int .i64 v') := by
  have := (HN.out.ms false).get (bz HQ.out)
  unfold bO at this
  simp only [aG, aA, HV.out] at this
  exact this
 clear hE h1 h2 k8 cm hv'
 go_wp2_with (go_at_call 223; refine CS.out.mono ?_; rintro _ w2 ⟨rfl, rfl⟩)
 go_ret
 exact ⟨by rw [HB.out]; rfl, HN.out, HF.out⟩
theorem sP {r : Nat} (h : En N S A T F n e tv w) (hr : r < T.rules.length) :
    Calls Tryz.prog 219 #[aa A.K, .pointer (some ⟨A.K, 8, none⟩), .int .i64 r] w fun o w' => o = .returned (.bool (!e.rf false r)) ∧ En N S A T F n (refE e false r) tv w' ∧ Fr (fun k => ¬ S k) w w' := by
 have k8 := h.bx.get (i := 10) rfl
 have cm := (h.rf false).get (d9 hr)
 have HE := hide h
 have HQ := hide hr
 cases hx : e.rf false r with
 | true =>
  rw [hx] at cm
  have HR : Hid (refE e false r = e) := hide (by unfold refE; rw [hx]; rfl)
  clear h hx
  go_enter Tryz.func219, Tryz.ntmps219
  go_wp2_with fail
  go_ret
  exact ⟨rfl, by rw [HR.out]; exact HE.out, Fr.refl _ _⟩
 | false =>
  rw [hx] at cm
  have h1 := h.setRf false hr true
  have h2 := h1.1.setUp (aH e.up)
  have CS := hide (np (K := A.K) (v := true) cm ((h.rf false).frz r) (h1.1.bx.get (i := 21) rfl) (h1.1.bx.frz 21))
  have HN : Hid (En N S A T F n (refE e false r) tv ((w.setCell ⟨A.rr false, r, none⟩ (.bool true)).setCell ⟨A.K, 21, none⟩ (.int .i64 (aH e.up)))) := hide (by
   unfold refE
   rw [hx]
   exact h2.1)
  have HF := hide (h1.2.trans h2.2)
  clear h h1 h2 hx
  go_enter Tryz.func219, Tryz.ntmps219
  go_wp2_with (go_at_call 210; refine CS.out.mono ?_; rintro _ w2 ⟨rfl, rfl⟩)
  go_ret
  exact ⟨rfl, HN.out, HF.out⟩
theorem m7 {q : Nat} (h : En N S A T F n e tv w) (hq : q < n) :
    Calls Tryz.prog 220 #[aa A.K, .pointer (some ⟨A.K, 8, none⟩), .int .i64 q] w fun o w' => o = .returned (.bool (ep e false q)) ∧ En N S A T F n (aI e false q) tv w' ∧ Fr (fun k => ¬ S k) w w' := by
 have k8 := h.bx.get (i := 11) rfl
 have cm := (h.op false).get (bz hq)
 obtain ⟨v', hv'⟩ : ∃ v', IntKind.i64.wrap (e.op false q - 1) = v' := ⟨_, rfl⟩
 have HV : Hid (dt (e.op false q) = v') := hide hv'
 have HE := hide h
 have HQ := hide hq
 by_cases hx : 1 < e.op false q
 · have hd : decide (1 < e.op false q) = true := decide_eq_true hx
   have HR : Hid (ep e false q = false) := hide (by unfold ep; exact decide_eq_false (by omega))
   have HX := hide hx
   generalize e.op false q = x at cm hv' hd
   clear h hx
   have Aa : Tryz.prog.follows .mixedOrders = true := by kernel_rfl
   go_enter Tryz.func220, Tryz.ntmps220
   go_wp2_with fail
   refine aX (by assumption) (by kernel_rfl) (by kernel_rfl) (by kernel_rfl) (by kernel_rfl) ?_
   dsimp only [List.dropLast, List.getLast, List.cons_append, List.nil_append]
   repeat (go_big_quiet_step (fail))
   refine wpQuiet_nil ?_
   rintro _ ⟨nq, rfl⟩
   have hE := HE.out.drewN nq
   have h1 := hE.setOp false HQ.out v'
   have h2 := h1.1.setUp (aH e.up)
   have CS := hide (gj (K := A.K) (v := v') ((hE.op false).get (bz HQ.out)) ((hE.op false).frz q) (h1.1.bx.get (i := 21) rfl) (h1.1.bx.frz 21))
   have HN : Hid (En N S A T F n (aI e false q) tv (((w.drewN nq).setCell ⟨A.op false, q, none⟩ (.int .i64 v')).setCell ⟨A.K, 21, none⟩ (.int .i64 (aH e.up)))) := hide (by
    unfold aI
    rw [if_pos HX.out, HV.out]
    exact h2.1)
   have HF := hide ((Fr.of_below (aj w nq)).trans (h1.2.trans h2.2))
   clear hE h1 h2 k8 cm hv' hd
   go_wp2_with (go_at_call 223; refine CS.out.mono ?_; rintro _ w2 ⟨rfl, rfl⟩)
   go_ret
   exact ⟨by rw [HR.out]; rfl, HN.out, HF.out⟩
 · have hd : decide (1 < e.op false q) = false := decide_eq_false hx
   have HR : Hid (ep e false q = (e.op false q == 1)) := hide (by unfold ep; by_cases e0 : e.op false q = 1 <;> simp [e0])
   have HC : Hid (aI e false q = e) := hide (by unfold aI; rw [if_neg hx])
   generalize e.op false q = x at cm hd HR
   clear h hx hv' HV
   go_enter Tryz.func220, Tryz.ntmps220
   go_wp2_with fail
   go_ret
   exact ⟨by rw [HR.out]; rfl, by rw [HC.out]; exact HE.out, Fr.refl _ _⟩
theorem xL {r : Nat} (h : En N S A T F n e tv w) (hr : r < T.rules.length) :
    Calls Tryz.prog 217 #[aa A.K, .pointer (some ⟨A.K, 12, none⟩), .int .i64 r] w fun o w' => o = .returned (.bool (decide ((bO e true r).ms true r = 0))) ∧ En N S A T F n (bO e true r) tv w' ∧ Fr (fun k => ¬ S k) w w' := by
 have k8 := h.bx.get (i := 13) rfl
 have cm := (h.ms true).get (bz hr)
 obtain ⟨v', hv'⟩ : ∃ v', IntKind.i64.wrap (e.ms true r - 1) = v' := ⟨_, rfl⟩
 have HV : Hid (dt (e.ms true r) = v') := hide hv'
 have HE := hide h
 have HQ := hide hr
 generalize e.ms true r = x at cm hv'
 clear h
 have Aa : Tryz.prog.follows .mixedOrders = true := by kernel_rfl
 go_enter Tryz.func217, Tryz.ntmps217
 go_wp2_with fail
 refine aX (by assumption) (by kernel_rfl) (by kernel_rfl) (by kernel_rfl) (by kernel_rfl) ?_
 dsimp only [List.dropLast, List.getLast, List.cons_append, List.nil_append]
 repeat (go_big_quiet_step (fail))
 refine wpQuiet_nil ?_
 rintro _ ⟨nq, rfl⟩
 have hE := HE.out.drewN nq
 have h1 := hE.setMs true HQ.out v'
 have h2 := h1.1.setUp (aH e.up)
 have CS := hide (gj (K := A.K) (v := v') ((hE.ms true).get (bz HQ.out)) ((hE.ms true).frz r) (h1.1.bx.get (i := 21) rfl) (h1.1.bx.frz 21))
 have HN : Hid (En N S A T F n (bO e true r) tv (((w.drewN nq).setCell ⟨A.ms true, r, none⟩ (.int .i64 v')).setCell ⟨A.K, 21, none⟩ (.int .i64 (aH e.up)))) := hide (by
  unfold bO
  rw [HV.out]
  exact h2.1)
 have HF := hide ((Fr.of_below (aj w nq)).trans (h1.2.trans h2.2))
 have HB : Hid (decide ((bO e true r).ms true r = 0) = (v' == 0)) := hide (by
  unfold bO
  simp only [aG, aA, HV.out]
  by_cases e0 : v' = 0 <;> simp [e0])
 have k9 := HN.out.bx.get (i := 13) rfl
 have c9 : (((w.drewN nq).setCell ⟨A.ms true, r, none⟩ (.int .i64 v')).setCell ⟨A.K, 21, none⟩ (.int .i64 (aH e.up))).cell? ⟨A.ms true, r, none⟩ = some (.int .i64 v') := by
  have := (HN.out.ms true).get (bz HQ.out)
  unfold bO at this
  simp only [aG, aA, HV.out] at this
  exact this
 clear hE h1 h2 k8 cm hv'
 go_wp2_with (go_at_call 223; refine CS.out.mono ?_; rintro _ w2 ⟨rfl, rfl⟩)
 go_ret
 exact ⟨by rw [HB.out]; rfl, HN.out, HF.out⟩
theorem sT {r : Nat} (h : En N S A T F n e tv w) (hr : r < T.rules.length) :
    Calls Tryz.prog 219 #[aa A.K, .pointer (some ⟨A.K, 12, none⟩), .int .i64 r] w fun o w' => o = .returned (.bool (!e.rf true r)) ∧ En N S A T F n (refE e true r) tv w' ∧ Fr (fun k => ¬ S k) w w' := by
 have k8 := h.bx.get (i := 14) rfl
 have cm := (h.rf true).get (d9 hr)
 have HE := hide h
 have HQ := hide hr
 cases hx : e.rf true r with
 | true =>
  rw [hx] at cm
  have HR : Hid (refE e true r = e) := hide (by unfold refE; rw [hx]; rfl)
  clear h hx
  go_enter Tryz.func219, Tryz.ntmps219
  go_wp2_with fail
  go_ret
  exact ⟨rfl, by rw [HR.out]; exact HE.out, Fr.refl _ _⟩
 | false =>
  rw [hx] at cm
  have h1 := h.setRf true hr true
  have h2 := h1.1.setUp (aH e.up)
  have CS := hide (np (K := A.K) (v := true) cm ((h.rf true).frz r) (h1.1.bx.get (i := 21) rfl) (h1.1.bx.frz 21))
  have HN : Hid (En N S A T F n (refE e true r) tv ((w.setCell ⟨A.rr true, r, none⟩ (.bool true)).setCell ⟨A.K, 21, none⟩ (.int .i64 (aH e.up)))) := hide (by
   unfold refE
   rw [hx]
   exact h2.1)
  have HF := hide (h1.2.trans h2.2)
  clear h h1 h2 hx
  go_enter Tryz.func219, Tryz.ntmps219
  go_wp2_with (go_at_call 210; refine CS.out.mono ?_; rintro _ w2 ⟨rfl, rfl⟩)
  go_ret
  exact ⟨rfl, HN.out, HF.out⟩
theorem sR {q : Nat} (h : En N S A T F n e tv w) (hq : q < n) :
    Calls Tryz.prog 220 #[aa A.K, .pointer (some ⟨A.K, 12, none⟩), .int .i64 q] w fun o w' => o = .returned (.bool (ep e true q)) ∧ En N S A T F n (aI e true q) tv w' ∧ Fr (fun k => ¬ S k) w w' := by
 have k8 := h.bx.get (i := 15) rfl
 have cm := (h.op true).get (bz hq)
 obtain ⟨v', hv'⟩ : ∃ v', IntKind.i64.wrap (e.op true q - 1) = v' := ⟨_, rfl⟩
 have HV : Hid (dt (e.op true q) = v') := hide hv'
 have HE := hide h
 have HQ := hide hq
 by_cases hx : 1 < e.op true q
 · have hd : decide (1 < e.op true q) = true := decide_eq_true hx
   have HR : Hid (ep e true q = false) := hide (by unfold ep; exact decide_eq_false (by omega))
   have HX := hide hx
   generalize e.op true q = x at cm hv' hd
   clear h hx
   have Aa : Tryz.prog.follows .mixedOrders = true := by kernel_rfl
   go_enter Tryz.func220, Tryz.ntmps220
   go_wp2_with fail
   refine aX (by assumption) (by kernel_rfl) (by kernel_rfl) (by kernel_rfl) (by kernel_rfl) ?_
   dsimp only [List.dropLast, List.getLast, List.cons_append, List.nil_append]
   repeat (go_big_quiet_step (fail))
   refine wpQuiet_nil ?_
   rintro _ ⟨nq, rfl⟩
   have hE := HE.out.drewN nq
   have h1 := hE.setOp true HQ.out v'
   have h2 := h1.1.setUp (aH e.up)
   have CS := hide (gj (K := A.K) (v := v') ((hE.op true).get (bz HQ.out)) ((hE.op true).frz q) (h1.1.bx.get (i := 21) rfl) (h1.1.bx.frz 21))
   have HN : Hid (En N S A T F n (aI e true q) tv (((w.drewN nq).setCell ⟨A.op true, q, none⟩ (.int .i64 v')).setCell ⟨A.K, 21, none⟩ (.int .i64 (aH e.up)))) := hide (by
    unfold aI
    rw [if_pos HX.out, HV.out]
    exact h2.1)
   have HF := hide ((Fr.of_below (aj w nq)).trans (h1.2.trans h2.2))
   clear hE h1 h2 k8 cm hv' hd
   go_wp2_with (go_at_call 223; refine CS.out.mono ?_; rintro _ w2 ⟨rfl, rfl⟩)
   go_ret
   exact ⟨by rw [HR.out]; rfl, HN.out, HF.out⟩
 · have hd : decide (1 < e.op true q) = false := decide_eq_false hx
   have HR : Hid (ep e true q = (e.op true q == 1)) := hide (by unfold ep; by_cases e0 : e.op true q = 1 <;> simp [e0])
   have HC : Hid (aI e true q = e) := hide (by unfold aI; rw [if_neg hx])
   generalize e.op true q = x at cm hd HR
   clear h hx hv' HV
   go_enter Tryz.func220, Tryz.ntmps220
   go_wp2_with fail
   go_ret
   exact ⟨by rw [HR.out]; rfl, by rw [HC.out]; exact HE.out, Fr.refl _ _⟩
end
set_option maxRecDepth 100000
set_option maxHeartbeats 6400000
theorem Fe : (Tryz.prog.info? 85).map (fun i => (i.zero, i.size, i.bytes)) = some (some (.agg #[.int .i64 0, .int .i64 0]), 2, 16) := by kernel_rfl
section
variable {N : Nat} {S : Nat → Prop} {A : Ad} {T : Th} {F : List Int} {n : Nat} {e : Es} {w w' : World}
def Eg (N : Nat) (S : Nat → Prop) (A : Ad) (T : Th) (F : List Int) (n : Nat) (e : Es) (w : World) : Prop := ∃ tv, En N S A T F n e tv w
theorem Eg.go (h : Eg N S A T F n e w) (hb : Below w.heap.size w w') : Eg N S A T F n e w' := by
 obtain ⟨tv, h⟩ := h
 exact ⟨tv, h.go hb⟩
theorem dT {q : Nat} {t : Int} (h : Eg N S A T F n e w) (hq : q < n) (ht : aq t) :
    Calls Tryz.prog 213 #[aa A.K, .int .i64 q, .int .i64 t] w fun o w' => o = .returned (.tuple #[]) ∧ Eg N S A T F n (tell e q t) w' ∧ Fr (fun k => ¬ S k) w w' := by
 obtain ⟨tv, h⟩ := h
 have CH := hide (dH h hq ht)
 have HE := hide h
 cases hh : has e q t with
 | true =>
  rw [hh] at CH
  have HR : Hid (tell e q t = e) := hide (by unfold tell; rw [hh]; rfl)
  clear h hh
  go_enter Tryz.func213, Tryz.ntmps213
  go_wp2_with (go_at_call 214; refine CH.out.mono ?_; rintro _ w2 ⟨rfl, hb⟩; have HB := hide hb; clear hb)
  refine bodyPost_ret (results_none rfl _ _ _) rfl ?_
  exact ⟨rfl, by rw [HR.out]; exact ⟨tv, HE.out.go HB.out⟩, Fr.of_below HB.out⟩
 | false =>
  rw [hh] at CH
  have AF := hide hh
  have HR : Hid (tell e q t = { e with mq := ar e.mq q (cC (e.mq q) t), td := e.td ++ [((q : Int), t)], up := aH (aH e.up) }) := hide (by unfold tell; rw [hh]; rfl)
  clear h hh
  have AG : Tryz.prog.follows .mixedOrders = true := by kernel_rfl
  go_enter Tryz.func213, Tryz.ntmps213
  go_upto_region 1 with (go_at_call 214; refine CH.out.mono ?_; rintro _ w2 ⟨rfl, hb⟩; have HB := hide hb; clear hb)
  have Al := hide (HE.out.go HB.out)
  clear CH HE
  have k8 := Al.out.bx.get (i := 18) rfl
  have cm := Al.out.mq.get (kN hq)
  have CB := hide fun d : Nat => rC (w := w2.drewN d) ht
  obtain ⟨x, hx⟩ : ∃ x, e.mq (q : Int) = x := ⟨_, rfl⟩
  obtain ⟨y, hy⟩ : ∃ y, bitM t = y := ⟨_, rfl⟩
  obtain ⟨v, hv⟩ : ∃ v, bits .or .u8 x y = v := ⟨_, rfl⟩
  have HV : Hid (cC (e.mq (q : Int)) t = v) := hide (by unfold cC; rw [hx, hy]; exact hv)
  rw [hx] at cm
  rw [hy] at CB
  clear hx hy
  refine aX (by assumption) (by kernel_rfl) (by kernel_rfl) (by kernel_rfl) (by kernel_rfl) ?_
  dsimp only [List.dropLast, List.getLast, List.cons_append, List.nil_append]
  repeat (go_big_quiet_step ((go_at_call 232; exact Calls.quiet_of_same (CB.out _))))
  refine wpQuiet_nil ?_
  rintro _ ⟨nq, rfl⟩
  have hE := Al.out.drewN nq
  have h1 : Fx A.mq 67 (fM n (ar e.mq q v)) ((w2.drewN nq).setCell ⟨A.mq, q, none⟩ (.int .u8 v)) := by
   have := hE.mq.set q (.int .u8 v)
   rw [oi hq] at this
   exact this
  have h2 := hE.bx.keep (other_set (i := q) (v := .int .u8 v) (ao hE.bx hE.mq (by decide)))
  have CS := hide (yt (K := A.K) (v := v) (hE.mq.get (kN hq)) (hE.mq.frz q) (h2.get (i := 21) rfl) (h2.frz 21))
  have h3 := h2.set 21 (.int .i64 (aH e.up))
  have Ae : Hid ((((w2.drewN nq).setCell ⟨A.mq, q, none⟩ (.int .u8 v)).setCell ⟨A.K, 21, none⟩ (.int .i64 (aH e.up))).ownsRow 0 85 2 tv e.td.length (prs e.td)) := hide (owns_keep hE.td fun g hg => by rw [other_set (show g ≠ A.K from fun x => dL hE.td hE.bx (by decide) (x ▸ hg)), other_set (show g ≠ A.mq from fun x => dL hE.td hE.mq (by decide) (x ▸ hg))])
  have Ag := hide hE
  clear k8 cm h1 h2 hE CB hv
  go_upto_region 2 with (go_at_call 231; refine CS.out.mono ?_; rintro _ w3 ⟨rfl, rfl⟩)
  clear CS
  have Aw : Hid (∀ k, k < w2.heap.size → (((w2.drewN nq).setCell ⟨A.mq, q, none⟩ (.int .u8 v)).setCell ⟨A.K, 21, none⟩ (.int .i64 (aH e.up))).heap[k]? = (((w2.drewN nq).setCell ⟨A.mq, q, none⟩ (.int .u8 (cC (e.mq q) t))).setCell ⟨A.K, 21, none⟩ (.int .i64 (aH e.up))).heap[k]?) := hide fun k _ => by rw [HV.out]
  have Ar : Hid ((((w2.drewN nq).setCell ⟨A.mq, q, none⟩ (.int .u8 v)).setCell ⟨A.K, 21, none⟩ (.int .i64 (aH e.up))).heap.size = w2.heap.size ∧ (((w2.drewN nq).setCell ⟨A.mq, q, none⟩ (.int .u8 v)).setCell ⟨A.K, 21, none⟩ (.int .i64 (aH e.up))).os = w2.os ∧ (((w2.drewN nq).setCell ⟨A.mq, q, none⟩ (.int .u8 v)).setCell ⟨A.K, 21, none⟩ (.int .i64 (aH e.up))).tape = w2.tape ∧ (((w2.drewN nq).setCell ⟨A.mq, q, none⟩ (.int .u8 v)).setCell ⟨A.K, 21, none⟩ (.int .i64 (aH e.up))).output = w2.output) := hide ⟨by simp, rfl, rfl, rfl⟩
  have Aa := hide h3
  clear h3
  generalize ((w2.drewN nq).setCell ⟨A.mq, q, none⟩ (.int .u8 v)).setCell ⟨A.K, 21, none⟩ (.int .i64 (aH e.up)) = w3 at *
  obtain ⟨ta, tc, Az⟩ := bG Ae.out
  subst Az
  obtain ⟨m, hm⟩ : ∃ m, e.td.length = m := ⟨_, rfl⟩
  have HM := hide hm
  have At : w3.cell? ⟨A.K, 19, none⟩ = some (.slice ta m tc) := by rw [← hm]; exact Aa.out.get (i := 19) rfl
  have Ap : (w3.alloc (.cells #[.int .i64 q, .int .i64 t] 85)).cell? ⟨A.K, 19, none⟩ = some (.slice ta m tc) := by rw [← hm]; exact (Aa.out.keep ((ae w3 _).block _ Aa.out.lt)).get (i := 19) rfl
  have AI : m ≤ 16384 := by have := Ag.out.tok.len; have := Ag.out.pf.n4; omega
  obtain ⟨iP, AD, Au, Ax, AC⟩ := info_parts Fe
  have Av : Hid ((w3.alloc (.cells #[.int .i64 q, .int .i64 t] 85)).drew.ownsRow 0 85 2 (.slice ta m tc) m (prs e.td)) := hide (by
   have := owns_keep Ae.out fun g hg => ((ae w3 (.cells #[.int .i64 q, .int .i64 t] 85)).drew).block g (aB Ae.out hg)
   rw [hm] at this
   exact this)
  have AE : Hid (∀ j u, [Value.int .i64 q, .int .i64 t][j]? = some u → (w3.alloc (.cells #[.int .i64 q, .int .i64 t] 85)).drew.cell? ((⟨w3.heap.size, 0, none⟩ : Addr).add j) = some u) := hide (World.news_of_block (cs := [Value.int .i64 q, .int .i64 t].toArray) (t := 85) (fr := (0, 0)) (heap_alloc_new w3 (.cells #[.int .i64 q, .int .i64 t] 85)))
  have Am : Hid ((w3.alloc (.cells #[.int .i64 q, .int .i64 t] 85)).drew.heap.size = w3.heap.size + 1) := hide (by show (w3.alloc (.cells #[.int .i64 q, .int .i64 t] 85)).heap.size = _; simp)
  have As : Hid (Value.ownBlock (.slice ta m tc) ≠ some A.K) := hide (by rw [← hm]; exact dL Ae.out Aa.out (by decide))
  clear hm
  go_region_law (first | (refine step_append_lies _ (by rfl) _ _ _ (by rfl) 0 85 iP _ 2 16 Tryz.underlying42 AD Au Ax AC rfl (by decide) (.slice ta m tc) m (prs e.td) (by rfl) Av.out ⟨w3.heap.size, 0, none⟩ 1 1 [.int .i64 q, .int .i64 t] (by rfl) rfl AE.out (by simp [Value.oneCell']) (by decide) (by unfold maxLen; omega) (by omega) (Nat.zero_le _) (w3.heap.size + 1) Am.out ?_; intro gg cap w5 Ai Ab Ao Af; have Ac := hide Ab; have Aq := hide Ai; have AB := hide Ao; have AH := hide Af; have Ah := hide (Aa.out.keep (aD Ab Aa.out.lt As.out)); have An := hide (Ah.out.set 19 (.slice (some ⟨gg, 0, none⟩) (m + 1) cap)); have CS := hide (xl (K := A.K) (a := some ⟨gg, 0, none⟩) (m := m + 1) (c := cap) (Ah.out.get (i := 19) rfl) (Ah.out.frz 19) (An.out.get (i := 21) rfl) (An.out.frz 21)); clear Ai Ab Ao Af) | (go_simp; go_wp2_with (go_at_call 233; refine CS.out.mono ?_; rintro _ w6 ⟨rfl, rfl⟩)))
  all_goals
   have hm := HM.out
   subst hm
   have Ad := Ar.out
   have Ay := Ac.out.size
   have AA := Am.out
   have Ak := Ag.out.setMk hq ht AF.out (w1 := w5) (u1 := aH e.up) (g := gg) (c := cap) (by rw [nU]; exact Aq.out)
    (fun k hk hn => (aD Ac.out (by rw [Ad.1]; exact hk) hn).trans (Aw.out k hk)) (by show w2.heap.size ≤ _; omega)
    (by rcases AB.out with h | h; exact .inl h; exact .inr (by show w2.heap.size ≤ gg; omega)) ⟨Ac.out.os.trans Ad.2.1, Ac.out.tape.trans Ad.2.2.1, Ac.out.output.trans Ad.2.2.2⟩ (aH (aH e.up))
   have Aj := hide Ak
   clear Ak Ad Ay AA At Ap
   go_end0
   exact ⟨rfl, by rw [HR.out]; exact ⟨_, Aj.out.1⟩, (Fr.of_below HB.out).trans ((Fr.of_below (aj w2 nq)).trans Aj.out.2)⟩
theorem gh {q : Nat} (h : Eg N S A T F n e w) (hq : q < n) :
    Calls Tryz.prog 218 #[aa A.K, .int .i64 q] w fun o w' => o = .returned (.tuple #[]) ∧ Eg N S A T F n (aN e q) w' ∧ Fr (fun k => ¬ S k) w w' := by
 have HE := hide h
 obtain ⟨tv, h⟩ := h
 have CH := hide (dH h hq tag2)
 cases hh : has e q 2 with
 | true =>
  rw [hh] at CH
  have HR : Hid (aN e q = tell e q 4) := hide (by unfold aN; rw [hh]; rfl)
  clear h hh
  go_enter Tryz.func218, Tryz.ntmps218
  go_wp2_with (first | (go_at_call 214; refine CH.out.mono ?_; rintro _ w2 ⟨rfl, hb⟩; have HB := hide hb; have CT := hide (dT (HE.out.go hb) hq tag4); clear hb) | (go_at_call 213; refine CT.out.mono ?_; rintro _ w3 ⟨rfl, he, hf⟩; have Aa := hide he; have Ab := hide hf; clear he hf))
  go_end0
  exact ⟨rfl, by rw [HR.out]; exact Aa.out, (Fr.of_below HB.out).trans Ab.out⟩
 | false =>
  rw [hh] at CH
  have HR : Hid (aN e q = e) := hide (by unfold aN; rw [hh]; rfl)
  clear h hh
  go_enter Tryz.func218, Tryz.ntmps218
  go_wp2_with (go_at_call 214; refine CH.out.mono ?_; rintro _ w2 ⟨rfl, hb⟩; have HB := hide hb; clear hb)
  go_end0
  exact ⟨rfl, by rw [HR.out]; exact HE.out.go HB.out, Fr.of_below HB.out⟩
end
set_option maxRecDepth 100000
set_option maxHeartbeats 6400000
theorem su {w : World} {a : Option Addr} {l : List Int} {c : Nat} (h : At1 w a (au l)) (hl : l.length ≤ 140737488351232) (hp : l.Pairwise (· < ·)) (t : Int) {k0 : Nat} (hk0 : l[k0]? = some t) :
    Calls Tryz.prog 140 #[.slice a l.length c, .int .i64 t] w fun e w' => e = .returned (.tuple #[.int .i64 k0, .bool true]) ∧ w' = w := by
 have HA := hide h
 have HP := hide hp
 have Aa := hide hk0
 clear h hp hk0
 go_enter Tryz.func140, Tryz.ntmps140
 go_wp2_with fail
 go_loop [7, 8] (fun x y => ∃ (i j : Nat), x = .int .i64 i ∧ y = .int .i64 j ∧ i ≤ j ∧ j ≤ l.length ∧ Hid (Bs l t i j)) (fun x y => (intOf y).toNat - (intOf x).toNat)
 case atStart => exact ⟨0, l.length, rfl, rfl, by omega, by omega, hide ⟨by omega, by omega, fun m x hm => by omega, fun m x hm hx => by rw [List.getElem?_eq_none (by omega)] at hx; cases hx⟩⟩
 case round =>
  obtain ⟨i, j, rfl, rfl, Ab, Ad, HB⟩ := hrel
  by_cases hlt : i < j
  · obtain ⟨x, hx⟩ := an (l := l) (i := (i + j) / 2) (by omega)
    obtain ⟨g, of, rfl, kc⟩ := HA.out.get hx
    have HX := hide hx
    have CL := hide (rm x t w)
    clear hx
    by_cases hxt : x < t
    · have HN : Hid (Bs l t ((i + j) / 2 + 1) j) := hide ⟨by omega, HB.out.n, fun m y hm hy => by
       by_cases e : m = (i + j) / 2
       · subst e; rw [HX.out] at hy; cases hy; exact hxt
       · have := mS HP.out hy HX.out (by omega); omega, HB.out.hi⟩
      clear HX HB
      go_wp2_with (go_at_call 166; refine CL.out.mono ?_; rintro _ w1 ⟨rfl, hw⟩; subst w1)
      go_round
      case rel => exact ⟨(i + j) / 2 + 1, j, by go_num, rfl, by omega, by omega, HN⟩
      case measure => simp [intOf]; omega
    · have HN : Hid (Bs l t i ((i + j) / 2)) := hide ⟨by omega, by omega, HB.out.lo, fun m y hm hy => by
       by_cases e : m = (i + j) / 2
       · subst e; rw [HX.out] at hy; cases hy; omega
       · have := mS HP.out HX.out hy (by omega); omega⟩
      clear HX HB
      go_wp2_with (go_at_call 166; refine CL.out.mono ?_; rintro _ w1 ⟨rfl, hw⟩; subst w1)
      go_round
      case rel => exact ⟨i, (i + j) / 2, rfl, by go_num, by omega, by omega, HN⟩
      case measure => simp [intOf]; omega
  · have e : i = j := by omega
    subst e
    have HN : Hid (∀ (m : Nat) x, l[m]? = some x → x = t → m = i) := hide fun m x hm hx => by
     subst hx
     have h1 : ¬ m < i := fun h => by have := HB.out.lo m x h hm; omega
     by_cases h2 : m = i
     · exact h2
     · obtain ⟨y, hy⟩ := an (l := l) (i := i) (by have := (List.getElem?_eq_some_iff.1 hm).1; omega)
       have h3 := HB.out.hi i y (Nat.le_refl _) hy
       have h4 := mS HP.out hy hm (by omega)
       omega
    clear HB HP
    have ek : k0 = i := HN.out k0 t Aa.out rfl
    subst ek
    have Ac : k0 < l.length := (List.getElem?_eq_some_iff.1 Aa.out).1
    obtain ⟨g, of, rfl, kc⟩ := HA.out.get Aa.out
    clear HN hlt
    go_wp2_with fail
    go_ret2
    exact ⟨rfl, rfl⟩
def Tm (w : World) (p : Int → Bool) (D : Int → Prop) (v : Value) : Prop :=
 ∃ (k : Nat) (pre caps : Array Value), v = .func (.func k) pre caps ∧ (∀ args w', (callFunc k args).run Tryz.prog w' = .ok (.enter k args) w') ∧
  ∀ (x : Int) (w' : World), D x → Below w.heap.size w w' → Calls Tryz.prog k (pre ++ #[.int .i64 x] ++ caps) w' fun e w2 => e = .returned (.bool (p x)) ∧ Below w'.heap.size w' w2
section
variable {w : World} {p : Int → Bool} {D : Int → Prop} {v : Value} {l : List Int} {a : Option Addr} {c : Nat}
theorem wV (h : Tm w p D v) (hl : At1 w a (au l)) (hlim : l.length ≤ 140737488351232) (hin : ∀ x ∈ l, D x) :
    Calls Tryz.prog 240 #[.slice a l.length c, v] w fun e w' => ∃ i : Int, e = .returned (.int .i64 i) ∧ F3 (l.any p) i ∧ Below w.heap.size w w' := by
 obtain ⟨fn, Ae, Ad, rfl, hf, hc⟩ := h
 have HC := hide hc
 have HL := hide hl
 have Ac := hide hin
 obtain ⟨o, ho⟩ : ∃ o, l.any p = o := ⟨_, rfl⟩
 rw [ho]
 have HO : Hid ((l.drop 0).any p = o) := hide (by rw [List.drop_zero]; exact ho)
 clear hl hin ho hc
 go_enter Tryz.func240, Tryz.ntmps240
 go_wp2_with fail
 go_loopw [8] (fun x wr => ∃ k : Nat, k ≤ l.length ∧ x = .int .i64 k ∧ Hid ((l.drop k).any p = o) ∧ Hid (Below w.heap.size w wr)) (fun x _ => l.length - (intOf x).toNat)
 case atStart => exact ⟨0, by omega, rfl, HO, hide (Below.refl _ _)⟩
 case round =>
  clear HO
  obtain ⟨k, hk, rfl, HO, HB⟩ := hrel
  by_cases hlt : k < l.length
  · obtain ⟨x, hx⟩ := an hlt
    obtain ⟨g, gg, rfl, cx⟩ := (HL.out.below HB.out).get hx
    have C := hide (HC.out x wr (Ac.out x (List.mem_of_getElem? hx)) HB.out)
    cases hb : p x with
    | true =>
     have HE : Hid (o = true) := hide (by rw [← HO.out]; exact mU hx hb)
     rw [hb] at C
     clear hb hx HO
     go_wp2_with fail
     refine C.out.mono ?_
     rintro _ w2 ⟨rfl, Aa⟩
     have Ab := hide (HB.out.trans (Aa.mono HB.out.size))
     clear Aa
     go_wp2_with fail
     go_ret
     exact ⟨k, rfl, ⟨fun _ => by omega, fun e => by rw [HE.out] at e; cases e⟩, Ab.out⟩
    | false =>
     have HE : Hid ((l.drop (k + 1)).any p = o) := hide (by rw [← HO.out]; exact (mF hx hb).symm)
     rw [hb] at C
     clear hb hx HO
     go_wp2_with fail
     refine C.out.mono ?_
     rintro _ w2 ⟨rfl, Aa⟩
     have Ab := hide (HB.out.trans (Aa.mono HB.out.size))
     clear Aa
     go_wp2_with fail
     go_roundw
     case rel => exact ⟨k + 1, by omega, by go_num, HE, Ab⟩
     case measure => simp [intOf]; omega
  · have HE : Hid (o = false) := hide (by rw [← HO.out, cJ (by omega)]; rfl)
    go_wp2_with fail
    go_ret
    exact ⟨-1, rfl, ⟨fun e => absurd e (by rw [HE.out]; decide), fun _ => rfl⟩, HB.out⟩
theorem kg (h : Tm w p D v) (hl : At1 w a (au l)) (hlim : l.length ≤ 140737488351232) (hin : ∀ x ∈ l, D x) :
    Calls Tryz.prog 226 #[.slice a l.length c, v] w fun e w' => e = .returned (.bool (l.any p)) ∧ Below w.heap.size w w' := by
 have CI := hide (wV (c := c) h hl hlim hin)
 obtain ⟨fn, Ac, Ab, rfl, hf, hc⟩ := h
 obtain ⟨o, ho⟩ : ∃ o, l.any p = o := ⟨_, rfl⟩
 rw [ho] at CI ⊢
 clear hl hin ho hc
 go_enter Tryz.func226, Tryz.ntmps226
 cases o with
 | true =>
  go_wp2_with (go_at_call 240; refine CI.out.mono ?_; rintro _ w2 ⟨i, rfl, hi, hb⟩; have HB := hide hb; have Aa : 0 ≤ i := hi.1 rfl; have Ad : decide (0 ≤ i) = true := decide_eq_true Aa; clear hb hi)
  go_ret
  exact ⟨bS (by simp), HB.out⟩
 | false =>
  go_wp2_with (go_at_call 240; refine CI.out.mono ?_; rintro _ w2 ⟨i, rfl, hi, hb⟩; have HB := hide hb; have Aa : i = -1 := hi.2 rfl; subst Aa; clear hb hi)
  go_ret
  exact ⟨rfl, HB.out⟩
end
section
variable {T : Th} {F : List Int} {n : Nat}
theorem eQ (h : Pf T F n) {q : Nat} (hq : q < n) : (row T.foes q).Pairwise (· < ·) ∧ (row T.foes q).length ≤ 64 := by
 obtain ⟨l, hl⟩ := an (l := T.foes) (i := q) (by have := h.ok.fl; have := h.ln; omega)
 have := h.ok.foe q l hl
 rw [bE (by rw [Int.toNat_natCast]; exact hl)]
 exact ⟨(bW (by omega) this.2.1).2, this.1⟩
theorem lB (h : Pf T F n) {q : Nat} (hq : q < n) : (ak T q).Pairwise (· < ·) := (eQ h hq).1.filter _
theorem dw {l : List Int} (h : l.Pairwise (· < ·)) : l.Nodup := h.imp fun h => by omega
theorem ir (h : Pf T F n) {q : Nat} (hq : q < n) {p : Int} (hp : p ∈ ak T q) : 0 ≤ p ∧ p < (n : Int) := h.foe q hq p (List.mem_filter.1 hp).1
theorem dE (h : Pf T F n) {q : Nat} (hq : q < n) : (ak T q).length ≤ 64 := Nat.le_trans (List.length_filter_le _ _) (eQ h hq).2
theorem dp (h : Pf T F n) {r : Nat} (hr : r < T.rules.length) : ∃ x, T.rules[r]? = some x ∧ ah T r = x.head ∧ 0 ≤ x.head ∧ x.head < (n : Int) := by
 obtain ⟨x, hx⟩ := an hr
 have := h.head x (List.mem_of_getElem? hx)
 refine ⟨x, hx, ?_, this.1, this.2⟩
 unfold ah
 rw [Int.toNat_natCast, hx]
 rfl
end
section
variable {N : Nat} {S : Nat → Prop} {A : Ad} {T : Th} {F : List Int} {n : Nat} {e : Es} {tv : Value} {w w' : World}
theorem j6 {s k : Nat} {p : Int} (h : En N S A T F n e tv w) (hs : s < T.rules.length) (hp : (ak T (ah T s))[k]? = some p) :
    Calls Tryz.prog 209 #[aa A.K, .int .i64 p, .int .i64 s] w fun o w' => o = .returned (.int .i64 k) ∧ ∃ m, w' = w.drewN m := by
 have k2 := h.bx.get (i := 2) rfl
 have k6 := h.bx.get (i := 6) rfl
 obtain ⟨x, hx, Ac, Ad, Af⟩ := dp h.pf hs
 obtain ⟨gr, go, bd, bp, er, -, -, x1, -, -, -, -⟩ := en h.ro.ta.rules hx
 rw [er] at k2
 obtain ⟨hm, Ab⟩ := Int.eq_ofNat_of_zero_le Ad
 have Aa : hm < n := by omega
 rw [Ac, Ab] at hp
 rw [Ab] at x1
 obtain ⟨la, lc, cl, hA⟩ := h.ro.lv.at Aa
 have CF := hide fun d : Nat => su (w := w.drewN d) (c := lc) (show At1 (w.drewN d) la _ from hA) (by have := dE h.pf Aa; omega) (lB h.pf Aa) p hp
 have Ag : T.rules.length ≤ 4096 := h.pf.ok.rl
 clear h hx Ac Ab hA er Ad Af hp
 obtain ⟨ln, Ae⟩ : ∃ ln, (ak T (hm : Int)).length = ln := ⟨_, rfl⟩
 rw [Ae] at cl CF
 clear Ae
 go_enter Tryz.func209, Tryz.ntmps209
 go_upto_region 1 with fail
 go_quiet ((go_at_call 140; exact Calls.quiet_of_same (CF.out _)))
 go_wp2_with fail
 go_ret
 exact ⟨rfl, _, rfl⟩
end
set_option maxRecDepth 100000
set_option maxHeartbeats 6400000
theorem enters_go {P : Program} {f : FuncId} {fn : Func} (hf : P.funcs[f]? = some fn) (hn : (fn.name == "runtime.NumGoroutine") = false) (hb : fn.body.isNone = false) : ∀ args w, (callFunc f args).run P w = .ok (.enter f args) w := by
 intro args w
 have h1 : ¬ fn.name = "runtime.NumGoroutine" := by simpa using hn
 have h2 : ¬ fn.body = none := by
  intro e
  rw [e] at hb
  cases hb
 simp [callFunc, hf, h1, h2]
def bt (T : Th) (r : Int) : Prop := 0 ≤ r ∧ r < (T.rules.length : Int)
def dC (n : Nat) (x : Int) : Prop := 0 ≤ x ∧ x < (n : Int)
theorem ny {T : Th} {p : RuleM → Bool} {z x : Int} (h : x ∈ ag T p z) : bt T x := cj h
theorem gl {T : Th} {p : RuleM → Bool} {z : Int} : (ag T p z).length ≤ T.rules.length := bH
section
variable {N : Nat} {S : Nat → Prop} {A : Ad} {T : Th} {F : List Int} {n : Nat} {e : Es} {tv : Value} {w w' : World}
theorem zZ (h : En N S A T F n e tv w) : Tm w (used e) (bt T) (.func (.func 234) #[aa A.K] #[]) :=
 ⟨_, _, _, rfl, enters_go Tryz.func234 (by kernel_rfl) (by kernel_rfl), fun x w' hx hw => by
  obtain ⟨r, rfl⟩ := Int.eq_ofNat_of_zero_le hx.1
  exact (nS (h.go hw) (by have := hx.2; omega)).mono fun o w2 ⟨h1, h2⟩ => ⟨h1, by rw [h2]; exact Below.refl _ _⟩⟩
theorem jR {q : Nat} (h : Eg N S A T F n e w) (hq : q < n) :
    Calls Tryz.prog 215 #[aa A.K, .int .i64 q] w fun o w' => o = .returned (.tuple #[]) ∧ Eg N S A T F n (bF T e q) w' ∧ Fr (fun k => ¬ S k) w w' := by
 have HE := hide h
 obtain ⟨tv, h⟩ := h
 have Af := h.bx.get (i := 17) rfl
 have k5 := h.bx.get (i := 5) rfl
 have co := h.ob.get (bz hq)
 obtain ⟨la, lc, cl, hA⟩ := h.ro.lt.at hq
 have Ae : T.rules.length ≤ 4096 := h.pf.ok.rl
 have CC := hide (kg (c := lc) (zZ h) hA (by have := gl (T := T) (p := kT) (z := (q : Int)); omega) fun x hx => ny hx)
 obtain ⟨b, hb⟩ : ∃ b, (ag T kT (q : Int)).any (used e) = b := ⟨_, rfl⟩
 rw [hb] at CC
 obtain ⟨ln, Aa⟩ : ∃ ln, (ag T kT (q : Int)).length = ln := ⟨_, rfl⟩
 rw [Aa] at cl CC
 have HP : Hid (bF T e q = if decide (e.ob q = 0) && b then tell e q 3 else e) := hide (by unfold bF; rw [hb])
 generalize e.ob q = x at co HP
 clear h hA hb Aa
 by_cases hx : x = 0
 · have Ad : (x == 0) = true := by simpa using hx
   cases b with
   | true =>
    have HR : Hid (bF T e q = tell e q 3) := hide (by rw [HP.out, decide_eq_true hx]; rfl)
    clear hx HP
    go_enter Tryz.func215, Tryz.ntmps215
    go_wp2_with (first | (go_at_call 226; refine CC.out.mono ?_; rintro _ w2 ⟨rfl, hb⟩; have HB := hide hb; have CT := hide (dT (HE.out.go hb) hq tag3); clear hb) | (go_at_call 213; refine CT.out.mono ?_; rintro _ w3 ⟨rfl, he, hf⟩; have Ac := hide he; have Ab := hide hf; clear he hf))
    go_end0
    exact ⟨rfl, by rw [HR.out]; exact Ac.out, (Fr.of_below HB.out).trans Ab.out⟩
   | false =>
    have HR : Hid (bF T e q = e) := hide (by rw [HP.out, decide_eq_true hx]; rfl)
    clear hx HP
    go_enter Tryz.func215, Tryz.ntmps215
    go_wp2_with (go_at_call 226; refine CC.out.mono ?_; rintro _ w2 ⟨rfl, hb⟩; have HB := hide hb; clear hb)
    go_end0
    exact ⟨rfl, by rw [HR.out]; exact HE.out.go HB.out, Fr.of_below HB.out⟩
 · have Ad : (x == 0) = false := by simpa using hx
   have HR : Hid (bF T e q = e) := hide (by rw [HP.out, decide_eq_false hx]; rfl)
   clear hx HP
   go_enter Tryz.func215, Tryz.ntmps215
   go_wp2_with fail
   go_end0
   exact ⟨rfl, by rw [HR.out]; exact HE.out, Fr.refl _ _⟩
abbrev Bk (b K : Nat) (w : World) : Prop := Fx b 182 [aa K] w
theorem vB {r : Nat} {b : Nat} (h : En N S A T F n e tv w) (hb : Bk b A.K w) (hr : r < T.rules.length) :
    Calls Tryz.prog 242 #[.int .i64 r, aa b] w fun o w' => o = .returned (.bool (!dropped e r)) ∧ w' = w := by
 have C := hide (j7 h hr)
 have c1 := hb.get (i := 0) rfl
 generalize dropped e r = o at *
 clear h hb
 go_enter Tryz.func242, Tryz.ntmps242
 go_wp2_with (go_at_call 211; refine C.out.mono ?_; rintro _ w2 ⟨rfl, rfl⟩)
 go_ret
 exact ⟨rfl, rfl⟩
theorem vq {q : Nat} {b : Nat} (h : En N S A T F n e tv w) (hb : Bk b A.K w) (hq : q < n) :
    Calls Tryz.prog 243 #[.int .i64 q, aa b] w fun o w' => o = .returned (.bool (has e q 1)) ∧ Below w.heap.size w w' := by
 have C := hide (dH h hq tag1)
 have c1 := hb.get (i := 0) rfl
 generalize has e q 1 = o at *
 clear h hb
 go_enter Tryz.func243, Tryz.ntmps243
 go_wp2_with (go_at_call 214; refine C.out.mono ?_; rintro _ w2 ⟨rfl, Aa⟩; have HB := hide Aa; clear Aa)
 go_ret
 exact ⟨rfl, HB.out⟩
theorem zM {b : Nat} (h : En N S A T F n e tv w) (hb : Bk b A.K w) : Tm w (fun r => !dropped e r) (bt T) (.func (.func 242) #[] #[aa b]) :=
 ⟨_, _, _, rfl, enters_go Tryz.func242 (by kernel_rfl) (by kernel_rfl), fun x w' hx hw => by
  obtain ⟨r, rfl⟩ := Int.eq_ofNat_of_zero_le hx.1
  exact (vB (h.go hw) (hb.keep (hw.block _ hb.lt)) (by have := hx.2; omega)).mono fun o w2 ⟨h1, h2⟩ => ⟨h1, by rw [h2]; exact Below.refl _ _⟩⟩
theorem A6 {b : Nat} (h : En N S A T F n e tv w) (hb : Bk b A.K w) : Tm w (fun f => has e f 1) (dC n) (.func (.func 243) #[] #[aa b]) :=
 ⟨_, _, _, rfl, enters_go Tryz.func243 (by kernel_rfl) (by kernel_rfl), fun x w' hx hw => by
  obtain ⟨r, rfl⟩ := Int.eq_ofNat_of_zero_le hx.1
  exact vq (h.go hw) (hb.keep (hw.block _ hb.lt)) (by have := hx.2; omega)⟩
theorem wU {q : Nat} (h : En N S A T F n e tv w) (hq : q < n) :
    Calls Tryz.prog 235 #[aa A.K, .int .i64 q] w fun o w' => o = .returned (.bool (gQ T e q)) ∧ Below w.heap.size w w' := by
 have hB := ae w (.cells #[aa A.K] 182)
 have hF : Bk w.heap.size A.K (w.alloc (.cells #[aa A.K] 182)) := heap_alloc_new w _
 have hE := h.go hB
 have HB := hide hB
 have Ac : T.rules.length ≤ 4096 := h.pf.ok.rl
 clear h hB
 go_enter Tryz.func235, Tryz.ntmps235
 go_upto_region 1 with fail
 generalize w.alloc (.cells #[aa A.K] 182) = W at *
 have k5 := hE.bx.get (i := 5) rfl
 have c1 := hF.get (i := 0) rfl
 obtain ⟨la, lc, cl, hA⟩ := hE.ro.lt.at hq
 have CC := hide (kg (c := lc) (zM hE hF) hA (by have := gl (T := T) (p := kT) (z := (q : Int)); omega) fun x hx => ny hx)
 obtain ⟨b, hb⟩ : ∃ b, (ag T kT (q : Int)).any (fun r => !dropped e r) = b := ⟨_, rfl⟩
 have HR : Hid (gQ T e q = !b) := hide (by unfold gQ; rw [hb])
 rw [hb] at CC
 obtain ⟨ln, Aa⟩ : ∃ ln, (ag T kT (q : Int)).length = ln := ⟨_, rfl⟩
 rw [Aa] at cl CC
 clear hE hA hb Aa hF
 go_wp2_with (go_at_call 226; refine CC.out.mono ?_; rintro _ w2 ⟨rfl, hb⟩; have Ab := hide hb; clear hb)
 go_ret
 exact ⟨by rw [HR.out]; rfl, HB.out.trans (Ab.out.mono HB.out.size)⟩
theorem tr (h : En N S A T F n e tv w) {q : Nat} (hq : q < n) : ∃ l a c, row T.foes q = l ∧ T.foes[q]? = some l ∧ At1 w a (au l) ∧ l.length ≤ 64 ∧ (∀ x ∈ l, dC n x) ∧ q < T.foes.length ∧ ∃ g o, A.fa = some ⟨g, o, none⟩ ∧ w.cell? ⟨g, o + q, none⟩ = some (.slice a l.length c) := by
 obtain ⟨l, hl⟩ := an (l := T.foes) (i := q) (by have := h.pf.ok.fl; have := h.pf.ln; omega)
 have er : row T.foes (q : Int) = l := bE (by rw [Int.toNat_natCast]; exact hl)
 obtain ⟨g, o, a2, c2, e1, -, hc, -, -, hI⟩ := bY h.ro.ta.foes hl
 exact ⟨l, a2, c2, er, hl, hI.at1, by rw [← er]; exact (eQ h.pf hq).2, fun x hx => h.pf.foe q hq x (by rw [er]; exact hx), (List.getElem?_eq_some_iff.1 hl).1, g, o, e1, hc⟩
theorem nQ {q : Nat} (h : En N S A T F n e tv w) (hq : q < n) :
    Calls Tryz.prog 236 #[aa A.K, .int .i64 q] w fun o w' => o = .returned (.bool (jd T e q)) ∧ Below w.heap.size w w' := by
 have hB := ae w (.cells #[aa A.K] 182)
 have hF : Bk w.heap.size A.K (w.alloc (.cells #[aa A.K] 182)) := heap_alloc_new w _
 have hE := h.go hB
 have HB := hide hB
 clear h hB
 go_enter Tryz.func236, Tryz.ntmps236
 go_upto_region 1 with fail
 generalize w.alloc (.cells #[aa A.K] 182) = W at *
 have k1 := hE.bx.get (i := 1) rfl
 have c1 := hF.get (i := 0) rfl
 obtain ⟨l, la, lc, er, -, hA, Ac, Aa, Ae, g, o, e1, cl⟩ := tr hE hq
 rw [e1] at k1
 have CC := hide (kg (c := lc) (A6 hE hF) hA (by omega) Aa)
 obtain ⟨b, hb⟩ : ∃ b, l.any (fun f => has e f 1) = b := ⟨_, rfl⟩
 have HR : Hid (jd T e q = b) := hide (by unfold jd; rw [er]; exact hb)
 rw [hb] at CC
 obtain ⟨ln, Ab⟩ : ∃ ln, l.length = ln := ⟨_, rfl⟩
 rw [Ab] at cl CC
 clear hE hA hb Ab hF e1 er Aa Ac
 go_wp2_with (go_at_call 226; refine CC.out.mono ?_; rintro _ w2 ⟨rfl, hb⟩; have Ad := hide hb; clear hb)
 go_ret
 exact ⟨by rw [HR.out]; rfl, HB.out.trans (Ad.out.mono HB.out.size)⟩
end
set_option maxRecDepth 100000
set_option maxHeartbeats 6400000
section
variable {N : Nat} {S : Nat → Prop} {A : Ad} {T : Th} {F : List Int} {n : Nat} {e : Es} {tv : Value} {w w' : World}
theorem cU (h : Pf T F n) {q f : Int} (h0 : 0 ≤ q) (h1 : q < (n : Int)) (hf : f ∈ row T.foes q) : q ∈ row T.foes f := by
 obtain ⟨a, rfl⟩ := Int.eq_ofNat_of_zero_le h0
 obtain ⟨l, hl⟩ := an (l := T.foes) (i := a) (by have := h.ok.fl; have := h.ln; omega)
 rw [bE (by rw [Int.toNat_natCast]; exact hl)] at hf
 exact (h.ok.foe a l hl).2.2.2 f hf
theorem tZ {p : RuleM → Bool} {z : Int} {s : Nat} (h : (s : Int) ∈ ag T p z) : ah T s = z := by
 obtain ⟨a, r, e, hr, -, hh⟩ := cN.1 h
 have : s = a := by omega
 subst this
 unfold ah
 rw [Int.toNat_natCast, hr]
 exact hh
theorem cW {q p : Int} : p ∈ ak T q ↔ p ∈ row T.foes q ∧ ag T kT p ≠ [] := by
 unfold ak
 rw [List.mem_filter]
 simp
theorem nI (h : En N S A T F n e tv w) {s : Nat} (hs : s < T.rules.length) {p : Int} (hp : p ∈ ak T (ah T s)) : ∃ k : Nat, (ak T (ah T s))[k]? = some p ∧ k < (ak T (ah T s)).length ∧ (ak T (ah T s)).length ≤ 64 ∧ w.cell? ⟨A.cl, s, none⟩ = some (sl (A.cr s) (ak T (ah T s)).length) ∧ w.cell? ⟨A.cr s, k * 2, none⟩ = some (.int .i64 (e.cd s p)) ∧ w.cell? ⟨A.cr s, k * 2 + 1, none⟩ = some (.bool (e.cb s p)) := by
 obtain ⟨k, hk⟩ := List.mem_iff_getElem?.1 hp
 obtain ⟨x, -, Ac, Aa, Ad⟩ := dp h.pf hs
 obtain ⟨hm, Ab⟩ := Int.eq_ofNat_of_zero_le Aa
 refine ⟨k, hk, (List.getElem?_eq_some_iff.1 hk).1, ?_, h.ro.lx.get (by rw [List.getElem?_map, List.getElem?_range hs]; rfl), (h.cr s hs).get (gu hk).1, (h.cr s hs).get (gu hk).2⟩
 rw [Ac, Ab]
 exact dE h.pf (by omega)
theorem qK {q : Nat} (h : En N S A T F n e tv w) (hq : q < n) (ht : ag T kT (q : Int) ≠ []) :
    Calls Tryz.prog 237 #[aa A.K, .int .i64 q] w fun o w' => o = .returned (.bool (ja T e q)) ∧ Below w.heap.size w w' := by
 have k1 := h.bx.get (i := 1) rfl
 have k4 := h.bx.get (i := 4) rfl
 have Ay := h.bx.get (i := 16) rfl
 have AE := h.pf.n4
 have AF : T.rules.length ≤ 4096 := h.pf.ok.rl
 obtain ⟨l, la, lc, er, -, hA, AB, Al, AD, g, o, e1, cl⟩ := tr h hq
 rw [e1] at k1
 obtain ⟨b, hb⟩ : ∃ b, ja T e q = b := ⟨_, rfl⟩
 rw [hb]
 have HO : Hid ((l.drop 0).any (fun f => (ag T kA f).any fun s => used e s && decide (e.cd s q = 0)) = b) := hide (by rw [List.drop_zero, ← hb, ← er]; rfl)
 have HE := hide h
 have HA := hide hA
 have Aw := hide Al
 have Au : Hid (∀ f ∈ l, (q : Int) ∈ ak T f) := hide fun f hf => cW.2 ⟨cU h.pf (q := (q : Int)) (by omega) (by omega) (by rw [er]; exact hf), ht⟩
 clear h hA hb er Al e1
 go_enter Tryz.func237, Tryz.ntmps237
 go_wp2_with fail
 clear k1 cl
 go_loopw [19] (fun x wr => ∃ k : Nat, k ≤ l.length ∧ x = .int .i64 k ∧ Hid ((l.drop k).any (fun f => (ag T kA f).any fun s => used e s && decide (e.cd s q = 0)) = b) ∧ Hid (∃ d, wr = w.drewN d)) (fun x _ => l.length - (intOf x).toNat)
 case atStart => exact ⟨0, by omega, rfl, HO, hide ⟨0, rfl⟩⟩
 case round =>
  clear HO
  obtain ⟨k, hk, rfl, HO, HD⟩ := hrel
  by_cases hlt : k < l.length
  · obtain ⟨f, hf⟩ := an hlt
    obtain ⟨f0, f1⟩ := Aw.out f (List.mem_of_getElem? hf)
    obtain ⟨fm, rfl⟩ := Int.eq_ofNat_of_zero_le f0
    have Ar : fm < n := by omega
    have HEr : Hid (En N S A T F n e tv wr) := hide (by obtain ⟨d, hd⟩ := HD.out; rw [hd]; exact HE.out.drewN d)
    obtain ⟨gg, oo, rfl, cx⟩ := (show At1 wr la (au l) from by obtain ⟨d, hd⟩ := HD.out; rw [hd]; exact HA.out).get hf
    have r4 := HEr.out.bx.get (i := 4) rfl
    obtain ⟨ra, rc, cr, hR⟩ := HEr.out.ro.lr.at Ar
    obtain ⟨rl, Ab⟩ : ∃ rl, ag T kA (fm : Int) = rl := ⟨_, rfl⟩
    rw [Ab] at cr hR
    have Ax : rl.length ≤ 4096 := by rw [← Ab]; have := gl (T := T) (p := kA) (z := (fm : Int)); omega
    have Am : Hid (∀ s ∈ rl, ∃ sm : Nat, s = (sm : Int) ∧ sm < T.rules.length ∧ ah T sm = (fm : Int)) := hide fun s hs => by
     rw [← Ab] at hs
     obtain ⟨s0, s1⟩ := ny hs
     obtain ⟨sm, rfl⟩ := Int.eq_ofNat_of_zero_le s0
     exact ⟨sm, rfl, by omega, tZ hs⟩
    have An : Hid ((q : Int) ∈ ak T (fm : Int)) := hide (Au.out _ (List.mem_of_getElem? hf))
    obtain ⟨o2, Ae⟩ : ∃ o2, rl.any (fun s => used e s && decide (e.cd s q = 0)) = o2 := ⟨_, rfl⟩
    have Aa : Hid ((rl.drop 0).any (fun s => used e s && decide (e.cd s q = 0)) = o2) := hide (by rw [List.drop_zero]; exact Ae)
    have HY : Hid (o2 = true → b = true) := hide fun ht2 => by
     rw [← HO.out]
     exact mU hf (by show (ag T kA (fm : Int)).any _ = true; rw [Ab, Ae]; exact ht2)
    have Ao : Hid (o2 = false → (l.drop (k + 1)).any (fun f => (ag T kA f).any fun s => used e s && decide (e.cd s q = 0)) = b) := hide fun ht2 => by
     rw [← HO.out]
     exact (mF hf (by show (ag T kA (fm : Int)).any _ = false; rw [Ab, Ae]; exact ht2)).symm
    have HR := hide hR
    clear hf f0 f1 Ab Ae HO hR
    go_wp2_with fail
    clear cx r4 cr
    have Ai := hide HD.out
    clear HD HEr
    go_loopw [32] (fun x wz => ∃ j : Nat, j ≤ rl.length ∧ x = .int .i64 j ∧ Hid ((rl.drop j).any (fun s => used e s && decide (e.cd s q = 0)) = o2) ∧ Hid (∃ d, wz = w.drewN d)) (fun x _ => rl.length - (intOf x).toNat)
    case atStart => exact ⟨0, by omega, rfl, Aa, hide Ai.out⟩
    case round =>
     clear Aa
     rename World => wz
     obtain ⟨j, hj, rfl, Aa, HD⟩ := hrel
     by_cases hjl : j < rl.length
     · obtain ⟨s, hs⟩ := an hjl
       obtain ⟨sm, rfl, Ag, Ak⟩ := Am.out s (List.mem_of_getElem? hs)
       have Ad : En N S A T F n e tv wz := by obtain ⟨d, hd⟩ := HD.out; rw [hd]; exact HE.out.drewN d
       obtain ⟨AC, Az, rfl, cy⟩ := (show At1 wz ra (au rl) from by obtain ⟨d, hd⟩ := HD.out; obtain ⟨d2, As⟩ := Ai.out; rw [hd]; rw [As] at HR; exact HR.out).get hs
       obtain ⟨p, hp, At, Ap, c1, c2, -⟩ := nI Ad Ag (p := (q : Int)) (by rw [Ak]; exact An.out)
       have AA := Ad.bx.get (i := 16) rfl
       have CU := hide fun d : Nat => nS (Ad.drewN d) Ag
       have CP := hide fun d : Nat => j6 (Ad.drewN d) Ag hp
       obtain ⟨Aj, Af⟩ : ∃ Aj, (ak T (ah T (sm : Int))).length = Aj := ⟨_, rfl⟩
       rw [Af] at c1 At Ap
       obtain ⟨u, hu⟩ : ∃ u, used e (sm : Int) = u := ⟨_, rfl⟩
       rw [hu] at CU
       obtain ⟨v, hv⟩ : ∃ v, e.cd (sm : Int) q = v := ⟨_, rfl⟩
       rw [hv] at c2
       have Ac : Hid ((used e (sm : Int) && decide (e.cd (sm : Int) q = 0)) = (u && decide (v = 0))) := hide (by rw [hu, hv])
       have HS := hide hs
       clear hs Ad hp Af hu hv Ak
       cases u with
       | false =>
        have Ah : Hid ((rl.drop (j + 1)).any (fun s => used e s && decide (e.cd s q = 0)) = o2) := hide (by rw [← Aa.out]; exact (mF HS.out (by rw [Ac.out]; rfl)).symm)
        clear Aa Ac HS
        go_upto_region 7 with fail
        go_quiet ((go_at_call 234; exact Calls.quiet_of_same (CU.out _)))
        clear CU CP
        go_wp2_with fail
        go_roundw
        case rel => exact ⟨j + 1, by omega, by go_num, Ah, hide (by obtain ⟨d, hd⟩ := HD.out; exact ⟨_, by rw [hd, World.drewN_drewN]⟩)⟩
        case measure => simp [intOf]; omega
       | true =>
        by_cases hv0 : v = 0
        · have Aq : (v == 0) = true := by simpa using hv0
          have HT : Hid (b = true) := hide (HY.out (by rw [← Aa.out]; exact mU HS.out (by rw [Ac.out, decide_eq_true hv0]; rfl)))
          clear Aa Ac HS hv0
          go_upto_region 7 with fail
          go_quiet (first | (go_at_call 234; exact Calls.quiet_of_same (CU.out _)) | (go_at_call 209; exact Calls.quiet_of (CP.out _)))
          clear CU CP
          go_wp2_with fail
          go_ret
          exact ⟨by rw [HT.out]; rfl, by obtain ⟨d, hd⟩ := HD.out; rw [hd, World.drewN_drewN]; exact aj w _⟩
        · have Aq : (v == 0) = false := by simpa using hv0
          have Ah : Hid ((rl.drop (j + 1)).any (fun s => used e s && decide (e.cd s q = 0)) = o2) := hide (by rw [← Aa.out]; exact (mF HS.out (by rw [Ac.out, decide_eq_false hv0]; rfl)).symm)
          clear Aa Ac HS hv0
          go_upto_region 7 with fail
          go_quiet (first | (go_at_call 234; exact Calls.quiet_of_same (CU.out _)) | (go_at_call 209; exact Calls.quiet_of (CP.out _)))
          clear CU CP
          go_wp2_with fail
          go_roundw
          case rel => exact ⟨j + 1, by omega, by go_num, Ah, hide (by obtain ⟨d, hd⟩ := HD.out; exact ⟨_, by rw [hd, World.drewN_drewN]⟩)⟩
          case measure => simp [intOf]; omega
     · have HN : Hid (o2 = false) := hide (by rw [← Aa.out, cJ (by omega)]; rfl)
       have Av := hide (Ao.out HN.out)
       go_wp2_with fail
       go_roundw
       case rel => exact ⟨k + 1, by omega, by go_num, Av, HD⟩
       case measure => simp [intOf]; omega
  · have HN : Hid (b = false) := hide (by rw [← HO.out, cJ (by omega)]; rfl)
    go_wp2_with fail
    go_ret
    exact ⟨by rw [HN.out]; rfl, by obtain ⟨d, hd⟩ := HD.out; rw [hd]; exact aj w _⟩
theorem gI {q : Nat} (h : Eg N S A T F n e w) (hq : q < n) :
    Calls Tryz.prog 216 #[aa A.K, .int .i64 q] w fun o w' => o = .returned (.tuple #[]) ∧ Eg N S A T F n (aJ T e q) w' ∧ Fr (fun k => ¬ S k) w w' := by
 have HE := hide h
 obtain ⟨tv, h⟩ := h
 have CF := hide (wU h hq)
 have HEn := hide h
 cases hf : gQ T e q with
 | true =>
  have HR : Hid (aJ T e q = aN e q) := hide (by unfold aJ; rw [hf]; rfl)
  rw [hf] at CF
  clear h hf
  go_enter Tryz.func216, Tryz.ntmps216
  go_wp2_with (first | (go_at_call 235; refine CF.out.mono ?_; rintro _ w2 ⟨rfl, hb⟩; have HB := hide hb; have CT := hide (gh (HE.out.go hb) hq); clear hb) | (go_at_call 218; refine CT.out.mono ?_; rintro _ w3 ⟨rfl, he, hf⟩; have Ab := hide he; have Ae := hide hf; clear he hf))
  go_end0
  exact ⟨rfl, by rw [HR.out]; exact Ab.out, (Fr.of_below HB.out).trans Ae.out⟩
 | false =>
  have ht : ag T kT (q : Int) ≠ [] := fun e0 => by
   unfold gQ at hf
   rw [e0] at hf
   cases hf
  have HT := hide ht
  cases hr : jd T e q with
  | true =>
   have HR : Hid (aJ T e q = aN e q) := hide (by unfold aJ; rw [hf, hr]; rfl)
   rw [hf] at CF
   have Ac := hide hr
   clear h hf ht hr
   go_enter Tryz.func216, Tryz.ntmps216
   go_wp2_with (first | (go_at_call 235; refine CF.out.mono ?_; rintro _ w2 ⟨rfl, hb⟩; have HB := hide hb; have CR := hide (nQ (HEn.out.go hb) hq); rw [Ac.out] at CR; clear hb) | (go_at_call 236; refine CR.out.mono ?_; rintro _ w3 ⟨rfl, hb⟩; have Aa := hide (HB.out.trans (hb.mono HB.out.size)); have CT := hide (gh (HE.out.go Aa.out) hq); clear hb) | (go_at_call 218; refine CT.out.mono ?_; rintro _ w4 ⟨rfl, he, hf⟩; have Ab := hide he; have Ae := hide hf; clear he hf))
   go_end0
   exact ⟨rfl, by rw [HR.out]; exact Ab.out, (Fr.of_below Aa.out).trans Ae.out⟩
  | false =>
   cases ho : ja T e q with
   | true =>
    have HR : Hid (aJ T e q = aN e q) := hide (by unfold aJ; rw [hf, hr, ho]; rfl)
    rw [hf] at CF
    have Ac := hide hr
    have Af := hide ho
    clear h hf ht hr ho
    go_enter Tryz.func216, Tryz.ntmps216
    go_wp2_with (first | (go_at_call 235; refine CF.out.mono ?_; rintro _ w2 ⟨rfl, hb⟩; have HB := hide hb; have CR := hide (nQ (HEn.out.go hb) hq); rw [Ac.out] at CR; clear hb) | (go_at_call 236; refine CR.out.mono ?_; rintro _ w3 ⟨rfl, hb⟩; have Aa := hide (HB.out.trans (hb.mono HB.out.size)); have CO := hide (qK (HEn.out.go Aa.out) hq HT.out); rw [Af.out] at CO; clear hb) | (go_at_call 237; refine CO.out.mono ?_; rintro _ w4 ⟨rfl, hb⟩; have Ad := hide (Aa.out.trans (hb.mono Aa.out.size)); have CT := hide (gh (HE.out.go Ad.out) hq); clear hb) | (go_at_call 218; refine CT.out.mono ?_; rintro _ w5 ⟨rfl, he, hf⟩; have Ab := hide he; have Ae := hide hf; clear he hf))
    go_end0
    exact ⟨rfl, by rw [HR.out]; exact Ab.out, (Fr.of_below Ad.out).trans Ae.out⟩
   | false =>
    have HR : Hid (aJ T e q = e) := hide (by unfold aJ; rw [hf, hr, ho]; rfl)
    rw [hf] at CF
    have Ac := hide hr
    have Af := hide ho
    clear h hf ht hr ho
    go_enter Tryz.func216, Tryz.ntmps216
    go_wp2_with (first | (go_at_call 235; refine CF.out.mono ?_; rintro _ w2 ⟨rfl, hb⟩; have HB := hide hb; have CR := hide (nQ (HEn.out.go hb) hq); rw [Ac.out] at CR; clear hb) | (go_at_call 236; refine CR.out.mono ?_; rintro _ w3 ⟨rfl, hb⟩; have Aa := hide (HB.out.trans (hb.mono HB.out.size)); have CO := hide (qK (HEn.out.go Aa.out) hq HT.out); rw [Af.out] at CO; clear hb) | (go_at_call 237; refine CO.out.mono ?_; rintro _ w4 ⟨rfl, hb⟩; have Ad := hide (Aa.out.trans (hb.mono Aa.out.size)); clear hb))
    go_end0
    exact ⟨rfl, by rw [HR.out]; exact HE.out.go Ad.out, Fr.of_below Ad.out⟩
end
set_option maxRecDepth 100000
set_option maxHeartbeats 6400000
section
variable {N : Nat} {S : Nat → Prop} {A : Ad} {T : Th} {F : List Int} {n : Nat} {e : Es} {tv : Value} {w w' : World}
theorem LL.stay {L : Int → List Int} {b : Nat} (h : LL S L n b w) {i : Nat} (hi : i < n) : ∃ a c, w.cell? ⟨b, i, none⟩ = some (.slice a (L i).length c) ∧ ∀ w' : World, (∀ k, S k → w'.heap[k]? = w.heap[k]?) → At1 w' a (au (L i)) := by
 obtain ⟨_, vs, hf, hl, h⟩ := h
 obtain ⟨a, c, h1, h2, h3⟩ := h i hi
 refine ⟨a, c, hf.get h1, fun w' hk j v hj => ?_⟩
 obtain ⟨g, o, e, hc⟩ := h2 j v hj
 refine ⟨g, o, e, (World.cell?_of_block (hk g (h3 g o e fun e2 => ?_))).trans hc⟩
 rw [e2] at hj
 simp [au] at hj
theorem En.stay (h : En N S A T F n e tv w) (hf : Fr (fun k => ¬ S k) w w') : ∀ k, S k → w'.heap[k]? = w.heap[k]? := fun k hk => hf.block k (h.kp k hk).1 fun hn => hn hk
theorem jW (h : En N S A T F n e tv w) {r : Nat} (hr : r < T.rules.length) : ∃ (hm g o : Nat), ah T r = (hm : Int) ∧ hm < n ∧ A.ra = some ⟨g, o, none⟩ ∧ ∀ w' : World, (∀ k, S k → w'.heap[k]? = w.heap[k]?) → w'.cell? ⟨g, o + r * 3 + 1, none⟩ = some (.int .i64 hm) := by
 obtain ⟨x, hx, Ac, Ab, Ad⟩ := dp h.pf hr
 obtain ⟨hm, Aa⟩ := Int.eq_ofNat_of_zero_le Ab
 obtain ⟨gr, go, bd, bp, er, hg, -, x1, -, -, -, -⟩ := en h.ro.ta.rules hx
 exact ⟨hm, gr, go, by rw [Ac, Aa], by omega, er, fun w' hk => by rw [World.cell?_of_block (hk gr (h.ro.n0 gr hg)), x1, Aa]⟩
theorem oz (h : En N S A T F n e tv w) {r : Nat} (hr : r < T.rules.length) : ∃ l a c g o, row T.beats r = l ∧ A.ba = some ⟨g, o, none⟩ ∧ r < T.beats.length ∧ l.length ≤ 4096 ∧ w.cell? ⟨g, o + r, none⟩ = some (.slice a l.length c) ∧ (∀ s ∈ l, ∃ sm : Nat, s = (sm : Int) ∧ sm < T.rules.length ∧ ah T s ∈ row T.foes (ah T r)) ∧ l.Nodup ∧ ∀ w' : World, (∀ k, S k → w'.heap[k]? = w.heap[k]?) → At1 w' a (au l) := by
 have Af := h.pf.ok.bl
 obtain ⟨l, hl⟩ := an (l := T.beats) (i := r) (by omega)
 have er : row T.beats (r : Int) = l := bE (by rw [Int.toNat_natCast]; exact hl)
 obtain ⟨g, o, a2, c2, e1, -, hc, -, -, hI⟩ := bY h.ro.ta.beats hl
 obtain ⟨Ad, Ac⟩ := h.pf.ok.beat r l hl
 obtain ⟨Aa, Ab⟩ := bW (by omega) Ad
 have Ag := h.pf.ok.rl
 have Ae : l.length ≤ T.rules.length := by
  have h2 : (l.map Int.toNat).Nodup := jS (dw Ab) fun x hx y hy hxy => by have := (Aa x hx).1; have := (Aa y hy).1; omega
  have := iR (N := T.rules.length) h2 fun k hk => by
   obtain ⟨x, hx, rfl⟩ := List.mem_map.1 hk
   have := Aa x hx
   omega
  simpa using this
 refine ⟨l, a2, c2, g, o, er, e1, (List.getElem?_eq_some_iff.1 hl).1, by omega, hc, fun s hs => ?_, dw Ab, fun w' hk => (Ints.keep (fun g hg => hk g (h.ro.n0 g hg)) hI).at1⟩
 obtain ⟨s0, s1⟩ := Aa s hs
 obtain ⟨sm, rfl⟩ := Int.eq_ofNat_of_zero_le (show 0 ≤ s by omega)
 exact ⟨sm, rfl, by omega, Ac _ hs⟩
theorem kU {r : Nat} (ht : aW T r = true) : (r : Int) ∈ ag T kT (ah T r) := by
 unfold aW at ht
 rw [Int.toNat_natCast] at ht
 cases hR : T.rules[r]? with
 | none => rw [hR] at ht; cases ht
 | some x =>
  rw [hR] at ht
  refine cN.2 ⟨r, x, rfl, hR, ht, ?_⟩
  unfold ah
  rw [Int.toNat_natCast, hR]
  rfl
theorem gE (h : Pf T F n) {r : Nat} (hr : r < T.rules.length) (ht : aW T r = true) {s : Int} (hs : ah T s ∈ row T.foes (ah T r)) : ah T r ∈ ak T (ah T s) := by
 obtain ⟨x, hx, Aa, Ab, Ac⟩ := dp h hr
 refine cW.2 ⟨cU h (by rw [Aa]; exact Ab) (by rw [Aa]; exact Ac) hs, fun e0 => ?_⟩
 have := kU ht
 rw [e0] at this
 cases this
theorem dF {α : Type} {f : Es → α → Es} {e : Es} {l : List α} {k : Nat} {x : α} (hx : l[k]? = some x) : (l.take (k + 1)).foldl f e = f ((l.take k).foldl f e) x := by rw [bU hx, List.foldl_append]; rfl
theorem jT (h : Pf T F n) {s : Nat} (hs : s < T.rules.length) : (ak T (ah T s)).Nodup := by
 obtain ⟨x, -, Ac, Aa, Ad⟩ := dp h hs
 obtain ⟨hm, Ab⟩ := Int.eq_ofNat_of_zero_le Aa
 rw [Ac, Ab]
 exact dw (lB h (by omega))
theorem oS {r : Nat} (h : Eg N S A T F n e w) (hr : r < T.rules.length) (ht : aW T r = true) :
    Calls Tryz.prog 179 #[aa A.K, .int .i64 r] w fun o w' => o = .returned (.tuple #[]) ∧ Eg N S A T F n (defendE T e r) w' ∧ Fr (fun k => ¬ S k) w w' := by
 have Aw := hide h
 obtain ⟨tv, h⟩ := h
 have HE := hide h
 have AF : T.rules.length ≤ 4096 := h.pf.ok.rl
 obtain ⟨hm, gr, go, hh, Az, er, An⟩ := jW h hr
 have x1 := An w fun _ _ => rfl
 obtain ⟨l, la, lc, gb, ob, el, eb, AC, AE, cb, Am, -, Ao⟩ := oz h hr
 have k2 := h.bx.get (i := 2) rfl
 have k3 := h.bx.get (i := 3) rfl
 rw [er] at k2
 rw [eb] at k3
 have Ay := hide Am
 have AA := hide Ao
 have Ar : Hid (∀ s : Nat, (s : Int) ∈ l → s < T.rules.length ∧ (hm : Int) ∈ ak T (ah T s)) := hide fun s hs => by
  obtain ⟨sm, e1, h1, h2⟩ := Am s hs
  have : s = sm := by omega
  subst this
  refine ⟨h1, ?_⟩
  have := gE h.pf hr ht h2
  rw [hh] at this
  exact this
 have HR : Hid (defendE T e r = l.foldl (beat1 (hm : Int)) e) := hide (by unfold defendE; rw [el, hh])
 clear h An Am Ao er eb el hh ht
 go_enter Tryz.func179, Tryz.ntmps179
 go_wp2_with fail
 clear k2 k3 cb x1
 go_loopw [28] (fun x wr => ∃ k : Nat, k ≤ l.length ∧ x = .int .i64 k ∧ Hid (Eg N S A T F n ((l.take k).foldl (beat1 (hm : Int)) e) wr) ∧ Hid (Fr (fun k => ¬ S k) w wr)) (fun x _ => l.length - (intOf x).toNat)
 case atStart => exact ⟨0, by omega, rfl, hide Aw.out, hide (Fr.refl _ _)⟩
 case round =>
  obtain ⟨k, hk, rfl, HEr, HFr⟩ := hrel
  by_cases hlt : k < l.length
  · obtain ⟨s0, hs⟩ := an hlt
    obtain ⟨s, rfl, Ab, -⟩ := Ay.out s0 (List.mem_of_getElem? hs)
    obtain ⟨-, Ai⟩ := Ar.out s (List.mem_of_getElem? hs)
    obtain ⟨gx, ox, rfl, cx⟩ := (AA.out wr (HE.out.stay HFr.out)).get hs
    have Ah : Hid ((l.take (k + 1)).foldl (beat1 (hm : Int)) e = beat1 (hm : Int) ((l.take k).foldl (beat1 (hm : Int)) e) s) := hide (dF hs)
    clear hs
    generalize (l.take k).foldl (beat1 (hm : Int)) e = e1 at HEr Ah
    obtain ⟨Ak, Aa⟩ := HEr.out
    clear HEr
    obtain ⟨p, hp, Ax, As, c1, -, c3⟩ := nI Aa Ab Ai
    have Ae := jT Aa.pf Ab
    have AB := Aa.bx.get (i := 16) rfl
    have CP := hide fun d : Nat => j6 (Aa.drewN d) Ab hp
    obtain ⟨Ap, Ad⟩ : ∃ Ap, (ak T (ah T (s : Int))).length = Ap := ⟨_, rfl⟩
    rw [Ad] at c1 Ax As
    have Av := hide Aa
    have HP := hide hp
    have AD := hide Ae
    cases hcb : e1.cb s hm with
    | true =>
     have HT : Hid (beat1 (hm : Int) e1 s = e1) := hide (by unfold beat1; rw [hcb]; rfl)
     rw [hcb] at c3
     clear hcb Aa hp Ae Ai Ad
     go_upto_region 4 with fail
     go_quiet ((go_at_call 209; exact Calls.quiet_of (CP.out _)))
     go_wp2_with fail
     go_roundw
     case rel => exact ⟨k + 1, by omega, by go_num, hide (by rw [Ah.out, HT.out]; exact ⟨Ak, Av.out.drewN _⟩), hide (HFr.out.trans (Fr.of_below (aj wr _)))⟩
     case measure => simp [intOf]; omega
    | false =>
     rw [hcb] at c3
     have Ac := fun d : Nat => (Aa.drewN d).setCb Ab hp Ae true
     have Ag := hide fun d : Nat => (Ac d).1.setUp (aH e1.up)
     have Aq := hide fun d : Nat => ((Fr.of_below (Z := fun k => ¬ S k) (aj wr d)).trans (Ac d).2).trans (Ag.out d).2
     have CS := hide fun d : Nat => np (w := wr.drewN d) (K := A.K) (g := A.cr s) (i := p * 2 + 1) (v := true) (x := .bool false) c3 ((Aa.drewN d |>.cr s Ab).frz _) ((Ac d).1.bx.get (i := 21) rfl) ((Ac d).1.bx.frz 21)
     cases hdr : dropped e1 s with
     | true =>
      have HT : Hid (beat1 (hm : Int) e1 s = { e1 with cb := ar e1.cb s (ar (e1.cb s) hm true), up := aH e1.up }) := hide (by
       unfold beat1
       rw [hcb, if_neg (by decide)]
       have : dropped { e1 with cb := ar e1.cb s (ar (e1.cb s) hm true), up := aH e1.up } s = true := hdr
       show (if dropped { e1 with cb := ar e1.cb s (ar (e1.cb s) hm true), up := aH e1.up } s then _ else _) = _
       rw [if_pos this])
      have CD := hide fun d : Nat => j7 (Ag.out d).1 Ab
      have Al : Hid (dropped { e1 with cb := ar e1.cb s (ar (e1.cb s) hm true), up := aH e1.up } s = true) := hide hdr
      clear hcb Aa hp Ae Ai Ad Ac hdr
      go_upto_region 4 with fail
      go_quiet ((go_at_call 209; exact Calls.quiet_of (CP.out _)))
      go_wp2_with (first | (go_at_call 210; refine (CS.out _).mono ?_; rintro _ w2 ⟨rfl, rfl⟩) | (go_at_call 211; refine (CD.out _).mono ?_; rintro _ w3 ⟨Af, rfl⟩; have Aj := Af.trans (by rw [Al.out]); subst Aj; clear Af))
      go_roundw
      case rel => exact ⟨k + 1, by omega, by go_num, hide (by rw [Ah.out, HT.out]; exact ⟨Ak, (Ag.out _).1⟩), hide (HFr.out.trans (Aq.out _))⟩
      case measure => simp [intOf]; omega
     | false =>
      have HT : Hid (beat1 (hm : Int) e1 s = cT { e1 with cb := ar e1.cb s (ar (e1.cb s) hm true), up := aH e1.up } hm) := hide (by
       unfold beat1
       rw [hcb, if_neg (by decide)]
       have : dropped { e1 with cb := ar e1.cb s (ar (e1.cb s) hm true), up := aH e1.up } s = false := hdr
       show (if dropped { e1 with cb := ar e1.cb s (ar (e1.cb s) hm true), up := aH e1.up } s then _ else _) = _
       rw [this, if_neg (by decide)])
      have CD := hide fun d : Nat => j7 (Ag.out d).1 Ab
      have Al : Hid (dropped { e1 with cb := ar e1.cb s (ar (e1.cb s) hm true), up := aH e1.up } s = false) := hide hdr
      have CC := hide fun d : Nat => mC (Ag.out d).1 Az
      clear hcb Aa hp Ae Ai Ad Ac hdr
      go_upto_region 4 with fail
      go_quiet ((go_at_call 209; exact Calls.quiet_of (CP.out _)))
      go_wp2_with (first | (go_at_call 210; refine (CS.out _).mono ?_; rintro _ w2 ⟨rfl, rfl⟩) | (go_at_call 211; refine (CD.out _).mono ?_; rintro _ w3 ⟨Af, rfl⟩; have Aj := Af.trans (by rw [Al.out]); subst Aj; clear Af) | (go_at_call 212; refine (CC.out _).mono ?_; rintro _ w4 ⟨rfl, he, hf⟩; have Au := hide he; have At := hide ((Aq.out _).trans hf); clear he hf))
      go_roundw
      case rel => exact ⟨k + 1, by omega, by go_num, hide (by rw [Ah.out, HT.out]; exact ⟨Ak, Au.out⟩), hide (HFr.out.trans At.out)⟩
      case measure => simp [intOf]; omega
  · have HL : Hid (l.take k = l) := hide (List.take_of_length_le (by omega))
    go_wp2_with fail
    go_end0
    exact ⟨rfl, by rw [HR.out]; have := HEr.out; rw [HL.out] at this; exact this, HFr.out⟩
end
set_option maxRecDepth 100000
set_option maxHeartbeats 6400000
section
variable {N : Nat} {S : Nat → Prop} {A : Ad} {T : Th} {F : List Int} {n : Nat} {e : Es} {tv : Value} {w w' : World}
theorem rg {r : Nat} (h : Eg N S A T F n e w) (hr : r < T.rules.length) (ht : aW T r = true) :
    Calls Tryz.prog 238 #[aa A.K, .int .i64 r] w fun o w' => o = .returned (.tuple #[]) ∧ Eg N S A T F n (withE T e r) w' ∧ Fr (fun k => ¬ S k) w w' := by
 have Ax := hide h
 obtain ⟨tv, h⟩ := h
 have HE := hide h
 have AH : T.rules.length ≤ 4096 := h.pf.ok.rl
 obtain ⟨hm, gr, go, hh, AA, er, Am⟩ := jW h hr
 have x1 := Am w fun _ _ => rfl
 obtain ⟨l, la, lc, gb, ob, el, eb, AD, AG, cb, Aj, -, An⟩ := oz h hr
 have k2 := h.bx.get (i := 2) rfl
 have k3 := h.bx.get (i := 3) rfl
 rw [er] at k2
 rw [eb] at k3
 have Az := hide Aj
 have AB := hide An
 have Ar : Hid (∀ s : Nat, (s : Int) ∈ l → s < T.rules.length ∧ (hm : Int) ∈ ak T (ah T s)) := hide fun s hs => by
  obtain ⟨sm, e1, h1, h2⟩ := Aj s hs
  have : s = sm := by omega
  subst this
  refine ⟨h1, ?_⟩
  have := gE h.pf hr ht h2
  rw [hh] at this
  exact this
 have HR : Hid (withE T e r = l.foldl (with1 (hm : Int)) e) := hide (by unfold withE; rw [el, hh])
 clear h Am Aj An er eb el hh ht
 go_enter Tryz.func238, Tryz.ntmps238
 go_wp2_with fail
 clear k2 k3 cb x1
 have AC : Tryz.prog.follows .mixedOrders = true := by kernel_rfl
 go_loopw [28] (fun x wr => ∃ k : Nat, k ≤ l.length ∧ x = .int .i64 k ∧ Hid (Eg N S A T F n ((l.take k).foldl (with1 (hm : Int)) e) wr) ∧ Hid (Fr (fun k => ¬ S k) w wr)) (fun x _ => l.length - (intOf x).toNat)
 case atStart => exact ⟨0, by omega, rfl, hide Ax.out, hide (Fr.refl _ _)⟩
 case round =>
  obtain ⟨k, hk, rfl, HEr, HFr⟩ := hrel
  by_cases hlt : k < l.length
  · obtain ⟨s0, hs⟩ := an hlt
    obtain ⟨s, rfl, Ab, -⟩ := Az.out s0 (List.mem_of_getElem? hs)
    obtain ⟨-, Ao⟩ := Ar.out s (List.mem_of_getElem? hs)
    obtain ⟨gx, ox, rfl, cx⟩ := (AB.out wr (HE.out.stay HFr.out)).get hs
    have Ad : Hid ((l.take (k + 1)).foldl (with1 (hm : Int)) e = with1 (hm : Int) ((l.take k).foldl (with1 (hm : Int)) e) s) := hide (dF hs)
    clear hs
    generalize (l.take k).foldl (with1 (hm : Int)) e = e1 at HEr Ad
    obtain ⟨Al, Aa⟩ := HEr.out
    clear HEr
    obtain ⟨p, hp, Ay, At, c1, c2, -⟩ := nI Aa Ab Ao
    have Ah := jT Aa.pf Ab
    have Au := Aa.bx.get (i := 16) rfl
    have CP := hide fun d : Nat => j6 (Aa.drewN d) Ab hp
    obtain ⟨Ap, Ag⟩ : ∃ Ap, (ak T (ah T (s : Int))).length = Ap := ⟨_, rfl⟩
    rw [Ag] at c1 Ay At
    obtain ⟨v', hv'⟩ : ∃ v', IntKind.i64.wrap (e1.cd s hm - 1) = v' := ⟨_, rfl⟩
    have HV : Hid (dt (e1.cd s hm) = v') := hide hv'
    have AE := hide Aa
    have HP := hide hp
    have AF := hide Ah
    obtain ⟨e2, Af⟩ : ∃ e2 : Es, e2 = { e1 with cd := ar e1.cd s (ar (e1.cd s) hm v'), up := aH e1.up } := ⟨_, rfl⟩
    have Ai : Hid (with1 (hm : Int) e1 s = if decide (v' = 0) && used e2 s then aN e2 hm else e2) := hide (by
     unfold with1
     rw [HV.out, Af]
     simp only [aA])
    have Ac := hide fun d : Nat => (Aa.drewN d).setCd Ab hp Ah v'
    have Ae : Hid (∀ d : Nat, En N S A T F n e2 Al (((wr.drewN d).setCell ⟨A.cr s, p * 2, none⟩ (.int .i64 v')).setCell ⟨A.K, 21, none⟩ (.int .i64 (aH e1.up)))) := hide fun d => by
     rw [Af]
     exact ((Ac.out d).1.setUp (aH e1.up)).1
    have Aq := hide fun d : Nat => ((Fr.of_below (Z := fun k => ¬ S k) (aj wr d)).trans (Ac.out d).2).trans ((Ac.out d).1.setUp (aH e1.up)).2
    have CS := hide fun d : Nat => gj (w := wr.drewN d) (K := A.K) (g := A.cr s) (i := p * 2) (v := v') (x := .int .i64 (e1.cd s hm)) c2 ((Aa.drewN d |>.cr s Ab).frz _) ((Ac.out d).1.bx.get (i := 21) rfl) ((Ac.out d).1.bx.frz 21)
    have Ak : Hid (∀ d : Nat, (((wr.drewN d).setCell ⟨A.cr s, p * 2, none⟩ (.int .i64 v')).setCell ⟨A.K, 21, none⟩ (.int .i64 (aH e1.up))).cell? ⟨A.cr s, p * 2, none⟩ = some (.int .i64 v')) := hide fun d => by
     have := ((Ae.out d).cr s Ab).get (gu hp).1
     rw [Af] at this
     simp only [aA] at this
     exact this
    have CU := hide fun d : Nat => nS (Ae.out d) Ab
    have HEg := hide fun d : Nat => (⟨Al, Ae.out d⟩ : Eg N S A T F n e2 _)
    generalize e1.cd s hm = x at c2 hv' CS
    clear Aa hp Ah Ao Ag Af
    go_upto_region 4 with fail
    go_quiet ((go_at_call 209; exact Calls.quiet_of (CP.out _)))
    rename Nat => d0
    clear CP Au c1 cx
    go_upto_region 5 with fail
    refine aX (by assumption) (by kernel_rfl) (by kernel_rfl) (by kernel_rfl) (by kernel_rfl) ?_
    dsimp only [List.dropLast, List.getLast, List.cons_append, List.nil_append]
    repeat (go_big_quiet_step (fail))
    refine wpQuiet_nil ?_
    rintro _ ⟨nq, rfl⟩
    rw [World.drewN_drewN]
    generalize d0 + nq = dd
    have CSd := hide (CS.out dd)
    have c9 := Ak.out dd
    have CUd := hide (CU.out dd)
    have HEd := hide (HEg.out dd)
    have HFd := hide (Aq.out dd)
    clear CS Ak CU HEg Aq Ae Ac c2 hv'
    by_cases hv0 : v' = 0
    · have As : (v' == 0) = true := by simpa using hv0
      cases hu : used e2 s with
      | true =>
       have HT : Hid (with1 (hm : Int) e1 s = aN e2 hm) := hide (by rw [Ai.out, hu, decide_eq_true hv0]; rfl)
       have CL := hide (gh HEd.out AA)
       rw [hu] at CUd
       clear hu hv0
       go_wp2_with (first | (go_at_call 223; refine CSd.out.mono ?_; rintro _ w2 ⟨rfl, rfl⟩) | (go_at_call 234; refine CUd.out.mono ?_; rintro _ w3 ⟨rfl, rfl⟩) | (go_at_call 218; refine CL.out.mono ?_; rintro _ w4 ⟨rfl, he, hf⟩; have Aw := hide he; have Av := hide (HFd.out.trans hf); clear he hf))
       go_roundw
       case rel => exact ⟨k + 1, by omega, by go_num, hide (by rw [Ad.out, HT.out]; exact Aw.out), hide (HFr.out.trans Av.out)⟩
       case measure => simp [intOf]; omega
      | false =>
       have HT : Hid (with1 (hm : Int) e1 s = e2) := hide (by rw [Ai.out, hu, decide_eq_true hv0]; rfl)
       rw [hu] at CUd
       clear hu hv0
       go_wp2_with (first | (go_at_call 223; refine CSd.out.mono ?_; rintro _ w2 ⟨rfl, rfl⟩) | (go_at_call 234; refine CUd.out.mono ?_; rintro _ w3 ⟨rfl, rfl⟩))
       go_roundw
       case rel => exact ⟨k + 1, by omega, by go_num, hide (by rw [Ad.out, HT.out]; exact HEd.out), hide (HFr.out.trans HFd.out)⟩
       case measure => simp [intOf]; omega
    · have As : (v' == 0) = false := by simpa using hv0
      have HT : Hid (with1 (hm : Int) e1 s = e2) := hide (by rw [Ai.out, decide_eq_false hv0]; rfl)
      clear hv0
      go_wp2_with (go_at_call 223; refine CSd.out.mono ?_; rintro _ w2 ⟨rfl, rfl⟩)
      go_roundw
      case rel => exact ⟨k + 1, by omega, by go_num, hide (by rw [Ad.out, HT.out]; exact HEd.out), hide (HFr.out.trans HFd.out)⟩
      case measure => simp [intOf]; omega
  · have HL : Hid (l.take k = l) := hide (List.take_of_length_le (by omega))
    go_wp2_with fail
    go_end0
    exact ⟨rfl, by rw [HR.out]; have := HEr.out; rw [HL.out] at this; exact this, HFr.out⟩
theorem fS {k h : Int} {v : Value} : Calls Tryz.prog 176 #[.agg #[.int .i64 k, .int .i64 h, v]] w fun o w' => o = .returned (.bool (!decide (k = 3))) ∧ Below w.heap.size w w' := by
 have hB := ae w (.cells #[.int .i64 k, .int .i64 h, v] 114)
 have c0 : (w.alloc (.cells #[.int .i64 k, .int .i64 h, v] 114)).cell? ⟨w.heap.size, 0, none⟩ = some (.int .i64 k) := cell_of_row _ _ 0 _ _ _ (heap_alloc_new w _)
 have HB := hide hB
 have HK : Hid ((!decide (k = 3)) = (k != 3)) := hide (by by_cases e0 : k = 3 <;> simp [e0])
 clear hB
 go_enter Tryz.func176, Tryz.ntmps176
 go_wp2_with fail
 go_ret
 exact ⟨by rw [HK.out]; rfl, HB.out⟩
end
end Go.Proofs.YtmlhcncagdfjfaaGreat.Fa
