import Derived.Test.YtmlhcncagdfjfaaGreatHrow
set_option maxRecDepth 100000
set_option maxHeartbeats 3200000
namespace Go.Proofs.YtmlhcncagdfjfaaGreat
open Go.RowKit
theorem ql : (∀ {α : Type} {l : List α} {i : Nat} (h : i < l.toArray.size), l.toArray[i] = l[i]'(by simpa using h)) ∧ (∀ {α : Type} (a : α) (l : List α) (h : 0 < (a :: l).length), (a :: l)[0] = a) ∧ (∀ {α : Type} (a : α) (l : List α) (i : Nat) (h : i + 1 < (a :: l).length), (a :: l)[i + 1] = l[i]'(by simpa using h)) ∧ (∀ {α : Type} (l : List α) (i : Nat) (a : α), l.toArray.setIfInBounds i a = (l.set i a).toArray) ∧ (∀ {α : Type} {x y : α} {l : List α}, (x :: l).set 0 y = y :: l) ∧ (∀ {α : Type} {x y : α} {l : List α} {n : Nat}, (x :: l).set (n + 1) y = x :: l.set n y) ∧ (∀ (a : Act) (v : Value) (d : Tmp), a.put (some d) v = { tmps := a.tmps.setIfInBounds d v, defers := a.defers }) ∧ ∀ (a : Act) (v : Value), a.put none v = a :=
 ⟨fun h => List.getElem_toArray h, fun a l h => List.getElem_cons_zero a l h, fun a l i h => List.getElem_cons_succ a l i h, fun l i a => List.setIfInBounds_toArray l i a, rfl, rfl, fun _ _ _ => rfl, fun _ _ => rfl⟩
theorem tk (i : Nat) {P : Program} {md : Region.Mode} {ops : Array Oper} {Q : Exit → Act → World → Prop} {S : World → Prop} {oi : Oper} {v : Value} {fuel : Nat} {listed : Array Bool} {a : Act} {w : World} (hi : ops[i]? = some oi)
    (hk : (Region.noSelect ops && (Region.free md ops listed i && (Region.ready md ops listed).contains i)) = true)
    (hQ : ∀ c a w, Q (.panic c) (a.put oi.dst v) w → Q (.panic c) a w) (hy : YieldsIf P ops S oi v a) (hS : S w)
    (h : wpAnyH P md ops Q S fuel (listed.setIfInBounds i true) (a.put oi.dst v) w) : wpAnyH P md ops Q S (fuel + 1) listed a w := by
 rw [Bool.and_eq_true, Bool.and_eq_true] at hk
 exact wpAnyH_take hi hk.1 hk.2.1 hk.2.2 hQ hy hS h
theorem enters_go {P : Program} {f : FuncId} {fn : Func} (hf : P.funcs[f]? = some fn) (hn : (fn.name == "runtime.NumGoroutine") = false) (hb : fn.body.isNone = false) : ∀ args w, (callFunc f args).run P w = .ok (.enter f args) w := by
 intro args w
 have h1 : ¬ fn.name = "runtime.NumGoroutine" := by simpa using hn
 have h2 : ¬ fn.body = none := by
  intro e
  rw [e] at hb
  cases hb
 simp [callFunc, hf, h1, h2]
abbrev Bk (b K : Nat) (w : World) : Prop := Fx b 152 [aa K] w
def aV (T : Th) (r : Int) : Prop := 0 ≤ r ∧ r < (T.rules.length : Int)
def cP (n : Nat) (x : Int) : Prop := 0 ≤ x ∧ x < (n : Int)
section
variable {K n b b2 : Nat} {A : Ka} {T : Th} {F m : List Int} {ma : Option Addr} {mc : Nat} {w w' : World}
theorem sp {x t : Int} (h : Kn K A T F n m ma mc w) (hb : Bk b K w) (h2 : Fx b2 28 [.int .i64 t] w) (hx : cP n x) (ht : aw t) :
    Calls Tryz.prog 227 #[.int .i64 x, aa b, aa b2] w fun e w' => e = .returned (.bool (hs m x t)) ∧ Below w.heap.size w w' := by
 obtain ⟨Ab, Ac⟩ := hx
 obtain ⟨q, rfl⟩ := Int.eq_ofNat_of_zero_le Ab
 have C := hide (has_kn h (by omega : q < n) ht)
 have c1 := hb.get (i := 0) rfl
 have c2 := h2.get (i := 0) rfl
 generalize hs m q t = o at *
 clear h hb h2 ht
 go_enter Tryz.func227, Tryz.ntmps227
 go_wp2_with (go_at_call 136; refine C.out.mono ?_; rintro _ w2 ⟨rfl, Aa⟩; have HB := hide Aa; clear Aa)
 go_ret
 exact ⟨rfl, HB.out⟩
theorem uK {t : Int} (h : Kn K A T F n m ma mc w) (hb : Bk b K w) (h2 : Fx b2 28 [.int .i64 t] w) (ht : aw t) : Ts w (fun x => hs m x t) (cP n) (.func (.func 227) #[] #[aa b, aa b2]) :=
 ⟨_, _, rfl, enters_go Tryz.func227 (by kernel_rfl) (by kernel_rfl), fun x w' hx hw => sp (h.go hw) (hb.keep (hw.block _ hb.lt)) (h2.keep (hw.block _ h2.lt)) hx ht⟩
theorem whole_any {r : Nat} {t : Int} (h : Kn K A T F n m ma mc w) (hr : r < T.rules.length) (ht : aw t) :
    Calls Tryz.prog 192 #[aa K, .int .i64 r, .int .i64 t] w fun e w' => e = .returned (.bool (wholeB T m r t)) ∧ Below w.heap.size w w' := by
 obtain ⟨R, hR⟩ := am hr
 have Ab := ae w (.cells #[aa K] 152)
 have Ac := ae (w.alloc (.cells #[aa K] 152)) (.cells #[.int .i64 t] 28)
 have hB : Below w.heap.size w ((w.alloc (.cells #[aa K] 152)).alloc (.cells #[.int .i64 t] 28)) := Ab.trans (Ac.mono Ab.size)
 have Ad : Bk w.heap.size K ((w.alloc (.cells #[aa K] 152)).alloc (.cells #[.int .i64 t] 28)) := (Ac.block _ (by simp)).trans (heap_alloc_new w _)
 have Ae : Fx (w.heap.size + 1) 28 [.int .i64 t] ((w.alloc (.cells #[aa K] 152)).alloc (.cells #[.int .i64 t] 28)) := by
  have := heap_alloc_new (w.alloc (.cells #[aa K] 152)) (.cells #[.int .i64 t] 28)
  simpa [Fx] using this
 have hK := h.go hB
 obtain ⟨o, ho⟩ : ∃ o, wholeB T m r t = o := ⟨_, rfl⟩
 rw [ho]
 have HO := hide ho
 clear h Ab Ac ho
 go_enter Tryz.func192, Tryz.ntmps192
 go_upto_region 1 with fail
 generalize (w.alloc (.cells #[aa K] 152)).alloc (.cells #[.int .i64 t] 28) = W at *
 obtain ⟨gr, go, bd, bp, Af, -, -, -, x2, -, Ai, Aa⟩ := dG hK.ta.rules hR
 have k2 := hK.bx.get (i := 2) rfl
 rw [Af] at k2
 have c1 := Ad.get (i := 0) rfl
 have C := hide (eN (c := bp) (uK hK Ad Ae ht) Aa.at1 Ai (fun x hx => hK.pf.body R (List.mem_of_getElem? hR) x hx))
 have HW : Hid (wholeB T m r t = R.body.all fun x => hs m x t) := hide (by unfold wholeB az; rw [Int.toNat_natCast, hR]; rfl)
 have HB := hide hB
 rw [← HW.out, HO.out] at C
 clear Ad Ae hK Aa hB HW ht Af hR
 go_wp2_with (go_at_call 193; refine C.out.mono ?_; rintro _ w2 ⟨rfl, Ag⟩; have Ah := hide Ag; clear Ag)
 go_ret
 exact ⟨rfl, HB.out.trans (Ah.out.mono HB.out.size)⟩
theorem rt {x t : Int} (h : Kn K A T F n m ma mc w) (hb : Bk b K w) (h2 : Fx b2 28 [.int .i64 t] w) (hx : cP n x) (ht : aw t) :
    Calls Tryz.prog 228 #[.int .i64 x, aa b, aa b2] w fun e w' => e = .returned (.bool (hs m x t)) ∧ Below w.heap.size w w' := by
 obtain ⟨Ab, Ac⟩ := hx
 obtain ⟨q, rfl⟩ := Int.eq_ofNat_of_zero_le Ab
 have C := hide (has_kn h (by omega : q < n) ht)
 have c1 := hb.get (i := 0) rfl
 have c2 := h2.get (i := 0) rfl
 generalize hs m q t = o at *
 clear h hb h2 ht
 go_enter Tryz.func228, Tryz.ntmps228
 go_wp2_with (go_at_call 136; refine C.out.mono ?_; rintro _ w2 ⟨rfl, Aa⟩; have HB := hide Aa; clear Aa)
 go_ret
 exact ⟨rfl, HB.out⟩
theorem sV {t : Int} (h : Kn K A T F n m ma mc w) (hb : Bk b K w) (h2 : Fx b2 28 [.int .i64 t] w) (ht : aw t) : Ts w (fun x => hs m x t) (cP n) (.func (.func 228) #[] #[aa b, aa b2]) :=
 ⟨_, _, rfl, enters_go Tryz.func228 (by kernel_rfl) (by kernel_rfl), fun x w' hx hw => rt (h.go hw) (hb.keep (hw.block _ hb.lt)) (h2.keep (hw.block _ h2.lt)) hx ht⟩
theorem jG {r : Nat} {t : Int} (h : Kn K A T F n m ma mc w) (hr : r < T.rules.length) (ht : aw t) :
    Calls Tryz.prog 195 #[aa K, .int .i64 r, .int .i64 t] w fun e w' => e = .returned (.bool (partB T m r t)) ∧ Below w.heap.size w w' := by
 obtain ⟨R, hR⟩ := am hr
 have Ab := ae w (.cells #[aa K] 152)
 have Ac := ae (w.alloc (.cells #[aa K] 152)) (.cells #[.int .i64 t] 28)
 have hB : Below w.heap.size w ((w.alloc (.cells #[aa K] 152)).alloc (.cells #[.int .i64 t] 28)) := Ab.trans (Ac.mono Ab.size)
 have Ad : Bk w.heap.size K ((w.alloc (.cells #[aa K] 152)).alloc (.cells #[.int .i64 t] 28)) := (Ac.block _ (by simp)).trans (heap_alloc_new w _)
 have Ae : Fx (w.heap.size + 1) 28 [.int .i64 t] ((w.alloc (.cells #[aa K] 152)).alloc (.cells #[.int .i64 t] 28)) := by
  have := heap_alloc_new (w.alloc (.cells #[aa K] 152)) (.cells #[.int .i64 t] 28)
  simpa [Fx] using this
 have hK := h.go hB
 obtain ⟨o, ho⟩ : ∃ o, partB T m r t = o := ⟨_, rfl⟩
 rw [ho]
 have HO := hide ho
 clear h Ab Ac ho
 go_enter Tryz.func195, Tryz.ntmps195
 go_upto_region 1 with fail
 generalize (w.alloc (.cells #[aa K] 152)).alloc (.cells #[.int .i64 t] 28) = W at *
 obtain ⟨gr, go, bd, bp, Af, -, -, -, x2, -, Ai, Aa⟩ := dG hK.ta.rules hR
 have k2 := hK.bx.get (i := 2) rfl
 rw [Af] at k2
 have c1 := Ad.get (i := 0) rfl
 have C := hide (fB (c := bp) (sV hK Ad Ae ht) Aa.at1 Ai (fun x hx => hK.pf.body R (List.mem_of_getElem? hR) x hx))
 have HW : Hid (partB T m r t = R.body.any fun x => hs m x t) := hide (by unfold partB az; rw [Int.toNat_natCast, hR]; rfl)
 have HB := hide hB
 rw [← HW.out, HO.out] at C
 clear Ad Ae hK Aa hB HW ht Af hR
 go_wp2_with (go_at_call 190; refine C.out.mono ?_; rintro _ w2 ⟨rfl, Ag⟩; have Ah := hide Ag; clear Ag)
 go_ret
 exact ⟨rfl, HB.out.trans (Ah.out.mono HB.out.size)⟩
theorem pB {r s : Nat} (h : Kn K A T F n m ma mc w) (hr : r < T.rules.length) :
    Calls Tryz.prog 202 #[aa K, .int .i64 r, .int .i64 s] w fun e w' => e = .returned (.bool (beatB T r s)) ∧ Below w.heap.size w w' := by
 obtain ⟨l, hl⟩ := am (l := T.beats) (i := r) (by rw [h.pf.ok.bl]; exact hr)
 obtain ⟨gr, go, bd, bp, Ab, -, x0, -, Ac, Aa⟩ := bH h.ta.beats hl
 have k3 := h.bx.get (i := 3) rfl
 rw [Ab] at k3
 have C := hide (jS (c := bp) Aa.at1 Ac (h.pf.beat l (List.mem_of_getElem? hl)) s)
 have HW : Hid (beatB T r s = decide ((s : Int) ∈ l)) := hide (by unfold beatB; rw [bn (by rw [Int.toNat_natCast]; exact hl)])
 have Ad : r < T.beats.length := by rw [h.pf.ok.bl]; exact hr
 unfold Sr at C
 rw [HW.out]
 generalize decide ((s : Int) ∈ l) = o at *
 clear h hl Aa HW Ab hr
 go_enter Tryz.func202, Tryz.ntmps202
 go_wp2_with (go_at_call 140; refine C.out.mono ?_; rintro _ w2 ⟨⟨z, rfl⟩, rfl⟩)
 go_ret
 exact ⟨rfl, Below.refl _ _⟩
theorem nz {x : Int} (h : Kn K A T F n m ma mc w) (hb : Bk b K w) (hx : aV T x) :
    Calls Tryz.prog 191 #[.int .i64 x, aa b] w fun e w' => e = .returned (.bool (wholeB T m x 1)) ∧ Below w.heap.size w w' := by
 obtain ⟨Ab, Ac⟩ := hx
 obtain ⟨q, rfl⟩ := Int.eq_ofNat_of_zero_le Ab
 have C := hide (whole_any h (by omega) (.inl rfl) : Calls Tryz.prog 192 #[aa K, .int .i64 q, .int .i64 1] w _)
 have c1 := hb.get (i := 0) rfl
 generalize wholeB T m (q : Int) 1 = o at *
 clear h hb
 go_enter Tryz.func191, Tryz.ntmps191
 go_wp2_with (go_at_call 192; refine C.out.mono ?_; rintro _ w2 ⟨rfl, Aa⟩; have HB := hide Aa; clear Aa)
 go_ret
 exact ⟨rfl, HB.out⟩
theorem ou (h : Kn K A T F n m ma mc w) (hb : Bk b K w) : Ts w (fun x => wholeB T m x 1) (aV T) (.func (.func 191) #[] #[aa b]) :=
 ⟨_, _, rfl, enters_go Tryz.func191 (by kernel_rfl) (by kernel_rfl), fun x w' hx hw => nz (h.go hw) (hb.keep (hw.block _ hb.lt)) hx⟩
theorem lZ {x : Int} (h : Kn K A T F n m ma mc w) (hb : Bk b K w) (hx : aV T x) :
    Calls Tryz.prog 194 #[.int .i64 x, aa b] w fun e w' => e = .returned (.bool (partB T m x 2)) ∧ Below w.heap.size w w' := by
 obtain ⟨Ab, Ac⟩ := hx
 obtain ⟨q, rfl⟩ := Int.eq_ofNat_of_zero_le Ab
 have C := hide (jG h (by omega) (.inr (.inl rfl)) : Calls Tryz.prog 195 #[aa K, .int .i64 q, .int .i64 2] w _)
 have c1 := hb.get (i := 0) rfl
 generalize partB T m (q : Int) 2 = o at *
 clear h hb
 go_enter Tryz.func194, Tryz.ntmps194
 go_wp2_with (go_at_call 195; refine C.out.mono ?_; rintro _ w2 ⟨rfl, Aa⟩; have HB := hide Aa; clear Aa)
 go_ret
 exact ⟨rfl, HB.out⟩
theorem ns (h : Kn K A T F n m ma mc w) (hb : Bk b K w) : Ts w (fun x => partB T m x 2) (aV T) (.func (.func 194) #[] #[aa b]) :=
 ⟨_, _, rfl, enters_go Tryz.func194 (by kernel_rfl) (by kernel_rfl), fun x w' hx hw => lZ (h.go hw) (hb.keep (hw.block _ hb.lt)) hx⟩
theorem gk {x : Int} (h : Kn K A T F n m ma mc w) (hb : Bk b K w) (hx : aV T x) :
    Calls Tryz.prog 196 #[.int .i64 x, aa b] w fun e w' => e = .returned (.bool (wholeB T m x 3)) ∧ Below w.heap.size w w' := by
 obtain ⟨Ab, Ac⟩ := hx
 obtain ⟨q, rfl⟩ := Int.eq_ofNat_of_zero_le Ab
 have C := hide (whole_any h (by omega) (.inr (.inr (.inl rfl))) : Calls Tryz.prog 192 #[aa K, .int .i64 q, .int .i64 3] w _)
 have c1 := hb.get (i := 0) rfl
 generalize wholeB T m (q : Int) 3 = o at *
 clear h hb
 go_enter Tryz.func196, Tryz.ntmps196
 go_wp2_with (go_at_call 192; refine C.out.mono ?_; rintro _ w2 ⟨rfl, Aa⟩; have HB := hide Aa; clear Aa)
 go_ret
 exact ⟨rfl, HB.out⟩
theorem lj (h : Kn K A T F n m ma mc w) (hb : Bk b K w) : Ts w (fun x => wholeB T m x 3) (aV T) (.func (.func 196) #[] #[aa b]) :=
 ⟨_, _, rfl, enters_go Tryz.func196 (by kernel_rfl) (by kernel_rfl), fun x w' hx hw => gk (h.go hw) (hb.keep (hw.block _ hb.lt)) hx⟩
theorem ku {x : Int} (h : Kn K A T F n m ma mc w) (hb : Bk b K w) (hx : aV T x) :
    Calls Tryz.prog 197 #[.int .i64 x, aa b] w fun e w' => e = .returned (.bool (partB T m x 4)) ∧ Below w.heap.size w w' := by
 obtain ⟨Ab, Ac⟩ := hx
 obtain ⟨q, rfl⟩ := Int.eq_ofNat_of_zero_le Ab
 have C := hide (jG h (by omega) (.inr (.inr (.inr rfl))) : Calls Tryz.prog 195 #[aa K, .int .i64 q, .int .i64 4] w _)
 have c1 := hb.get (i := 0) rfl
 generalize partB T m (q : Int) 4 = o at *
 clear h hb
 go_enter Tryz.func197, Tryz.ntmps197
 go_wp2_with (go_at_call 195; refine C.out.mono ?_; rintro _ w2 ⟨rfl, Aa⟩; have HB := hide Aa; clear Aa)
 go_ret
 exact ⟨rfl, HB.out⟩
theorem kr {x : Int} (h : Kn K A T F n m ma mc w) (hb : Bk b K w) (hx : cP n x) :
    Calls Tryz.prog 198 #[.int .i64 x, aa b] w fun e w' => e = .returned (.bool (hs m x 2)) ∧ Below w.heap.size w w' := by
 obtain ⟨Ab, Ac⟩ := hx
 obtain ⟨q, rfl⟩ := Int.eq_ofNat_of_zero_le Ab
 have C := hide (has_kn h (by omega) (.inr (.inl rfl)) : Calls Tryz.prog 136 #[aa K, .int .i64 q, .int .i64 2] w _)
 have c1 := hb.get (i := 0) rfl
 generalize hs m (q : Int) 2 = o at *
 clear h hb
 go_enter Tryz.func198, Tryz.ntmps198
 go_wp2_with (go_at_call 136; refine C.out.mono ?_; rintro _ w2 ⟨rfl, Aa⟩; have HB := hide Aa; clear Aa)
 go_ret
 exact ⟨rfl, HB.out⟩
theorem lw (h : Kn K A T F n m ma mc w) (hb : Bk b K w) : Ts w (fun x => hs m x 2) (cP n) (.func (.func 198) #[] #[aa b]) :=
 ⟨_, _, rfl, enters_go Tryz.func198 (by kernel_rfl) (by kernel_rfl), fun x w' hx hw => kr (h.go hw) (hb.keep (hw.block _ hb.lt)) hx⟩
theorem jI {x : Int} (h : Kn K A T F n m ma mc w) (hb : Bk b K w) (hx : aV T x) :
    Calls Tryz.prog 203 #[.int .i64 x, aa b] w fun e w' => e = .returned (.bool (wholeB T m x 3)) ∧ Below w.heap.size w w' := by
 obtain ⟨Ab, Ac⟩ := hx
 obtain ⟨q, rfl⟩ := Int.eq_ofNat_of_zero_le Ab
 have C := hide (whole_any h (by omega) (.inr (.inr (.inl rfl))) : Calls Tryz.prog 192 #[aa K, .int .i64 q, .int .i64 3] w _)
 have c1 := hb.get (i := 0) rfl
 generalize wholeB T m (q : Int) 3 = o at *
 clear h hb
 go_enter Tryz.func203, Tryz.ntmps203
 go_wp2_with (go_at_call 192; refine C.out.mono ?_; rintro _ w2 ⟨rfl, Aa⟩; have HB := hide Aa; clear Aa)
 go_ret
 exact ⟨rfl, HB.out⟩
theorem fR {x : Int} (h : Kn K A T F n m ma mc w) (hb : Bk b K w) (hx : aV T x) :
    Calls Tryz.prog 204 #[.int .i64 x, aa b] w fun e w' => e = .returned (.bool (partB T m x 4)) ∧ Below w.heap.size w w' := by
 obtain ⟨Ab, Ac⟩ := hx
 obtain ⟨q, rfl⟩ := Int.eq_ofNat_of_zero_le Ab
 have C := hide (jG h (by omega) (.inr (.inr (.inr rfl))) : Calls Tryz.prog 195 #[aa K, .int .i64 q, .int .i64 4] w _)
 have c1 := hb.get (i := 0) rfl
 generalize partB T m (q : Int) 4 = o at *
 clear h hb
 go_enter Tryz.func204, Tryz.ntmps204
 go_wp2_with (go_at_call 195; refine C.out.mono ?_; rintro _ w2 ⟨rfl, Aa⟩; have HB := hide Aa; clear Aa)
 go_ret
 exact ⟨rfl, HB.out⟩
theorem kw (h : Kn K A T F n m ma mc w) (hb : Bk b K w) : Ts w (fun x => partB T m x 4) (aV T) (.func (.func 204) #[] #[aa b]) :=
 ⟨_, _, rfl, enters_go Tryz.func204 (by kernel_rfl) (by kernel_rfl), fun x w' hx hw => fR (h.go hw) (hb.keep (hw.block _ hb.lt)) hx⟩
theorem j7 {x : Int} (h : Kn K A T F n m ma mc w) (hb : Bk b K w) (hx : cP n x) :
    Calls Tryz.prog 205 #[.int .i64 x, aa b] w fun e w' => e = .returned (.bool (hs m x 1)) ∧ Below w.heap.size w w' := by
 obtain ⟨Ab, Ac⟩ := hx
 obtain ⟨q, rfl⟩ := Int.eq_ofNat_of_zero_le Ab
 have C := hide (has_kn h (by omega) (.inl rfl) : Calls Tryz.prog 136 #[aa K, .int .i64 q, .int .i64 1] w _)
 have c1 := hb.get (i := 0) rfl
 generalize hs m (q : Int) 1 = o at *
 clear h hb
 go_enter Tryz.func205, Tryz.ntmps205
 go_wp2_with (go_at_call 136; refine C.out.mono ?_; rintro _ w2 ⟨rfl, Aa⟩; have HB := hide Aa; clear Aa)
 go_ret
 exact ⟨rfl, HB.out⟩
theorem ky (h : Kn K A T F n m ma mc w) (hb : Bk b K w) : Ts w (fun x => hs m x 1) (cP n) (.func (.func 205) #[] #[aa b]) :=
 ⟨_, _, rfl, enters_go Tryz.func205 (by kernel_rfl) (by kernel_rfl), fun x w' hx hw => j7 (h.go hw) (hb.keep (hw.block _ hb.lt)) hx⟩
end
end Go.Proofs.YtmlhcncagdfjfaaGreat
