/- whole, partly, beats; tests over a box that holds what is known. (tools/gen15/kw.py wrote this.) -/
import Derived.Test.YtbnkdfhjdjgnhaaKn
namespace Go.Proofs.Ytbnkdfhjdjgnhaa
open Go.RowKit

theorem enters_go {P : Program} {f : FuncId} {fn : Func} (hf : P.funcs[f]? = some fn) (hn : (fn.name == "runtime.NumGoroutine") = false) (hb : fn.body.isNone = false) : ∀ args w, (callFunc f args).run P w = .ok (.enter f args) w := by
  intro args w
  have h1 : ¬ fn.name = "runtime.NumGoroutine" := by simpa using hn
  have h2 : ¬ fn.body = none := by
    intro e
    rw [e] at hb
    cases hb
  simp [callFunc, hf, h1, h2]
abbrev Bk (b K : Nat) (w : World) : Prop := Fx b 48 [ptr K] w
def isRule (T : Th) (r : Int) : Prop := 0 ≤ r ∧ r < (T.rules.length : Int)
def isLit (n : Nat) (x : Int) : Prop := 0 ≤ x ∧ x < (n : Int)
section
variable {K n b b2 : Nat} {A : Ka} {T : Th} {F m : List Int} {ma : Option Addr} {mc : Nat} {w w' : World}
set_option maxRecDepth 100000 in
set_option maxHeartbeats 3200000 in
theorem wholeC_any {x t : Int} (h : Kn K A T F n m ma mc w) (hb : Bk b K w) (h2 : Fx b2 60 [.int .i64 t] w) (hx : isLit n x) (ht : isTag t) :
    Calls Try.prog 68 #[.int .i64 x, ptr b, ptr b2] w fun e w' => e = .returned (.bool (hs m x t)) ∧ Below w.heap.size w w' := by
  obtain ⟨hx0, hx1⟩ := hx
  obtain ⟨q, rfl⟩ := Int.eq_ofNat_of_zero_le hx0
  have C := hide (has_kn h (by omega : q < n) ht)
  have c1 := hb.get (i := 0) rfl
  have c2 := h2.get (i := 0) rfl
  generalize hs m q t = o at *
  clear h hb h2 ht
  go_enter Try.func68, Try.ntmps68
  go_wp2_with (go_at_call 25; refine C.out.mono ?_; rintro _ w2 ⟨rfl, hb2⟩; have HB := hide hb2; clear hb2)
  go_ret
  exact ⟨rfl, HB.out⟩
theorem wholeC_ts {t : Int} (h : Kn K A T F n m ma mc w) (hb : Bk b K w) (h2 : Fx b2 60 [.int .i64 t] w) (ht : isTag t) : Ts w (fun x => hs m x t) (isLit n) (.func (.func 68) #[] #[ptr b, ptr b2]) :=
  ⟨_, _, rfl, enters_go Try.func68 (by kernel_rfl) (by kernel_rfl), fun x w' hx hw => wholeC_any (h.go hw) (hb.keep (hw.block _ hb.lt)) (h2.keep (hw.block _ h2.lt)) hx ht⟩
set_option maxRecDepth 100000 in
set_option maxHeartbeats 3200000 in
theorem whole_any {r : Nat} {t : Int} (h : Kn K A T F n m ma mc w) (hr : r < T.rules.length) (ht : isTag t) :
    Calls Try.prog 46 #[ptr K, .int .i64 r, .int .i64 t] w fun e w' => e = .returned (.bool (wholeB T m r t)) ∧ Below w.heap.size w w' := by
  obtain ⟨R, hR⟩ := get_at hr
  have hB1 := below_new w (.cells #[ptr K] 48)
  have hB2 := below_new (w.alloc (.cells #[ptr K] 48)) (.cells #[.int .i64 t] 60)
  have hB : Below w.heap.size w ((w.alloc (.cells #[ptr K] 48)).alloc (.cells #[.int .i64 t] 60)) := hB1.trans (hB2.mono hB1.size)
  have hF1 : Bk w.heap.size K ((w.alloc (.cells #[ptr K] 48)).alloc (.cells #[.int .i64 t] 60)) := (hB2.block _ (by simp)).trans (heap_alloc_new w _)
  have hF2 : Fx (w.heap.size + 1) 60 [.int .i64 t] ((w.alloc (.cells #[ptr K] 48)).alloc (.cells #[.int .i64 t] 60)) := by
    have := heap_alloc_new (w.alloc (.cells #[ptr K] 48)) (.cells #[.int .i64 t] 60)
    simpa [Fx] using this
  have hK := h.go hB
  obtain ⟨o, ho⟩ : ∃ o, wholeB T m r t = o := ⟨_, rfl⟩
  rw [ho]
  have HO := hide ho
  clear h hB1 hB2 ho
  go_enter Try.func46, Try.ntmps46
  go_upto_region 1 with fail
  generalize (w.alloc (.cells #[ptr K] 48)).alloc (.cells #[.int .i64 t] 60) = W at *
  obtain ⟨gr, go, bd, bp, era, -, -, -, x2, -, hbl, hbody⟩ := at_R hK.ta.rules hR
  have k2 := hK.bx.get (i := 2) rfl
  rw [era] at k2
  have c1 := hF1.get (i := 0) rfl
  have C := hide (every_any (c := bp) (wholeC_ts hK hF1 hF2 ht) hbody.at1 hbl (fun x hx => hK.pf.body R (List.mem_of_getElem? hR) x hx))
  have HW : Hid (wholeB T m r t = R.body.all fun x => hs m x t) := hide (by unfold wholeB bodyM; rw [Int.toNat_natCast, hR]; rfl)
  have HB := hide hB
  rw [← HW.out, HO.out] at C
  clear hF1 hF2 hK hbody hB HW ht era hR
  go_wp2_with (go_at_call 47; refine C.out.mono ?_; rintro _ w2 ⟨rfl, hb2⟩; have HB2 := hide hb2; clear hb2)
  go_ret
  exact ⟨rfl, HB.out.trans (HB2.out.mono HB.out.size)⟩
set_option maxRecDepth 100000 in
set_option maxHeartbeats 3200000 in
theorem partlyC_any {x t : Int} (h : Kn K A T F n m ma mc w) (hb : Bk b K w) (h2 : Fx b2 60 [.int .i64 t] w) (hx : isLit n x) (ht : isTag t) :
    Calls Try.prog 69 #[.int .i64 x, ptr b, ptr b2] w fun e w' => e = .returned (.bool (hs m x t)) ∧ Below w.heap.size w w' := by
  obtain ⟨hx0, hx1⟩ := hx
  obtain ⟨q, rfl⟩ := Int.eq_ofNat_of_zero_le hx0
  have C := hide (has_kn h (by omega : q < n) ht)
  have c1 := hb.get (i := 0) rfl
  have c2 := h2.get (i := 0) rfl
  generalize hs m q t = o at *
  clear h hb h2 ht
  go_enter Try.func69, Try.ntmps69
  go_wp2_with (go_at_call 25; refine C.out.mono ?_; rintro _ w2 ⟨rfl, hb2⟩; have HB := hide hb2; clear hb2)
  go_ret
  exact ⟨rfl, HB.out⟩
theorem partlyC_ts {t : Int} (h : Kn K A T F n m ma mc w) (hb : Bk b K w) (h2 : Fx b2 60 [.int .i64 t] w) (ht : isTag t) : Ts w (fun x => hs m x t) (isLit n) (.func (.func 69) #[] #[ptr b, ptr b2]) :=
  ⟨_, _, rfl, enters_go Try.func69 (by kernel_rfl) (by kernel_rfl), fun x w' hx hw => partlyC_any (h.go hw) (hb.keep (hw.block _ hb.lt)) (h2.keep (hw.block _ h2.lt)) hx ht⟩
set_option maxRecDepth 100000 in
set_option maxHeartbeats 3200000 in
theorem partly_any {r : Nat} {t : Int} (h : Kn K A T F n m ma mc w) (hr : r < T.rules.length) (ht : isTag t) :
    Calls Try.prog 49 #[ptr K, .int .i64 r, .int .i64 t] w fun e w' => e = .returned (.bool (partB T m r t)) ∧ Below w.heap.size w w' := by
  obtain ⟨R, hR⟩ := get_at hr
  have hB1 := below_new w (.cells #[ptr K] 48)
  have hB2 := below_new (w.alloc (.cells #[ptr K] 48)) (.cells #[.int .i64 t] 60)
  have hB : Below w.heap.size w ((w.alloc (.cells #[ptr K] 48)).alloc (.cells #[.int .i64 t] 60)) := hB1.trans (hB2.mono hB1.size)
  have hF1 : Bk w.heap.size K ((w.alloc (.cells #[ptr K] 48)).alloc (.cells #[.int .i64 t] 60)) := (hB2.block _ (by simp)).trans (heap_alloc_new w _)
  have hF2 : Fx (w.heap.size + 1) 60 [.int .i64 t] ((w.alloc (.cells #[ptr K] 48)).alloc (.cells #[.int .i64 t] 60)) := by
    have := heap_alloc_new (w.alloc (.cells #[ptr K] 48)) (.cells #[.int .i64 t] 60)
    simpa [Fx] using this
  have hK := h.go hB
  obtain ⟨o, ho⟩ : ∃ o, partB T m r t = o := ⟨_, rfl⟩
  rw [ho]
  have HO := hide ho
  clear h hB1 hB2 ho
  go_enter Try.func49, Try.ntmps49
  go_upto_region 1 with fail
  generalize (w.alloc (.cells #[ptr K] 48)).alloc (.cells #[.int .i64 t] 60) = W at *
  obtain ⟨gr, go, bd, bp, era, -, -, -, x2, -, hbl, hbody⟩ := at_R hK.ta.rules hR
  have k2 := hK.bx.get (i := 2) rfl
  rw [era] at k2
  have c1 := hF1.get (i := 0) rfl
  have C := hide (some_any (c := bp) (partlyC_ts hK hF1 hF2 ht) hbody.at1 hbl (fun x hx => hK.pf.body R (List.mem_of_getElem? hR) x hx))
  have HW : Hid (partB T m r t = R.body.any fun x => hs m x t) := hide (by unfold partB bodyM; rw [Int.toNat_natCast, hR]; rfl)
  have HB := hide hB
  rw [← HW.out, HO.out] at C
  clear hF1 hF2 hK hbody hB HW ht era hR
  go_wp2_with (go_at_call 44; refine C.out.mono ?_; rintro _ w2 ⟨rfl, hb2⟩; have HB2 := hide hb2; clear hb2)
  go_ret
  exact ⟨rfl, HB.out.trans (HB2.out.mono HB.out.size)⟩
set_option maxRecDepth 100000 in
set_option maxHeartbeats 3200000 in
theorem beats_any {r s : Nat} (h : Kn K A T F n m ma mc w) (hr : r < T.rules.length) :
    Calls Try.prog 56 #[ptr K, .int .i64 r, .int .i64 s] w fun e w' => e = .returned (.bool (beatB T r s)) ∧ Below w.heap.size w w' := by
  obtain ⟨l, hl⟩ := get_at (l := T.beats) (i := r) (by rw [h.pf.ok.bl]; exact hr)
  obtain ⟨gr, go, bd, bp, era, -, x0, -, hbl, hbody⟩ := at_L h.ta.beats hl
  have k3 := h.bx.get (i := 3) rfl
  rw [era] at k3
  have C := hide (search_any (c := bp) hbody.at1 hbl (h.pf.beat l (List.mem_of_getElem? hl)) s)
  have HW : Hid (beatB T r s = decide ((s : Int) ∈ l)) := hide (by unfold beatB; rw [row_at (by rw [Int.toNat_natCast]; exact hl)])
  have hrb : r < T.beats.length := by rw [h.pf.ok.bl]; exact hr
  unfold Sr at C
  rw [HW.out]
  generalize decide ((s : Int) ∈ l) = o at *
  clear h hl hbody HW era hr
  go_enter Try.func56, Try.ntmps56
  go_wp2_with (go_at_call 65; refine C.out.mono ?_; rintro _ w2 ⟨⟨z, rfl⟩, rfl⟩)
  go_ret
  exact ⟨rfl, Below.refl _ _⟩
set_option maxRecDepth 100000 in
set_option maxHeartbeats 3200000 in
theorem plusStrict1_any {x : Int} (h : Kn K A T F n m ma mc w) (hb : Bk b K w) (hx : isRule T x) :
    Calls Try.prog 45 #[.int .i64 x, ptr b] w fun e w' => e = .returned (.bool (wholeB T m x 1)) ∧ Below w.heap.size w w' := by
  obtain ⟨hx0, hx1⟩ := hx
  obtain ⟨q, rfl⟩ := Int.eq_ofNat_of_zero_le hx0
  have C := hide (whole_any h (by omega) (.inl rfl) : Calls Try.prog 46 #[ptr K, .int .i64 q, .int .i64 1] w _)
  have c1 := hb.get (i := 0) rfl
  generalize wholeB T m (q : Int) 1 = o at *
  clear h hb
  go_enter Try.func45, Try.ntmps45
  go_wp2_with (go_at_call 46; refine C.out.mono ?_; rintro _ w2 ⟨rfl, hb2⟩; have HB := hide hb2; clear hb2)
  go_ret
  exact ⟨rfl, HB.out⟩
theorem plusStrict1_ts (h : Kn K A T F n m ma mc w) (hb : Bk b K w) : Ts w (fun x => wholeB T m x 1) (isRule T) (.func (.func 45) #[] #[ptr b]) :=
  ⟨_, _, rfl, enters_go Try.func45 (by kernel_rfl) (by kernel_rfl), fun x w' hx hw => plusStrict1_any (h.go hw) (hb.keep (hw.block _ hb.lt)) hx⟩
set_option maxRecDepth 100000 in
set_option maxHeartbeats 3200000 in
theorem minusStrict1_any {x : Int} (h : Kn K A T F n m ma mc w) (hb : Bk b K w) (hx : isRule T x) :
    Calls Try.prog 48 #[.int .i64 x, ptr b] w fun e w' => e = .returned (.bool (partB T m x 2)) ∧ Below w.heap.size w w' := by
  obtain ⟨hx0, hx1⟩ := hx
  obtain ⟨q, rfl⟩ := Int.eq_ofNat_of_zero_le hx0
  have C := hide (partly_any h (by omega) (.inr (.inl rfl)) : Calls Try.prog 49 #[ptr K, .int .i64 q, .int .i64 2] w _)
  have c1 := hb.get (i := 0) rfl
  generalize partB T m (q : Int) 2 = o at *
  clear h hb
  go_enter Try.func48, Try.ntmps48
  go_wp2_with (go_at_call 49; refine C.out.mono ?_; rintro _ w2 ⟨rfl, hb2⟩; have HB := hide hb2; clear hb2)
  go_ret
  exact ⟨rfl, HB.out⟩
theorem minusStrict1_ts (h : Kn K A T F n m ma mc w) (hb : Bk b K w) : Ts w (fun x => partB T m x 2) (isRule T) (.func (.func 48) #[] #[ptr b]) :=
  ⟨_, _, rfl, enters_go Try.func48 (by kernel_rfl) (by kernel_rfl), fun x w' hx hw => minusStrict1_any (h.go hw) (hb.keep (hw.block _ hb.lt)) hx⟩
set_option maxRecDepth 100000 in
set_option maxHeartbeats 3200000 in
theorem plusDefeasible1_any {x : Int} (h : Kn K A T F n m ma mc w) (hb : Bk b K w) (hx : isRule T x) :
    Calls Try.prog 50 #[.int .i64 x, ptr b] w fun e w' => e = .returned (.bool (wholeB T m x 3)) ∧ Below w.heap.size w w' := by
  obtain ⟨hx0, hx1⟩ := hx
  obtain ⟨q, rfl⟩ := Int.eq_ofNat_of_zero_le hx0
  have C := hide (whole_any h (by omega) (.inr (.inr (.inl rfl))) : Calls Try.prog 46 #[ptr K, .int .i64 q, .int .i64 3] w _)
  have c1 := hb.get (i := 0) rfl
  generalize wholeB T m (q : Int) 3 = o at *
  clear h hb
  go_enter Try.func50, Try.ntmps50
  go_wp2_with (go_at_call 46; refine C.out.mono ?_; rintro _ w2 ⟨rfl, hb2⟩; have HB := hide hb2; clear hb2)
  go_ret
  exact ⟨rfl, HB.out⟩
theorem plusDefeasible1_ts (h : Kn K A T F n m ma mc w) (hb : Bk b K w) : Ts w (fun x => wholeB T m x 3) (isRule T) (.func (.func 50) #[] #[ptr b]) :=
  ⟨_, _, rfl, enters_go Try.func50 (by kernel_rfl) (by kernel_rfl), fun x w' hx hw => plusDefeasible1_any (h.go hw) (hb.keep (hw.block _ hb.lt)) hx⟩
set_option maxRecDepth 100000 in
set_option maxHeartbeats 3200000 in
theorem plusDefeasible2_any {x : Int} (h : Kn K A T F n m ma mc w) (hb : Bk b K w) (hx : isRule T x) :
    Calls Try.prog 51 #[.int .i64 x, ptr b] w fun e w' => e = .returned (.bool (partB T m x 4)) ∧ Below w.heap.size w w' := by
  obtain ⟨hx0, hx1⟩ := hx
  obtain ⟨q, rfl⟩ := Int.eq_ofNat_of_zero_le hx0
  have C := hide (partly_any h (by omega) (.inr (.inr (.inr rfl))) : Calls Try.prog 49 #[ptr K, .int .i64 q, .int .i64 4] w _)
  have c1 := hb.get (i := 0) rfl
  generalize partB T m (q : Int) 4 = o at *
  clear h hb
  go_enter Try.func51, Try.ntmps51
  go_wp2_with (go_at_call 49; refine C.out.mono ?_; rintro _ w2 ⟨rfl, hb2⟩; have HB := hide hb2; clear hb2)
  go_ret
  exact ⟨rfl, HB.out⟩
theorem plusDefeasible2_ts (h : Kn K A T F n m ma mc w) (hb : Bk b K w) : Ts w (fun x => partB T m x 4) (isRule T) (.func (.func 51) #[] #[ptr b]) :=
  ⟨_, _, rfl, enters_go Try.func51 (by kernel_rfl) (by kernel_rfl), fun x w' hx hw => plusDefeasible2_any (h.go hw) (hb.keep (hw.block _ hb.lt)) hx⟩
set_option maxRecDepth 100000 in
set_option maxHeartbeats 3200000 in
theorem plusDefeasible3_any {x : Int} (h : Kn K A T F n m ma mc w) (hb : Bk b K w) (hx : isLit n x) :
    Calls Try.prog 52 #[.int .i64 x, ptr b] w fun e w' => e = .returned (.bool (hs m x 2)) ∧ Below w.heap.size w w' := by
  obtain ⟨hx0, hx1⟩ := hx
  obtain ⟨q, rfl⟩ := Int.eq_ofNat_of_zero_le hx0
  have C := hide (has_kn h (by omega) (.inr (.inl rfl)) : Calls Try.prog 25 #[ptr K, .int .i64 q, .int .i64 2] w _)
  have c1 := hb.get (i := 0) rfl
  generalize hs m (q : Int) 2 = o at *
  clear h hb
  go_enter Try.func52, Try.ntmps52
  go_wp2_with (go_at_call 25; refine C.out.mono ?_; rintro _ w2 ⟨rfl, hb2⟩; have HB := hide hb2; clear hb2)
  go_ret
  exact ⟨rfl, HB.out⟩
theorem plusDefeasible3_ts (h : Kn K A T F n m ma mc w) (hb : Bk b K w) : Ts w (fun x => hs m x 2) (isLit n) (.func (.func 52) #[] #[ptr b]) :=
  ⟨_, _, rfl, enters_go Try.func52 (by kernel_rfl) (by kernel_rfl), fun x w' hx hw => plusDefeasible3_any (h.go hw) (hb.keep (hw.block _ hb.lt)) hx⟩
set_option maxRecDepth 100000 in
set_option maxHeartbeats 3200000 in
theorem minusDefeasible1_any {x : Int} (h : Kn K A T F n m ma mc w) (hb : Bk b K w) (hx : isRule T x) :
    Calls Try.prog 57 #[.int .i64 x, ptr b] w fun e w' => e = .returned (.bool (wholeB T m x 3)) ∧ Below w.heap.size w w' := by
  obtain ⟨hx0, hx1⟩ := hx
  obtain ⟨q, rfl⟩ := Int.eq_ofNat_of_zero_le hx0
  have C := hide (whole_any h (by omega) (.inr (.inr (.inl rfl))) : Calls Try.prog 46 #[ptr K, .int .i64 q, .int .i64 3] w _)
  have c1 := hb.get (i := 0) rfl
  generalize wholeB T m (q : Int) 3 = o at *
  clear h hb
  go_enter Try.func57, Try.ntmps57
  go_wp2_with (go_at_call 46; refine C.out.mono ?_; rintro _ w2 ⟨rfl, hb2⟩; have HB := hide hb2; clear hb2)
  go_ret
  exact ⟨rfl, HB.out⟩
theorem minusDefeasible1_ts (h : Kn K A T F n m ma mc w) (hb : Bk b K w) : Ts w (fun x => wholeB T m x 3) (isRule T) (.func (.func 57) #[] #[ptr b]) :=
  ⟨_, _, rfl, enters_go Try.func57 (by kernel_rfl) (by kernel_rfl), fun x w' hx hw => minusDefeasible1_any (h.go hw) (hb.keep (hw.block _ hb.lt)) hx⟩
set_option maxRecDepth 100000 in
set_option maxHeartbeats 3200000 in
theorem minusDefeasible2_any {x : Int} (h : Kn K A T F n m ma mc w) (hb : Bk b K w) (hx : isRule T x) :
    Calls Try.prog 58 #[.int .i64 x, ptr b] w fun e w' => e = .returned (.bool (partB T m x 4)) ∧ Below w.heap.size w w' := by
  obtain ⟨hx0, hx1⟩ := hx
  obtain ⟨q, rfl⟩ := Int.eq_ofNat_of_zero_le hx0
  have C := hide (partly_any h (by omega) (.inr (.inr (.inr rfl))) : Calls Try.prog 49 #[ptr K, .int .i64 q, .int .i64 4] w _)
  have c1 := hb.get (i := 0) rfl
  generalize partB T m (q : Int) 4 = o at *
  clear h hb
  go_enter Try.func58, Try.ntmps58
  go_wp2_with (go_at_call 49; refine C.out.mono ?_; rintro _ w2 ⟨rfl, hb2⟩; have HB := hide hb2; clear hb2)
  go_ret
  exact ⟨rfl, HB.out⟩
theorem minusDefeasible2_ts (h : Kn K A T F n m ma mc w) (hb : Bk b K w) : Ts w (fun x => partB T m x 4) (isRule T) (.func (.func 58) #[] #[ptr b]) :=
  ⟨_, _, rfl, enters_go Try.func58 (by kernel_rfl) (by kernel_rfl), fun x w' hx hw => minusDefeasible2_any (h.go hw) (hb.keep (hw.block _ hb.lt)) hx⟩
set_option maxRecDepth 100000 in
set_option maxHeartbeats 3200000 in
theorem minusDefeasible3_any {x : Int} (h : Kn K A T F n m ma mc w) (hb : Bk b K w) (hx : isLit n x) :
    Calls Try.prog 59 #[.int .i64 x, ptr b] w fun e w' => e = .returned (.bool (hs m x 1)) ∧ Below w.heap.size w w' := by
  obtain ⟨hx0, hx1⟩ := hx
  obtain ⟨q, rfl⟩ := Int.eq_ofNat_of_zero_le hx0
  have C := hide (has_kn h (by omega) (.inl rfl) : Calls Try.prog 25 #[ptr K, .int .i64 q, .int .i64 1] w _)
  have c1 := hb.get (i := 0) rfl
  generalize hs m (q : Int) 1 = o at *
  clear h hb
  go_enter Try.func59, Try.ntmps59
  go_wp2_with (go_at_call 25; refine C.out.mono ?_; rintro _ w2 ⟨rfl, hb2⟩; have HB := hide hb2; clear hb2)
  go_ret
  exact ⟨rfl, HB.out⟩
theorem minusDefeasible3_ts (h : Kn K A T F n m ma mc w) (hb : Bk b K w) : Ts w (fun x => hs m x 1) (isLit n) (.func (.func 59) #[] #[ptr b]) :=
  ⟨_, _, rfl, enters_go Try.func59 (by kernel_rfl) (by kernel_rfl), fun x w' hx hw => minusDefeasible3_any (h.go hw) (hb.keep (hw.block _ hb.lt)) hx⟩
end
end Go.Proofs.Ytbnkdfhjdjgnhaa
