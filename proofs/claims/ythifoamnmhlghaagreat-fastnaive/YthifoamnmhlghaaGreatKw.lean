/- whole, partly, beats; tests over a box that holds what is known. (tools/gen15/kw.py wrote this.) -/
import Derived.Test.YthifoamnmhlghaaGreatKn
namespace Go.Proofs.YthifoamnmhlghaaGreat
open Go.RowKit

theorem enters_go {P : Program} {f : FuncId} {fn : Func} (hf : P.funcs[f]? = some fn) (hn : (fn.name == "runtime.NumGoroutine") = false) (hb : fn.body.isNone = false) : ∀ args w, (callFunc f args).run P w = .ok (.enter f args) w := by
  intro args w
  have h1 : ¬ fn.name = "runtime.NumGoroutine" := by simpa using hn
  have h2 : ¬ fn.body = none := by
    intro e
    rw [e] at hb
    cases hb
  simp [callFunc, hf, h1, h2]
abbrev Bk (b K : Nat) (w : World) : Prop := Fx b 59 [ptr K] w
def isRule (T : Th) (r : Int) : Prop := 0 ≤ r ∧ r < (T.rules.length : Int)
def isLit (n : Nat) (x : Int) : Prop := 0 ≤ x ∧ x < (n : Int)
section
variable {K n b b2 : Nat} {A : Ka} {T : Th} {F m : List Int} {ma : Option Addr} {mc : Nat} {w w' : World}
set_option maxRecDepth 100000 in
set_option maxHeartbeats 3200000 in
theorem wholeC_any {x t : Int} (h : Kn K A T F n m ma mc w) (hb : Bk b K w) (h2 : Fx b2 81 [.int .i64 t] w) (hx : isLit n x) (ht : isTag t) :
    Calls Tryz.prog 109 #[.int .i64 x, ptr b, ptr b2] w fun e w' => e = .returned (.bool (hs m x t)) ∧ Below w.heap.size w w' := by
  obtain ⟨hx0, hx1⟩ := hx
  obtain ⟨q, rfl⟩ := Int.eq_ofNat_of_zero_le hx0
  have C := hide (has_kn h (by omega : q < n) ht)
  have c1 := hb.get (i := 0) rfl
  have c2 := h2.get (i := 0) rfl
  generalize hs m q t = o at *
  clear h hb h2 ht
  go_enter Tryz.func109, Tryz.ntmps109
  go_wp2_with (go_at_call 43; refine C.out.mono ?_; rintro _ w2 ⟨rfl, hb2⟩; have HB := hide hb2; clear hb2)
  go_ret
  exact ⟨rfl, HB.out⟩
theorem wholeC_ts {t : Int} (h : Kn K A T F n m ma mc w) (hb : Bk b K w) (h2 : Fx b2 81 [.int .i64 t] w) (ht : isTag t) : Ts w (fun x => hs m x t) (isLit n) (.func (.func 109) #[] #[ptr b, ptr b2]) :=
  ⟨_, _, rfl, enters_go Tryz.func109 (by kernel_rfl) (by kernel_rfl), fun x w' hx hw => wholeC_any (h.go hw) (hb.keep (hw.block _ hb.lt)) (h2.keep (hw.block _ h2.lt)) hx ht⟩
set_option maxRecDepth 100000 in
set_option maxHeartbeats 3200000 in
theorem whole_any {r : Nat} {t : Int} (h : Kn K A T F n m ma mc w) (hr : r < T.rules.length) (ht : isTag t) :
    Calls Tryz.prog 86 #[ptr K, .int .i64 r, .int .i64 t] w fun e w' => e = .returned (.bool (wholeB T m r t)) ∧ Below w.heap.size w w' := by
  obtain ⟨R, hR⟩ := get_at hr
  have hB1 := below_new w (.cells #[ptr K] 59)
  have hB2 := below_new (w.alloc (.cells #[ptr K] 59)) (.cells #[.int .i64 t] 81)
  have hB : Below w.heap.size w ((w.alloc (.cells #[ptr K] 59)).alloc (.cells #[.int .i64 t] 81)) := hB1.trans (hB2.mono hB1.size)
  have hF1 : Bk w.heap.size K ((w.alloc (.cells #[ptr K] 59)).alloc (.cells #[.int .i64 t] 81)) := (hB2.block _ (by simp)).trans (heap_alloc_new w _)
  have hF2 : Fx (w.heap.size + 1) 81 [.int .i64 t] ((w.alloc (.cells #[ptr K] 59)).alloc (.cells #[.int .i64 t] 81)) := by
    have := heap_alloc_new (w.alloc (.cells #[ptr K] 59)) (.cells #[.int .i64 t] 81)
    simpa [Fx] using this
  have hK := h.go hB
  obtain ⟨o, ho⟩ : ∃ o, wholeB T m r t = o := ⟨_, rfl⟩
  rw [ho]
  have HO := hide ho
  clear h hB1 hB2 ho
  go_enter Tryz.func86, Tryz.ntmps86
  go_upto_region 1 with fail
  generalize (w.alloc (.cells #[ptr K] 59)).alloc (.cells #[.int .i64 t] 81) = W at *
  obtain ⟨gr, go, bd, bp, era, -, -, -, x2, -, hbl, hbody⟩ := at_R hK.ta.rules hR
  have k2 := hK.bx.get (i := 2) rfl
  rw [era] at k2
  have c1 := hF1.get (i := 0) rfl
  have C := hide (every_any (c := bp) (wholeC_ts hK hF1 hF2 ht) hbody.at1 hbl (fun x hx => hK.pf.body R (List.mem_of_getElem? hR) x hx))
  have HW : Hid (wholeB T m r t = R.body.all fun x => hs m x t) := hide (by unfold wholeB bodyM; rw [Int.toNat_natCast, hR]; rfl)
  have HB := hide hB
  rw [← HW.out, HO.out] at C
  clear hF1 hF2 hK hbody hB HW ht era hR
  go_wp2_with (go_at_call 87; refine C.out.mono ?_; rintro _ w2 ⟨rfl, hb2⟩; have HB2 := hide hb2; clear hb2)
  go_ret
  exact ⟨rfl, HB.out.trans (HB2.out.mono HB.out.size)⟩
set_option maxRecDepth 100000 in
set_option maxHeartbeats 3200000 in
theorem partlyC_any {x t : Int} (h : Kn K A T F n m ma mc w) (hb : Bk b K w) (h2 : Fx b2 81 [.int .i64 t] w) (hx : isLit n x) (ht : isTag t) :
    Calls Tryz.prog 110 #[.int .i64 x, ptr b, ptr b2] w fun e w' => e = .returned (.bool (hs m x t)) ∧ Below w.heap.size w w' := by
  obtain ⟨hx0, hx1⟩ := hx
  obtain ⟨q, rfl⟩ := Int.eq_ofNat_of_zero_le hx0
  have C := hide (has_kn h (by omega : q < n) ht)
  have c1 := hb.get (i := 0) rfl
  have c2 := h2.get (i := 0) rfl
  generalize hs m q t = o at *
  clear h hb h2 ht
  go_enter Tryz.func110, Tryz.ntmps110
  go_wp2_with (go_at_call 43; refine C.out.mono ?_; rintro _ w2 ⟨rfl, hb2⟩; have HB := hide hb2; clear hb2)
  go_ret
  exact ⟨rfl, HB.out⟩
theorem partlyC_ts {t : Int} (h : Kn K A T F n m ma mc w) (hb : Bk b K w) (h2 : Fx b2 81 [.int .i64 t] w) (ht : isTag t) : Ts w (fun x => hs m x t) (isLit n) (.func (.func 110) #[] #[ptr b, ptr b2]) :=
  ⟨_, _, rfl, enters_go Tryz.func110 (by kernel_rfl) (by kernel_rfl), fun x w' hx hw => partlyC_any (h.go hw) (hb.keep (hw.block _ hb.lt)) (h2.keep (hw.block _ h2.lt)) hx ht⟩
set_option maxRecDepth 100000 in
set_option maxHeartbeats 3200000 in
theorem partly_any {r : Nat} {t : Int} (h : Kn K A T F n m ma mc w) (hr : r < T.rules.length) (ht : isTag t) :
    Calls Tryz.prog 89 #[ptr K, .int .i64 r, .int .i64 t] w fun e w' => e = .returned (.bool (partB T m r t)) ∧ Below w.heap.size w w' := by
  obtain ⟨R, hR⟩ := get_at hr
  have hB1 := below_new w (.cells #[ptr K] 59)
  have hB2 := below_new (w.alloc (.cells #[ptr K] 59)) (.cells #[.int .i64 t] 81)
  have hB : Below w.heap.size w ((w.alloc (.cells #[ptr K] 59)).alloc (.cells #[.int .i64 t] 81)) := hB1.trans (hB2.mono hB1.size)
  have hF1 : Bk w.heap.size K ((w.alloc (.cells #[ptr K] 59)).alloc (.cells #[.int .i64 t] 81)) := (hB2.block _ (by simp)).trans (heap_alloc_new w _)
  have hF2 : Fx (w.heap.size + 1) 81 [.int .i64 t] ((w.alloc (.cells #[ptr K] 59)).alloc (.cells #[.int .i64 t] 81)) := by
    have := heap_alloc_new (w.alloc (.cells #[ptr K] 59)) (.cells #[.int .i64 t] 81)
    simpa [Fx] using this
  have hK := h.go hB
  obtain ⟨o, ho⟩ : ∃ o, partB T m r t = o := ⟨_, rfl⟩
  rw [ho]
  have HO := hide ho
  clear h hB1 hB2 ho
  go_enter Tryz.func89, Tryz.ntmps89
  go_upto_region 1 with fail
  generalize (w.alloc (.cells #[ptr K] 59)).alloc (.cells #[.int .i64 t] 81) = W at *
  obtain ⟨gr, go, bd, bp, era, -, -, -, x2, -, hbl, hbody⟩ := at_R hK.ta.rules hR
  have k2 := hK.bx.get (i := 2) rfl
  rw [era] at k2
  have c1 := hF1.get (i := 0) rfl
  have C := hide (some_any (c := bp) (partlyC_ts hK hF1 hF2 ht) hbody.at1 hbl (fun x hx => hK.pf.body R (List.mem_of_getElem? hR) x hx))
  have HW : Hid (partB T m r t = R.body.any fun x => hs m x t) := hide (by unfold partB bodyM; rw [Int.toNat_natCast, hR]; rfl)
  have HB := hide hB
  rw [← HW.out, HO.out] at C
  clear hF1 hF2 hK hbody hB HW ht era hR
  go_wp2_with (go_at_call 84; refine C.out.mono ?_; rintro _ w2 ⟨rfl, hb2⟩; have HB2 := hide hb2; clear hb2)
  go_ret
  exact ⟨rfl, HB.out.trans (HB2.out.mono HB.out.size)⟩
set_option maxRecDepth 100000 in
set_option maxHeartbeats 3200000 in
theorem beats_any {r s : Nat} (h : Kn K A T F n m ma mc w) (hr : r < T.rules.length) :
    Calls Tryz.prog 96 #[ptr K, .int .i64 r, .int .i64 s] w fun e w' => e = .returned (.bool (beatB T r s)) ∧ Below w.heap.size w w' := by
  obtain ⟨l, hl⟩ := get_at (l := T.beats) (i := r) (by rw [h.pf.ok.bl]; exact hr)
  obtain ⟨gr, go, bd, bp, era, -, x0, -, hbl, hbody⟩ := at_L h.ta.beats hl
  have k3 := h.bx.get (i := 3) rfl
  rw [era] at k3
  have C := hide (search_any (c := bp) hbody.at1 hbl (h.pf.beat l (List.mem_of_getElem? hl)) s)
  have HW : Hid (beatB T r s = decide ((s : Int) ∈ l)) := hide (by unfold beatB; rw [row_at (by rw [Int.toNat_natCast]; exact hl)])
  have hrb : r < T.beats.length := by rw [h.pf.ok.bl]; exact hr
  unfold Sr at C
  rw [HW.out]
  generalize decide ((s : Int) ∈ l) = o at *
  clear h hl hbody HW era hr
  go_enter Tryz.func96, Tryz.ntmps96
  go_wp2_with (go_at_call 73; refine C.out.mono ?_; rintro _ w2 ⟨⟨z, rfl⟩, rfl⟩)
  go_ret
  exact ⟨rfl, Below.refl _ _⟩
set_option maxRecDepth 100000 in
set_option maxHeartbeats 3200000 in
theorem plusStrict1_any {x : Int} (h : Kn K A T F n m ma mc w) (hb : Bk b K w) (hx : isRule T x) :
    Calls Tryz.prog 85 #[.int .i64 x, ptr b] w fun e w' => e = .returned (.bool (wholeB T m x 1)) ∧ Below w.heap.size w w' := by
  obtain ⟨hx0, hx1⟩ := hx
  obtain ⟨q, rfl⟩ := Int.eq_ofNat_of_zero_le hx0
  have C := hide (whole_any h (by omega) (.inl rfl) : Calls Tryz.prog 86 #[ptr K, .int .i64 q, .int .i64 1] w _)
  have c1 := hb.get (i := 0) rfl
  generalize wholeB T m (q : Int) 1 = o at *
  clear h hb
  go_enter Tryz.func85, Tryz.ntmps85
  go_wp2_with (go_at_call 86; refine C.out.mono ?_; rintro _ w2 ⟨rfl, hb2⟩; have HB := hide hb2; clear hb2)
  go_ret
  exact ⟨rfl, HB.out⟩
theorem plusStrict1_ts (h : Kn K A T F n m ma mc w) (hb : Bk b K w) : Ts w (fun x => wholeB T m x 1) (isRule T) (.func (.func 85) #[] #[ptr b]) :=
  ⟨_, _, rfl, enters_go Tryz.func85 (by kernel_rfl) (by kernel_rfl), fun x w' hx hw => plusStrict1_any (h.go hw) (hb.keep (hw.block _ hb.lt)) hx⟩
set_option maxRecDepth 100000 in
set_option maxHeartbeats 3200000 in
theorem minusStrict1_any {x : Int} (h : Kn K A T F n m ma mc w) (hb : Bk b K w) (hx : isRule T x) :
    Calls Tryz.prog 88 #[.int .i64 x, ptr b] w fun e w' => e = .returned (.bool (partB T m x 2)) ∧ Below w.heap.size w w' := by
  obtain ⟨hx0, hx1⟩ := hx
  obtain ⟨q, rfl⟩ := Int.eq_ofNat_of_zero_le hx0
  have C := hide (partly_any h (by omega) (.inr (.inl rfl)) : Calls Tryz.prog 89 #[ptr K, .int .i64 q, .int .i64 2] w _)
  have c1 := hb.get (i := 0) rfl
  generalize partB T m (q : Int) 2 = o at *
  clear h hb
  go_enter Tryz.func88, Tryz.ntmps88
  go_wp2_with (go_at_call 89; refine C.out.mono ?_; rintro _ w2 ⟨rfl, hb2⟩; have HB := hide hb2; clear hb2)
  go_ret
  exact ⟨rfl, HB.out⟩
theorem minusStrict1_ts (h : Kn K A T F n m ma mc w) (hb : Bk b K w) : Ts w (fun x => partB T m x 2) (isRule T) (.func (.func 88) #[] #[ptr b]) :=
  ⟨_, _, rfl, enters_go Tryz.func88 (by kernel_rfl) (by kernel_rfl), fun x w' hx hw => minusStrict1_any (h.go hw) (hb.keep (hw.block _ hb.lt)) hx⟩
set_option maxRecDepth 100000 in
set_option maxHeartbeats 3200000 in
theorem plusDefeasible1_any {x : Int} (h : Kn K A T F n m ma mc w) (hb : Bk b K w) (hx : isRule T x) :
    Calls Tryz.prog 90 #[.int .i64 x, ptr b] w fun e w' => e = .returned (.bool (wholeB T m x 3)) ∧ Below w.heap.size w w' := by
  obtain ⟨hx0, hx1⟩ := hx
  obtain ⟨q, rfl⟩ := Int.eq_ofNat_of_zero_le hx0
  have C := hide (whole_any h (by omega) (.inr (.inr (.inl rfl))) : Calls Tryz.prog 86 #[ptr K, .int .i64 q, .int .i64 3] w _)
  have c1 := hb.get (i := 0) rfl
  generalize wholeB T m (q : Int) 3 = o at *
  clear h hb
  go_enter Tryz.func90, Tryz.ntmps90
  go_wp2_with (go_at_call 86; refine C.out.mono ?_; rintro _ w2 ⟨rfl, hb2⟩; have HB := hide hb2; clear hb2)
  go_ret
  exact ⟨rfl, HB.out⟩
theorem plusDefeasible1_ts (h : Kn K A T F n m ma mc w) (hb : Bk b K w) : Ts w (fun x => wholeB T m x 3) (isRule T) (.func (.func 90) #[] #[ptr b]) :=
  ⟨_, _, rfl, enters_go Tryz.func90 (by kernel_rfl) (by kernel_rfl), fun x w' hx hw => plusDefeasible1_any (h.go hw) (hb.keep (hw.block _ hb.lt)) hx⟩
set_option maxRecDepth 100000 in
set_option maxHeartbeats 3200000 in
theorem plusDefeasible2_any {x : Int} (h : Kn K A T F n m ma mc w) (hb : Bk b K w) (hx : isRule T x) :
    Calls Tryz.prog 91 #[.int .i64 x, ptr b] w fun e w' => e = .returned (.bool (partB T m x 4)) ∧ Below w.heap.size w w' := by
  obtain ⟨hx0, hx1⟩ := hx
  obtain ⟨q, rfl⟩ := Int.eq_ofNat_of_zero_le hx0
  have C := hide (partly_any h (by omega) (.inr (.inr (.inr rfl))) : Calls Tryz.prog 89 #[ptr K, .int .i64 q, .int .i64 4] w _)
  have c1 := hb.get (i := 0) rfl
  generalize partB T m (q : Int) 4 = o at *
  clear h hb
  go_enter Tryz.func91, Tryz.ntmps91
  go_wp2_with (go_at_call 89; refine C.out.mono ?_; rintro _ w2 ⟨rfl, hb2⟩; have HB := hide hb2; clear hb2)
  go_ret
  exact ⟨rfl, HB.out⟩
theorem plusDefeasible2_ts (h : Kn K A T F n m ma mc w) (hb : Bk b K w) : Ts w (fun x => partB T m x 4) (isRule T) (.func (.func 91) #[] #[ptr b]) :=
  ⟨_, _, rfl, enters_go Tryz.func91 (by kernel_rfl) (by kernel_rfl), fun x w' hx hw => plusDefeasible2_any (h.go hw) (hb.keep (hw.block _ hb.lt)) hx⟩
set_option maxRecDepth 100000 in
set_option maxHeartbeats 3200000 in
theorem plusDefeasible3_any {x : Int} (h : Kn K A T F n m ma mc w) (hb : Bk b K w) (hx : isLit n x) :
    Calls Tryz.prog 92 #[.int .i64 x, ptr b] w fun e w' => e = .returned (.bool (hs m x 2)) ∧ Below w.heap.size w w' := by
  obtain ⟨hx0, hx1⟩ := hx
  obtain ⟨q, rfl⟩ := Int.eq_ofNat_of_zero_le hx0
  have C := hide (has_kn h (by omega) (.inr (.inl rfl)) : Calls Tryz.prog 43 #[ptr K, .int .i64 q, .int .i64 2] w _)
  have c1 := hb.get (i := 0) rfl
  generalize hs m (q : Int) 2 = o at *
  clear h hb
  go_enter Tryz.func92, Tryz.ntmps92
  go_wp2_with (go_at_call 43; refine C.out.mono ?_; rintro _ w2 ⟨rfl, hb2⟩; have HB := hide hb2; clear hb2)
  go_ret
  exact ⟨rfl, HB.out⟩
theorem plusDefeasible3_ts (h : Kn K A T F n m ma mc w) (hb : Bk b K w) : Ts w (fun x => hs m x 2) (isLit n) (.func (.func 92) #[] #[ptr b]) :=
  ⟨_, _, rfl, enters_go Tryz.func92 (by kernel_rfl) (by kernel_rfl), fun x w' hx hw => plusDefeasible3_any (h.go hw) (hb.keep (hw.block _ hb.lt)) hx⟩
set_option maxRecDepth 100000 in
set_option maxHeartbeats 3200000 in
theorem minusDefeasible1_any {x : Int} (h : Kn K A T F n m ma mc w) (hb : Bk b K w) (hx : isRule T x) :
    Calls Tryz.prog 97 #[.int .i64 x, ptr b] w fun e w' => e = .returned (.bool (wholeB T m x 3)) ∧ Below w.heap.size w w' := by
  obtain ⟨hx0, hx1⟩ := hx
  obtain ⟨q, rfl⟩ := Int.eq_ofNat_of_zero_le hx0
  have C := hide (whole_any h (by omega) (.inr (.inr (.inl rfl))) : Calls Tryz.prog 86 #[ptr K, .int .i64 q, .int .i64 3] w _)
  have c1 := hb.get (i := 0) rfl
  generalize wholeB T m (q : Int) 3 = o at *
  clear h hb
  go_enter Tryz.func97, Tryz.ntmps97
  go_wp2_with (go_at_call 86; refine C.out.mono ?_; rintro _ w2 ⟨rfl, hb2⟩; have HB := hide hb2; clear hb2)
  go_ret
  exact ⟨rfl, HB.out⟩
theorem minusDefeasible1_ts (h : Kn K A T F n m ma mc w) (hb : Bk b K w) : Ts w (fun x => wholeB T m x 3) (isRule T) (.func (.func 97) #[] #[ptr b]) :=
  ⟨_, _, rfl, enters_go Tryz.func97 (by kernel_rfl) (by kernel_rfl), fun x w' hx hw => minusDefeasible1_any (h.go hw) (hb.keep (hw.block _ hb.lt)) hx⟩
set_option maxRecDepth 100000 in
set_option maxHeartbeats 3200000 in
theorem minusDefeasible2_any {x : Int} (h : Kn K A T F n m ma mc w) (hb : Bk b K w) (hx : isRule T x) :
    Calls Tryz.prog 98 #[.int .i64 x, ptr b] w fun e w' => e = .returned (.bool (partB T m x 4)) ∧ Below w.heap.size w w' := by
  obtain ⟨hx0, hx1⟩ := hx
  obtain ⟨q, rfl⟩ := Int.eq_ofNat_of_zero_le hx0
  have C := hide (partly_any h (by omega) (.inr (.inr (.inr rfl))) : Calls Tryz.prog 89 #[ptr K, .int .i64 q, .int .i64 4] w _)
  have c1 := hb.get (i := 0) rfl
  generalize partB T m (q : Int) 4 = o at *
  clear h hb
  go_enter Tryz.func98, Tryz.ntmps98
  go_wp2_with (go_at_call 89; refine C.out.mono ?_; rintro _ w2 ⟨rfl, hb2⟩; have HB := hide hb2; clear hb2)
  go_ret
  exact ⟨rfl, HB.out⟩
theorem minusDefeasible2_ts (h : Kn K A T F n m ma mc w) (hb : Bk b K w) : Ts w (fun x => partB T m x 4) (isRule T) (.func (.func 98) #[] #[ptr b]) :=
  ⟨_, _, rfl, enters_go Tryz.func98 (by kernel_rfl) (by kernel_rfl), fun x w' hx hw => minusDefeasible2_any (h.go hw) (hb.keep (hw.block _ hb.lt)) hx⟩
set_option maxRecDepth 100000 in
set_option maxHeartbeats 3200000 in
theorem minusDefeasible3_any {x : Int} (h : Kn K A T F n m ma mc w) (hb : Bk b K w) (hx : isLit n x) :
    Calls Tryz.prog 99 #[.int .i64 x, ptr b] w fun e w' => e = .returned (.bool (hs m x 1)) ∧ Below w.heap.size w w' := by
  obtain ⟨hx0, hx1⟩ := hx
  obtain ⟨q, rfl⟩ := Int.eq_ofNat_of_zero_le hx0
  have C := hide (has_kn h (by omega) (.inl rfl) : Calls Tryz.prog 43 #[ptr K, .int .i64 q, .int .i64 1] w _)
  have c1 := hb.get (i := 0) rfl
  generalize hs m (q : Int) 1 = o at *
  clear h hb
  go_enter Tryz.func99, Tryz.ntmps99
  go_wp2_with (go_at_call 43; refine C.out.mono ?_; rintro _ w2 ⟨rfl, hb2⟩; have HB := hide hb2; clear hb2)
  go_ret
  exact ⟨rfl, HB.out⟩
theorem minusDefeasible3_ts (h : Kn K A T F n m ma mc w) (hb : Bk b K w) : Ts w (fun x => hs m x 1) (isLit n) (.func (.func 99) #[] #[ptr b]) :=
  ⟨_, _, rfl, enters_go Tryz.func99 (by kernel_rfl) (by kernel_rfl), fun x w' hx hw => minusDefeasible3_any (h.go hw) (hb.keep (hw.block _ hb.lt)) hx⟩
end
end Go.Proofs.YthifoamnmhlghaaGreat
