import Derived.Test.YthifoamnmhlghaaGreatNvM
import Derived.Deep.RegionHeld3
set_option maxRecDepth 100000
set_option maxHeartbeats 3200000
namespace Go.Proofs.YthifoamnmhlghaaGreat
open Go.RowKit
theorem enters_go {P : Program} {f : FuncId} {fn : Func} (hf : P.funcs[f]? = some fn) (hn : (fn.name == "runtime.NumGoroutine") = false) (hb : fn.body.isNone = false) : ∀ args w, (callFunc f args).run P w = .ok (.enter f args) w := by
 intro args w
 have h1 : ¬ fn.name = "runtime.NumGoroutine" := by simpa using hn
 have h2 : ¬ fn.body = none := by
  intro e
  rw [e] at hb
  cases hb
 simp [callFunc, hf, h1, h2]
abbrev Bk (b K : Nat) (w : World) : Prop := Fx b 59 [ae K] w
def bf (T : Th) (r : Int) : Prop := 0 ≤ r ∧ r < (T.rules.length : Int)
def cN (n : Nat) (x : Int) : Prop := 0 ≤ x ∧ x < (n : Int)
section
variable {K n b b2 : Nat} {A : Ka} {T : Th} {F m : List Int} {ma : Option Addr} {mc : Nat} {w w' : World}
theorem oV {x t : Int} (h : Kn K A T F n m ma mc w) (hb : Bk b K w) (h2 : Fx b2 81 [.int .i64 t] w) (hx : cN n x) (ht : ax t) :
    Calls Tryz.prog 109 #[.int .i64 x, ae b, ae b2] w fun e w' => e = .returned (.bool (hs m x t)) ∧ Below w.heap.size w w' := by
 obtain ⟨Ab, Ac⟩ := hx
 obtain ⟨q, rfl⟩ := Int.eq_ofNat_of_zero_le Ab
 have C := hide (has_kn h (by omega : q < n) ht)
 have c1 := hb.get (i := 0) rfl
 have c2 := h2.get (i := 0) rfl
 generalize hs m q t = o at *
 clear h hb h2 ht
 go_enter Tryz.func109, Tryz.ntmps109
 go_wp2_with (go_at_call 43; refine C.out.mono ?_; rintro _ w2 ⟨rfl, Aa⟩; have HB := hide Aa; clear Aa)
 go_ret
 exact ⟨rfl, HB.out⟩
theorem qt {t : Int} (h : Kn K A T F n m ma mc w) (hb : Bk b K w) (h2 : Fx b2 81 [.int .i64 t] w) (ht : ax t) : Ts w (fun x => hs m x t) (cN n) (.func (.func 109) #[] #[ae b, ae b2]) :=
 ⟨_, _, rfl, enters_go Tryz.func109 (by kernel_rfl) (by kernel_rfl), fun x w' hx hw => oV (h.go hw) (hb.keep (hw.block _ hb.lt)) (h2.keep (hw.block _ h2.lt)) hx ht⟩
theorem jE {r : Nat} {t : Int} (h : Kn K A T F n m ma mc w) (hr : r < T.rules.length) (ht : ax t) :
    Calls Tryz.prog 86 #[ae K, .int .i64 r, .int .i64 t] w fun e w' => e = .returned (.bool (wholeB T m r t)) ∧ Below w.heap.size w w' := by
 obtain ⟨R, hR⟩ := ap hr
 have Ab := aa w (.cells #[ae K] 59)
 have Ac := aa (w.alloc (.cells #[ae K] 59)) (.cells #[.int .i64 t] 81)
 have hB : Below w.heap.size w ((w.alloc (.cells #[ae K] 59)).alloc (.cells #[.int .i64 t] 81)) := Ab.trans (Ac.mono Ab.size)
 have Ad : Bk w.heap.size K ((w.alloc (.cells #[ae K] 59)).alloc (.cells #[.int .i64 t] 81)) := (Ac.block _ (by simp)).trans (heap_alloc_new w _)
 have Ag : Fx (w.heap.size + 1) 81 [.int .i64 t] ((w.alloc (.cells #[ae K] 59)).alloc (.cells #[.int .i64 t] 81)) := by
  have := heap_alloc_new (w.alloc (.cells #[ae K] 59)) (.cells #[.int .i64 t] 81)
  simpa [Fx] using this
 have hK := h.go hB
 obtain ⟨o, ho⟩ : ∃ o, wholeB T m r t = o := ⟨_, rfl⟩
 rw [ho]
 have HO := hide ho
 clear h Ab Ac ho
 go_enter Tryz.func86, Tryz.ntmps86
 go_upto_region 1 with fail
 generalize (w.alloc (.cells #[ae K] 59)).alloc (.cells #[.int .i64 t] 81) = W at *
 obtain ⟨gr, go, bd, bp, Af, -, -, -, x2, -, Ai, Aa⟩ := dx hK.ta.rules hR
 have k2 := hK.bx.get (i := 2) rfl
 rw [Af] at k2
 have c1 := Ad.get (i := 0) rfl
 have C := hide (ei (c := bp) (qt hK Ad Ag ht) Aa.at1 Ai (fun x hx => hK.pf.body R (List.mem_of_getElem? hR) x hx))
 have HW : Hid (wholeB T m r t = R.body.all fun x => hs m x t) := hide (by unfold wholeB aB; rw [Int.toNat_natCast, hR]; rfl)
 have HB := hide hB
 rw [← HW.out, HO.out] at C
 clear Ad Ag hK Aa hB HW ht Af hR
 go_wp2_with (go_at_call 87; refine C.out.mono ?_; rintro _ w2 ⟨rfl, Ae⟩; have Ah := hide Ae; clear Ae)
 go_ret
 exact ⟨rfl, HB.out.trans (Ah.out.mono HB.out.size)⟩
theorem n8 {x t : Int} (h : Kn K A T F n m ma mc w) (hb : Bk b K w) (h2 : Fx b2 81 [.int .i64 t] w) (hx : cN n x) (ht : ax t) :
    Calls Tryz.prog 110 #[.int .i64 x, ae b, ae b2] w fun e w' => e = .returned (.bool (hs m x t)) ∧ Below w.heap.size w w' := by
 obtain ⟨Ab, Ac⟩ := hx
 obtain ⟨q, rfl⟩ := Int.eq_ofNat_of_zero_le Ab
 have C := hide (has_kn h (by omega : q < n) ht)
 have c1 := hb.get (i := 0) rfl
 have c2 := h2.get (i := 0) rfl
 generalize hs m q t = o at *
 clear h hb h2 ht
 go_enter Tryz.func110, Tryz.ntmps110
 go_wp2_with (go_at_call 43; refine C.out.mono ?_; rintro _ w2 ⟨rfl, Aa⟩; have HB := hide Aa; clear Aa)
 go_ret
 exact ⟨rfl, HB.out⟩
theorem oT {t : Int} (h : Kn K A T F n m ma mc w) (hb : Bk b K w) (h2 : Fx b2 81 [.int .i64 t] w) (ht : ax t) : Ts w (fun x => hs m x t) (cN n) (.func (.func 110) #[] #[ae b, ae b2]) :=
 ⟨_, _, rfl, enters_go Tryz.func110 (by kernel_rfl) (by kernel_rfl), fun x w' hx hw => n8 (h.go hw) (hb.keep (hw.block _ hb.lt)) (h2.keep (hw.block _ h2.lt)) hx ht⟩
theorem jg {r : Nat} {t : Int} (h : Kn K A T F n m ma mc w) (hr : r < T.rules.length) (ht : ax t) :
    Calls Tryz.prog 89 #[ae K, .int .i64 r, .int .i64 t] w fun e w' => e = .returned (.bool (partB T m r t)) ∧ Below w.heap.size w w' := by
 obtain ⟨R, hR⟩ := ap hr
 have Ab := aa w (.cells #[ae K] 59)
 have Ac := aa (w.alloc (.cells #[ae K] 59)) (.cells #[.int .i64 t] 81)
 have hB : Below w.heap.size w ((w.alloc (.cells #[ae K] 59)).alloc (.cells #[.int .i64 t] 81)) := Ab.trans (Ac.mono Ab.size)
 have Ad : Bk w.heap.size K ((w.alloc (.cells #[ae K] 59)).alloc (.cells #[.int .i64 t] 81)) := (Ac.block _ (by simp)).trans (heap_alloc_new w _)
 have Ag : Fx (w.heap.size + 1) 81 [.int .i64 t] ((w.alloc (.cells #[ae K] 59)).alloc (.cells #[.int .i64 t] 81)) := by
  have := heap_alloc_new (w.alloc (.cells #[ae K] 59)) (.cells #[.int .i64 t] 81)
  simpa [Fx] using this
 have hK := h.go hB
 obtain ⟨o, ho⟩ : ∃ o, partB T m r t = o := ⟨_, rfl⟩
 rw [ho]
 have HO := hide ho
 clear h Ab Ac ho
 go_enter Tryz.func89, Tryz.ntmps89
 go_upto_region 1 with fail
 generalize (w.alloc (.cells #[ae K] 59)).alloc (.cells #[.int .i64 t] 81) = W at *
 obtain ⟨gr, go, bd, bp, Af, -, -, -, x2, -, Ai, Aa⟩ := dx hK.ta.rules hR
 have k2 := hK.bx.get (i := 2) rfl
 rw [Af] at k2
 have c1 := Ad.get (i := 0) rfl
 have C := hide (eK (c := bp) (oT hK Ad Ag ht) Aa.at1 Ai (fun x hx => hK.pf.body R (List.mem_of_getElem? hR) x hx))
 have HW : Hid (partB T m r t = R.body.any fun x => hs m x t) := hide (by unfold partB aB; rw [Int.toNat_natCast, hR]; rfl)
 have HB := hide hB
 rw [← HW.out, HO.out] at C
 clear Ad Ag hK Aa hB HW ht Af hR
 go_wp2_with (go_at_call 84; refine C.out.mono ?_; rintro _ w2 ⟨rfl, Ae⟩; have Ah := hide Ae; clear Ae)
 go_ret
 exact ⟨rfl, HB.out.trans (Ah.out.mono HB.out.size)⟩
theorem mC {r s : Nat} (h : Kn K A T F n m ma mc w) (hr : r < T.rules.length) :
    Calls Tryz.prog 96 #[ae K, .int .i64 r, .int .i64 s] w fun e w' => e = .returned (.bool (beatB T r s)) ∧ Below w.heap.size w w' := by
 obtain ⟨l, hl⟩ := ap (l := T.beats) (i := r) (by rw [h.pf.ok.bl]; exact hr)
 obtain ⟨gr, go, bd, bp, Ab, -, x0, -, Ac, Aa⟩ := cg h.ta.beats hl
 have k3 := h.bx.get (i := 3) rfl
 rw [Ab] at k3
 have C := hide (lm (c := bp) Aa.at1 Ac (h.pf.beat l (List.mem_of_getElem? hl)) s)
 have HW : Hid (beatB T r s = decide ((s : Int) ∈ l)) := hide (by unfold beatB; rw [bS (by rw [Int.toNat_natCast]; exact hl)])
 have Ad : r < T.beats.length := by rw [h.pf.ok.bl]; exact hr
 unfold Sr at C
 rw [HW.out]
 generalize decide ((s : Int) ∈ l) = o at *
 clear h hl Aa HW Ab hr
 go_enter Tryz.func96, Tryz.ntmps96
 go_wp2_with (go_at_call 73; refine C.out.mono ?_; rintro _ w2 ⟨⟨z, rfl⟩, rfl⟩)
 go_ret
 exact ⟨rfl, Below.refl _ _⟩
theorem lC {x : Int} (h : Kn K A T F n m ma mc w) (hb : Bk b K w) (hx : bf T x) :
    Calls Tryz.prog 85 #[.int .i64 x, ae b] w fun e w' => e = .returned (.bool (wholeB T m x 1)) ∧ Below w.heap.size w w' := by
 obtain ⟨Ab, Ac⟩ := hx
 obtain ⟨q, rfl⟩ := Int.eq_ofNat_of_zero_le Ab
 have C := hide (jE h (by omega) (.inl rfl) : Calls Tryz.prog 86 #[ae K, .int .i64 q, .int .i64 1] w _)
 have c1 := hb.get (i := 0) rfl
 generalize wholeB T m (q : Int) 1 = o at *
 clear h hb
 go_enter Tryz.func85, Tryz.ntmps85
 go_wp2_with (go_at_call 86; refine C.out.mono ?_; rintro _ w2 ⟨rfl, Aa⟩; have HB := hide Aa; clear Aa)
 go_ret
 exact ⟨rfl, HB.out⟩
theorem lW (h : Kn K A T F n m ma mc w) (hb : Bk b K w) : Ts w (fun x => wholeB T m x 1) (bf T) (.func (.func 85) #[] #[ae b]) :=
 ⟨_, _, rfl, enters_go Tryz.func85 (by kernel_rfl) (by kernel_rfl), fun x w' hx hw => lC (h.go hw) (hb.keep (hw.block _ hb.lt)) hx⟩
theorem ky {x : Int} (h : Kn K A T F n m ma mc w) (hb : Bk b K w) (hx : bf T x) :
    Calls Tryz.prog 88 #[.int .i64 x, ae b] w fun e w' => e = .returned (.bool (partB T m x 2)) ∧ Below w.heap.size w w' := by
 obtain ⟨Ab, Ac⟩ := hx
 obtain ⟨q, rfl⟩ := Int.eq_ofNat_of_zero_le Ab
 have C := hide (jg h (by omega) (.inr (.inl rfl)) : Calls Tryz.prog 89 #[ae K, .int .i64 q, .int .i64 2] w _)
 have c1 := hb.get (i := 0) rfl
 generalize partB T m (q : Int) 2 = o at *
 clear h hb
 go_enter Tryz.func88, Tryz.ntmps88
 go_wp2_with (go_at_call 89; refine C.out.mono ?_; rintro _ w2 ⟨rfl, Aa⟩; have HB := hide Aa; clear Aa)
 go_ret
 exact ⟨rfl, HB.out⟩
theorem kK (h : Kn K A T F n m ma mc w) (hb : Bk b K w) : Ts w (fun x => partB T m x 2) (bf T) (.func (.func 88) #[] #[ae b]) :=
 ⟨_, _, rfl, enters_go Tryz.func88 (by kernel_rfl) (by kernel_rfl), fun x w' hx hw => ky (h.go hw) (hb.keep (hw.block _ hb.lt)) hx⟩
theorem fA {x : Int} (h : Kn K A T F n m ma mc w) (hb : Bk b K w) (hx : bf T x) :
    Calls Tryz.prog 90 #[.int .i64 x, ae b] w fun e w' => e = .returned (.bool (wholeB T m x 3)) ∧ Below w.heap.size w w' := by
 obtain ⟨Ab, Ac⟩ := hx
 obtain ⟨q, rfl⟩ := Int.eq_ofNat_of_zero_le Ab
 have C := hide (jE h (by omega) (.inr (.inr (.inl rfl))) : Calls Tryz.prog 86 #[ae K, .int .i64 q, .int .i64 3] w _)
 have c1 := hb.get (i := 0) rfl
 generalize wholeB T m (q : Int) 3 = o at *
 clear h hb
 go_enter Tryz.func90, Tryz.ntmps90
 go_wp2_with (go_at_call 86; refine C.out.mono ?_; rintro _ w2 ⟨rfl, Aa⟩; have HB := hide Aa; clear Aa)
 go_ret
 exact ⟨rfl, HB.out⟩
theorem jC (h : Kn K A T F n m ma mc w) (hb : Bk b K w) : Ts w (fun x => wholeB T m x 3) (bf T) (.func (.func 90) #[] #[ae b]) :=
 ⟨_, _, rfl, enters_go Tryz.func90 (by kernel_rfl) (by kernel_rfl), fun x w' hx hw => fA (h.go hw) (hb.keep (hw.block _ hb.lt)) hx⟩
theorem jo {x : Int} (h : Kn K A T F n m ma mc w) (hb : Bk b K w) (hx : bf T x) :
    Calls Tryz.prog 91 #[.int .i64 x, ae b] w fun e w' => e = .returned (.bool (partB T m x 4)) ∧ Below w.heap.size w w' := by
 obtain ⟨Ab, Ac⟩ := hx
 obtain ⟨q, rfl⟩ := Int.eq_ofNat_of_zero_le Ab
 have C := hide (jg h (by omega) (.inr (.inr (.inr rfl))) : Calls Tryz.prog 89 #[ae K, .int .i64 q, .int .i64 4] w _)
 have c1 := hb.get (i := 0) rfl
 generalize partB T m (q : Int) 4 = o at *
 clear h hb
 go_enter Tryz.func91, Tryz.ntmps91
 go_wp2_with (go_at_call 89; refine C.out.mono ?_; rintro _ w2 ⟨rfl, Aa⟩; have HB := hide Aa; clear Aa)
 go_ret
 exact ⟨rfl, HB.out⟩
theorem jn {x : Int} (h : Kn K A T F n m ma mc w) (hb : Bk b K w) (hx : cN n x) :
    Calls Tryz.prog 92 #[.int .i64 x, ae b] w fun e w' => e = .returned (.bool (hs m x 2)) ∧ Below w.heap.size w w' := by
 obtain ⟨Ab, Ac⟩ := hx
 obtain ⟨q, rfl⟩ := Int.eq_ofNat_of_zero_le Ab
 have C := hide (has_kn h (by omega) (.inr (.inl rfl)) : Calls Tryz.prog 43 #[ae K, .int .i64 q, .int .i64 2] w _)
 have c1 := hb.get (i := 0) rfl
 generalize hs m (q : Int) 2 = o at *
 clear h hb
 go_enter Tryz.func92, Tryz.ntmps92
 go_wp2_with (go_at_call 43; refine C.out.mono ?_; rintro _ w2 ⟨rfl, Aa⟩; have HB := hide Aa; clear Aa)
 go_ret
 exact ⟨rfl, HB.out⟩
theorem ju (h : Kn K A T F n m ma mc w) (hb : Bk b K w) : Ts w (fun x => hs m x 2) (cN n) (.func (.func 92) #[] #[ae b]) :=
 ⟨_, _, rfl, enters_go Tryz.func92 (by kernel_rfl) (by kernel_rfl), fun x w' hx hw => jn (h.go hw) (hb.keep (hw.block _ hb.lt)) hx⟩
theorem iO {x : Int} (h : Kn K A T F n m ma mc w) (hb : Bk b K w) (hx : bf T x) :
    Calls Tryz.prog 97 #[.int .i64 x, ae b] w fun e w' => e = .returned (.bool (wholeB T m x 3)) ∧ Below w.heap.size w w' := by
 obtain ⟨Ab, Ac⟩ := hx
 obtain ⟨q, rfl⟩ := Int.eq_ofNat_of_zero_le Ab
 have C := hide (jE h (by omega) (.inr (.inr (.inl rfl))) : Calls Tryz.prog 86 #[ae K, .int .i64 q, .int .i64 3] w _)
 have c1 := hb.get (i := 0) rfl
 generalize wholeB T m (q : Int) 3 = o at *
 clear h hb
 go_enter Tryz.func97, Tryz.ntmps97
 go_wp2_with (go_at_call 86; refine C.out.mono ?_; rintro _ w2 ⟨rfl, Aa⟩; have HB := hide Aa; clear Aa)
 go_ret
 exact ⟨rfl, HB.out⟩
theorem eW {x : Int} (h : Kn K A T F n m ma mc w) (hb : Bk b K w) (hx : bf T x) :
    Calls Tryz.prog 98 #[.int .i64 x, ae b] w fun e w' => e = .returned (.bool (partB T m x 4)) ∧ Below w.heap.size w w' := by
 obtain ⟨Ab, Ac⟩ := hx
 obtain ⟨q, rfl⟩ := Int.eq_ofNat_of_zero_le Ab
 have C := hide (jg h (by omega) (.inr (.inr (.inr rfl))) : Calls Tryz.prog 89 #[ae K, .int .i64 q, .int .i64 4] w _)
 have c1 := hb.get (i := 0) rfl
 generalize partB T m (q : Int) 4 = o at *
 clear h hb
 go_enter Tryz.func98, Tryz.ntmps98
 go_wp2_with (go_at_call 89; refine C.out.mono ?_; rintro _ w2 ⟨rfl, Aa⟩; have HB := hide Aa; clear Aa)
 go_ret
 exact ⟨rfl, HB.out⟩
theorem jq (h : Kn K A T F n m ma mc w) (hb : Bk b K w) : Ts w (fun x => partB T m x 4) (bf T) (.func (.func 98) #[] #[ae b]) :=
 ⟨_, _, rfl, enters_go Tryz.func98 (by kernel_rfl) (by kernel_rfl), fun x w' hx hw => eW (h.go hw) (hb.keep (hw.block _ hb.lt)) hx⟩
theorem iR {x : Int} (h : Kn K A T F n m ma mc w) (hb : Bk b K w) (hx : cN n x) :
    Calls Tryz.prog 99 #[.int .i64 x, ae b] w fun e w' => e = .returned (.bool (hs m x 1)) ∧ Below w.heap.size w w' := by
 obtain ⟨Ab, Ac⟩ := hx
 obtain ⟨q, rfl⟩ := Int.eq_ofNat_of_zero_le Ab
 have C := hide (has_kn h (by omega) (.inl rfl) : Calls Tryz.prog 43 #[ae K, .int .i64 q, .int .i64 1] w _)
 have c1 := hb.get (i := 0) rfl
 generalize hs m (q : Int) 1 = o at *
 clear h hb
 go_enter Tryz.func99, Tryz.ntmps99
 go_wp2_with (go_at_call 43; refine C.out.mono ?_; rintro _ w2 ⟨rfl, Aa⟩; have HB := hide Aa; clear Aa)
 go_ret
 exact ⟨rfl, HB.out⟩
theorem jp (h : Kn K A T F n m ma mc w) (hb : Bk b K w) : Ts w (fun x => hs m x 1) (cN n) (.func (.func 99) #[] #[ae b]) :=
 ⟨_, _, rfl, enters_go Tryz.func99 (by kernel_rfl) (by kernel_rfl), fun x w' hx hw => iR (h.go hw) (hb.keep (hw.block _ hb.lt)) hx⟩
end
end Go.Proofs.YthifoamnmhlghaaGreat
set_option maxRecDepth 100000
set_option maxHeartbeats 6400000
namespace Go.Proofs.YthifoamnmhlghaaGreat
open Go.RowKit
theorem al {X Y : World} {p : Addr} {u : Value} (h : X.cell? p = some u) (hb : Below X.heap.size X Y) : Y.cell? p = some u := (World.cell?_of_block (hb.block p.block (World.block_lt_of_cell? X _ h))).trans h
abbrev S4 (wz : World) (p0 p1 p2 p3 : Addr) (u0 u1 u2 u3 : Value) (X : World) : Prop := X.cell? p0 = some u0 ∧ X.cell? p1 = some u1 ∧ X.cell? p2 = some u2 ∧ X.cell? p3 = some u3 ∧ Below wz.heap.size wz X
section
variable {wz X Y : World} {p0 p1 p2 p3 : Addr} {u0 u1 u2 u3 : Value}
theorem S4.b (h : S4 wz p0 p1 p2 p3 u0 u1 u2 u3 X) : Below wz.heap.size wz X := h.2.2.2.2
theorem S4.drew (h : S4 wz p0 p1 p2 p3 u0 u1 u2 u3 X) : S4 wz p0 p1 p2 p3 u0 u1 u2 u3 X.drew := ⟨h.1, h.2.1, h.2.2.1, h.2.2.2.1, (h.2.2.2.2).drew⟩
theorem S4.below (h : S4 wz p0 p1 p2 p3 u0 u1 u2 u3 X) (hb : Below X.heap.size X Y) : S4 wz p0 p1 p2 p3 u0 u1 u2 u3 Y := ⟨al (h.1) hb, al (h.2.1) hb, al (h.2.2.1) hb, al (h.2.2.2.1) hb, (S4.b h).trans (hb.mono (S4.b h).size)⟩
end
abbrev S6 (wz : World) (p0 p1 p2 p3 p4 p5 : Addr) (u0 u1 u2 u3 u4 u5 : Value) (X : World) : Prop := X.cell? p0 = some u0 ∧ X.cell? p1 = some u1 ∧ X.cell? p2 = some u2 ∧ X.cell? p3 = some u3 ∧ X.cell? p4 = some u4 ∧ X.cell? p5 = some u5 ∧ Below wz.heap.size wz X
section
variable {wz X Y : World} {p0 p1 p2 p3 p4 p5 : Addr} {u0 u1 u2 u3 u4 u5 : Value}
theorem S6.b (h : S6 wz p0 p1 p2 p3 p4 p5 u0 u1 u2 u3 u4 u5 X) : Below wz.heap.size wz X := h.2.2.2.2.2.2
theorem S6.drew (h : S6 wz p0 p1 p2 p3 p4 p5 u0 u1 u2 u3 u4 u5 X) : S6 wz p0 p1 p2 p3 p4 p5 u0 u1 u2 u3 u4 u5 X.drew := ⟨h.1, h.2.1, h.2.2.1, h.2.2.2.1, h.2.2.2.2.1, h.2.2.2.2.2.1, (h.2.2.2.2.2.2).drew⟩
theorem S6.below (h : S6 wz p0 p1 p2 p3 p4 p5 u0 u1 u2 u3 u4 u5 X) (hb : Below X.heap.size X Y) : S6 wz p0 p1 p2 p3 p4 p5 u0 u1 u2 u3 u4 u5 Y := ⟨al (h.1) hb, al (h.2.1) hb, al (h.2.2.1) hb, al (h.2.2.2.1) hb, al (h.2.2.2.2.1) hb, al (h.2.2.2.2.2.1) hb, (S6.b h).trans (hb.mono (S6.b h).size)⟩
end
abbrev S8 (wz : World) (p0 p1 p2 p3 p4 p5 p6 p7 : Addr) (u0 u1 u2 u3 u4 u5 u6 u7 : Value) (X : World) : Prop := X.cell? p0 = some u0 ∧ X.cell? p1 = some u1 ∧ X.cell? p2 = some u2 ∧ X.cell? p3 = some u3 ∧ X.cell? p4 = some u4 ∧ X.cell? p5 = some u5 ∧ X.cell? p6 = some u6 ∧ X.cell? p7 = some u7 ∧ Below wz.heap.size wz X
section
variable {wz X Y : World} {p0 p1 p2 p3 p4 p5 p6 p7 : Addr} {u0 u1 u2 u3 u4 u5 u6 u7 : Value}
theorem S8.b (h : S8 wz p0 p1 p2 p3 p4 p5 p6 p7 u0 u1 u2 u3 u4 u5 u6 u7 X) : Below wz.heap.size wz X := h.2.2.2.2.2.2.2.2
theorem S8.drew (h : S8 wz p0 p1 p2 p3 p4 p5 p6 p7 u0 u1 u2 u3 u4 u5 u6 u7 X) : S8 wz p0 p1 p2 p3 p4 p5 p6 p7 u0 u1 u2 u3 u4 u5 u6 u7 X.drew := ⟨h.1, h.2.1, h.2.2.1, h.2.2.2.1, h.2.2.2.2.1, h.2.2.2.2.2.1, h.2.2.2.2.2.2.1, h.2.2.2.2.2.2.2.1, (h.2.2.2.2.2.2.2.2).drew⟩
theorem S8.below (h : S8 wz p0 p1 p2 p3 p4 p5 p6 p7 u0 u1 u2 u3 u4 u5 u6 u7 X) (hb : Below X.heap.size X Y) : S8 wz p0 p1 p2 p3 p4 p5 p6 p7 u0 u1 u2 u3 u4 u5 u6 u7 Y := ⟨al (h.1) hb, al (h.2.1) hb, al (h.2.2.1) hb, al (h.2.2.2.1) hb, al (h.2.2.2.2.1) hb, al (h.2.2.2.2.2.1) hb, al (h.2.2.2.2.2.2.1) hb, al (h.2.2.2.2.2.2.2.1) hb, (S8.b h).trans (hb.mono (S8.b h).size)⟩
end
abbrev Bf (b : Nat) (v : Value) (w : World) : Prop := Fx b 96 [v] w
abbrev Bi (b : Nat) (x : Int) (w : World) : Prop := Fx b 3 [.int .i64 x] w
section
variable {K n b b2 : Nat} {A : Ka} {T : Th} {F m : List Int} {ma : Option Addr} {mc : Nat} {w w' : World} {p : Int → Bool} {v : Value}
theorem jS {x : Int} (h : Kn K A T F n m ma mc w) (hb : Bk b K w) (h2 : Bf b2 v w) (hv : Ts w p (bf T) v) (hx : cN n x) :
    Calls Tryz.prog 111 #[.int .i64 x, ae b, ae b2] w fun e w' => e = .returned (.bool ((af T kA x).all p)) ∧ Below w.heap.size w w' := by
 obtain ⟨Ab, Ae⟩ := hx
 obtain ⟨q, rfl⟩ := Int.eq_ofNat_of_zero_le Ab
 have Ac : q < n := by omega
 obtain ⟨_, _, la, lc, eg, -, x0, -, Ad, Aa⟩ := cg h.l2 (eT Ac)
 cases eg
 rw [Nat.zero_add] at x0
 have k7 := h.bx.get (i := 7) rfl
 have c1 := hb.get (i := 0) rfl
 have c2 := h2.get (i := 0) rfl
 have C : Hid (∀ X, Below w.heap.size w X → Calls Tryz.prog 87 #[.slice la (af T kA q).length lc, v] X fun e w' => e = .returned (.bool ((af T kA q).all p)) ∧ Below X.heap.size X w') := hide fun X hX => ei (c := lc) (hv.go hX) (Aa.at1.below hX) Ad (fun x hx => ey hx)
 generalize (af T kA q).all p = o at *
 clear h hb h2 Aa hv
 have HT : S4 w ⟨b, 0, none⟩ ⟨K, 7, none⟩ ⟨A.s2, q, none⟩ ⟨b2, 0, none⟩ (ae K) (.slice (some ⟨A.s2, 0, none⟩) n n) (.slice la (af T kA q).length lc) (v) w := ⟨c1, k7, x0, c2, Below.refl _ _⟩
 go_enter Tryz.func111, Tryz.ntmps111
 go_upto_region 1 with fail
 go_region_held3 (fun X : World => S4 w ⟨b, 0, none⟩ ⟨K, 7, none⟩ ⟨A.s2, q, none⟩ ⟨b2, 0, none⟩ (ae K) (.slice (some ⟨A.s2, 0, none⟩) n n) (.slice la (af T kA q).length lc) (v) X) (first | exact S4.drew ‹_› | assumption | exact S4.below ‹_› ‹_›) (first | (go_at_call 87; refine (C.out _ (S4.b ‹_›)).mono ?_; rintro e w' ⟨rfl, hb⟩))
 rename_i hS4
 go_wp2_with fail
 go_ret
 exact ⟨rfl, S4.b hS4⟩
theorem kf (h : Kn K A T F n m ma mc w) (hb : Bk b K w) (h2 : Bf b2 v w) (hv : Ts w p (bf T) v) : Ts w (fun x => (af T kA x).all p) (cN n) (.func (.func 111) #[] #[ae b, ae b2]) :=
 ⟨_, _, rfl, enters_go Tryz.func111 (by kernel_rfl) (by kernel_rfl), fun x w' hx hw => jS (h.go hw) (hb.keep (hw.block _ hb.lt)) (h2.keep (hw.block _ h2.lt)) (hv.go hw) hx⟩
theorem ku {q : Nat} (h : Kn K A T F n m ma mc w) (hq : q < n) (hv : Ts w p (bf T) v) :
    Calls Tryz.prog 93 #[ae K, .int .i64 q, v] w fun e w' => e = .returned (.bool ((row T.foes q).all fun f => (af T kA f).all p)) ∧ Below w.heap.size w w' := by
 have Ad := aa w (.cells #[ae K] 59)
 have Ae := aa (w.alloc (.cells #[ae K] 59)) (.cells #[v] 96)
 have hB : Below w.heap.size w ((w.alloc (.cells #[ae K] 59)).alloc (.cells #[v] 96)) := Ad.trans (Ae.mono Ad.size)
 have Ab : Bk w.heap.size K ((w.alloc (.cells #[ae K] 59)).alloc (.cells #[v] 96)) := (Ae.block _ (by simp)).trans (heap_alloc_new w _)
 have Ac : Bf (w.heap.size + 1) v ((w.alloc (.cells #[ae K] 59)).alloc (.cells #[v] 96)) := by
  have := heap_alloc_new (w.alloc (.cells #[ae K] 59)) (.cells #[v] 96)
  simpa [Fx] using this
 have hK := h.go hB
 have hV := hv.go hB
 obtain ⟨o, ho⟩ : ∃ o, ((row T.foes q).all fun f => (af T kA f).all p) = o := ⟨_, rfl⟩
 rw [ho]
 have HO := hide ho
 obtain ⟨fk, Ai, Ah, Am, -⟩ := hv
 rw [Ah] at hB Ab Ac hK hV ⊢
 clear h Ad Ae ho Ah
 go_enter Tryz.func93, Tryz.ntmps93
 go_upto_region 1 with fail
 generalize (w.alloc (.cells #[ae K] 59)).alloc (.cells #[.func (.func fk) #[] Ai] 96) = W at *
 obtain ⟨l, hl⟩ := ap (l := T.foes) (i := q) (by have := hK.pf.ok.fl; have := hK.pf.ln; omega)
 have Al : q < T.foes.length := (List.getElem?_eq_some_iff.1 hl).1
 obtain ⟨gr, go, bd, bp, Ag, -, x0, -, Ak, Aa⟩ := cg hK.ta.foes hl
 have k1 := hK.bx.get (i := 1) rfl
 rw [Ag] at k1
 have c1 := Ab.get (i := 0) rfl
 have er : row T.foes (q : Int) = l := bS (by rw [Int.toNat_natCast]; exact hl)
 have C := hide (ei (c := bp) (kf hK Ab Ac hV) Aa.at1 Ak (fun x hx => hK.pf.foe q hq x (by rw [er]; exact hx)))
 have HB := hide hB
 rw [er] at HO
 rw [HO.out] at C
 clear Ab Ac hK Aa hB Ag hl hV er
 go_wp2_with (go_at_call 87; refine C.out.mono ?_; rintro _ w2 ⟨rfl, Af⟩; have Aj := hide Af; clear Af)
 go_ret
 exact ⟨rfl, HB.out.trans (Aj.out.mono HB.out.size)⟩
theorem j9 {x : Int} (h : Kn K A T F n m ma mc w) (hb : Bk b K w) (h2 : Bf b2 v w) (hv : Ts w p (bf T) v) (hx : cN n x) :
    Calls Tryz.prog 112 #[.int .i64 x, ae b, ae b2] w fun e w' => e = .returned (.bool ((af T kA x).any p)) ∧ Below w.heap.size w w' := by
 obtain ⟨Ab, Ae⟩ := hx
 obtain ⟨q, rfl⟩ := Int.eq_ofNat_of_zero_le Ab
 have Ac : q < n := by omega
 obtain ⟨_, _, la, lc, eg, -, x0, -, Ad, Aa⟩ := cg h.l2 (eT Ac)
 cases eg
 rw [Nat.zero_add] at x0
 have k7 := h.bx.get (i := 7) rfl
 have c1 := hb.get (i := 0) rfl
 have c2 := h2.get (i := 0) rfl
 have C : Hid (∀ X, Below w.heap.size w X → Calls Tryz.prog 84 #[.slice la (af T kA q).length lc, v] X fun e w' => e = .returned (.bool ((af T kA q).any p)) ∧ Below X.heap.size X w') := hide fun X hX => eK (c := lc) (hv.go hX) (Aa.at1.below hX) Ad (fun x hx => ey hx)
 generalize (af T kA q).any p = o at *
 clear h hb h2 Aa hv
 have HT : S4 w ⟨b, 0, none⟩ ⟨K, 7, none⟩ ⟨A.s2, q, none⟩ ⟨b2, 0, none⟩ (ae K) (.slice (some ⟨A.s2, 0, none⟩) n n) (.slice la (af T kA q).length lc) (v) w := ⟨c1, k7, x0, c2, Below.refl _ _⟩
 go_enter Tryz.func112, Tryz.ntmps112
 go_upto_region 1 with fail
 go_region_held3 (fun X : World => S4 w ⟨b, 0, none⟩ ⟨K, 7, none⟩ ⟨A.s2, q, none⟩ ⟨b2, 0, none⟩ (ae K) (.slice (some ⟨A.s2, 0, none⟩) n n) (.slice la (af T kA q).length lc) (v) X) (first | exact S4.drew ‹_› | assumption | exact S4.below ‹_› ‹_›) (first | (go_at_call 84; refine (C.out _ (S4.b ‹_›)).mono ?_; rintro e w' ⟨rfl, hb⟩))
 rename_i hS4
 go_wp2_with fail
 go_ret
 exact ⟨rfl, S4.b hS4⟩
theorem lq (h : Kn K A T F n m ma mc w) (hb : Bk b K w) (h2 : Bf b2 v w) (hv : Ts w p (bf T) v) : Ts w (fun x => (af T kA x).any p) (cN n) (.func (.func 112) #[] #[ae b, ae b2]) :=
 ⟨_, _, rfl, enters_go Tryz.func112 (by kernel_rfl) (by kernel_rfl), fun x w' hx hw => j9 (h.go hw) (hb.keep (hw.block _ hb.lt)) (h2.keep (hw.block _ h2.lt)) (hv.go hw) hx⟩
theorem lw {q : Nat} (h : Kn K A T F n m ma mc w) (hq : q < n) (hv : Ts w p (bf T) v) :
    Calls Tryz.prog 100 #[ae K, .int .i64 q, v] w fun e w' => e = .returned (.bool ((row T.foes q).any fun f => (af T kA f).any p)) ∧ Below w.heap.size w w' := by
 have Ad := aa w (.cells #[ae K] 59)
 have Ae := aa (w.alloc (.cells #[ae K] 59)) (.cells #[v] 96)
 have hB : Below w.heap.size w ((w.alloc (.cells #[ae K] 59)).alloc (.cells #[v] 96)) := Ad.trans (Ae.mono Ad.size)
 have Ab : Bk w.heap.size K ((w.alloc (.cells #[ae K] 59)).alloc (.cells #[v] 96)) := (Ae.block _ (by simp)).trans (heap_alloc_new w _)
 have Ac : Bf (w.heap.size + 1) v ((w.alloc (.cells #[ae K] 59)).alloc (.cells #[v] 96)) := by
  have := heap_alloc_new (w.alloc (.cells #[ae K] 59)) (.cells #[v] 96)
  simpa [Fx] using this
 have hK := h.go hB
 have hV := hv.go hB
 obtain ⟨o, ho⟩ : ∃ o, ((row T.foes q).any fun f => (af T kA f).any p) = o := ⟨_, rfl⟩
 rw [ho]
 have HO := hide ho
 obtain ⟨fk, Ai, Ah, Am, -⟩ := hv
 rw [Ah] at hB Ab Ac hK hV ⊢
 clear h Ad Ae ho Ah
 go_enter Tryz.func100, Tryz.ntmps100
 go_upto_region 1 with fail
 generalize (w.alloc (.cells #[ae K] 59)).alloc (.cells #[.func (.func fk) #[] Ai] 96) = W at *
 obtain ⟨l, hl⟩ := ap (l := T.foes) (i := q) (by have := hK.pf.ok.fl; have := hK.pf.ln; omega)
 have Al : q < T.foes.length := (List.getElem?_eq_some_iff.1 hl).1
 obtain ⟨gr, go, bd, bp, Ag, -, x0, -, Ak, Aa⟩ := cg hK.ta.foes hl
 have k1 := hK.bx.get (i := 1) rfl
 rw [Ag] at k1
 have c1 := Ab.get (i := 0) rfl
 have er : row T.foes (q : Int) = l := bS (by rw [Int.toNat_natCast]; exact hl)
 have C := hide (eK (c := bp) (lq hK Ab Ac hV) Aa.at1 Ak (fun x hx => hK.pf.foe q hq x (by rw [er]; exact hx)))
 have HB := hide hB
 rw [er] at HO
 rw [HO.out] at C
 clear Ab Ac hK Aa hB Ag hl hV er
 go_wp2_with (go_at_call 84; refine C.out.mono ?_; rintro _ w2 ⟨rfl, Af⟩; have Aj := hide Af; clear Af)
 go_ret
 exact ⟨rfl, HB.out.trans (Aj.out.mono HB.out.size)⟩
theorem mg {q : Nat} (h : Kn K A T F n m ma mc w) (hq : q < n) :
    Calls Tryz.prog 67 #[ae K, .int .i64 q] w fun e w' => e = .returned (.bool (plusS T F m q)) ∧ Below w.heap.size w w' := by
 have hB := aa w (.cells #[ae K] 59)
 have Ab : Bk w.heap.size K (w.alloc (.cells #[ae K] 59)) := heap_alloc_new w _
 have hK := h.go hB
 obtain ⟨o, ho⟩ : ∃ o, plusS T F m q = o := ⟨_, rfl⟩
 rw [ho]
 have HO := hide ho
 clear h ho
 go_enter Tryz.func67, Tryz.ntmps67
 go_upto_region 1 with fail
 generalize w.alloc (.cells #[ae K] 59) = W at *
 obtain ⟨_, _, la, lc, eg, -, x0, -, Ae, Aa⟩ := cg hK.l0 (eT hq)
 cases eg
 rw [Nat.zero_add] at x0
 have k4 := hK.bx.get (i := 4) rfl
 have k5 := hK.bx.get (i := 5) rfl
 have f0 := hK.ff.get (oD hq)
 have c1 := Ab.get (i := 0) rfl
 have C := hide (eK (c := lc) (lW hK Ab) Aa.at1 Ae (fun x hx => ey hx))
 have HB := hide hB
 unfold plusS at HO
 clear Ab hK Aa hB
 by_cases hf : (q : Int) ∈ F
 · have HE : Hid (o = true) := hide (by rw [← HO.out, decide_eq_true hf]; rfl)
   rw [decide_eq_true hf] at f0
   clear hf C HO x0
   go_wp2_with fail
   go_ret
   exact ⟨by rw [HE.out]; rfl, HB.out⟩
 · have HE : Hid ((af T kS q).any (fun r => wholeB T m r 1) = o) := hide (by rw [← HO.out, decide_eq_false hf]; rfl)
   rw [decide_eq_false hf] at f0
   rw [HE.out] at C
   clear hf HO
   go_wp2_with (go_at_call 84; refine C.out.mono ?_; rintro _ w2 ⟨rfl, Ac⟩; have Ad := hide Ac; clear Ac)
   go_ret
   exact ⟨rfl, HB.out.trans (Ad.out.mono HB.out.size)⟩
theorem ld {q : Nat} (h : Kn K A T F n m ma mc w) (hq : q < n) :
    Calls Tryz.prog 68 #[ae K, .int .i64 q] w fun e w' => e = .returned (.bool (minusS T F m q)) ∧ Below w.heap.size w w' := by
 have hB := aa w (.cells #[ae K] 59)
 have Ab : Bk w.heap.size K (w.alloc (.cells #[ae K] 59)) := heap_alloc_new w _
 have hK := h.go hB
 obtain ⟨o, ho⟩ : ∃ o, minusS T F m q = o := ⟨_, rfl⟩
 rw [ho]
 have HO := hide ho
 clear h ho
 go_enter Tryz.func68, Tryz.ntmps68
 go_upto_region 1 with fail
 generalize w.alloc (.cells #[ae K] 59) = W at *
 obtain ⟨_, _, la, lc, eg, -, x0, -, Ae, Aa⟩ := cg hK.l0 (eT hq)
 cases eg
 rw [Nat.zero_add] at x0
 have k4 := hK.bx.get (i := 4) rfl
 have k5 := hK.bx.get (i := 5) rfl
 have f0 := hK.ff.get (oD hq)
 have c1 := Ab.get (i := 0) rfl
 have C := hide (ei (c := lc) (kK hK Ab) Aa.at1 Ae (fun x hx => ey hx))
 have HB := hide hB
 unfold minusS at HO
 clear Ab hK Aa hB
 by_cases hf : (q : Int) ∈ F
 · have HE : Hid (o = false) := hide (by rw [← HO.out, decide_eq_true hf]; rfl)
   rw [decide_eq_true hf] at f0
   clear hf C HO x0
   go_wp2_with fail
   go_ret
   exact ⟨by rw [HE.out]; rfl, HB.out⟩
 · have HE : Hid ((af T kS q).all (fun r => partB T m r 2) = o) := hide (by rw [← HO.out, decide_eq_false hf]; rfl)
   rw [decide_eq_false hf] at f0
   rw [HE.out] at C
   clear hf HO
   go_wp2_with (go_at_call 87; refine C.out.mono ?_; rintro _ w2 ⟨rfl, Ac⟩; have Ad := hide Ac; clear Ac)
   go_ret
   exact ⟨rfl, HB.out.trans (Ad.out.mono HB.out.size)⟩
end
end Go.Proofs.YthifoamnmhlghaaGreat
