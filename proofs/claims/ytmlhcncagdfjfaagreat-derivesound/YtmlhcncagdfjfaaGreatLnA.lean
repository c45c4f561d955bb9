import Derived.Test.YtmlhcncagdfjfaaGreatRe9
import Derived.Test.YtmlhcncagdfjfaaGreatFsC
import Derived.Test.YtmlhcncagdfjfaaGreatDrI
import Derived.Test.YtmlhcncagdfjfaaGreatDrM
set_option maxRecDepth 100000
set_option maxHeartbeats 6400000
namespace Go.Proofs.YtmlhcncagdfjfaaGreat.De
open Go.RowKit Fa Go.Shelf
attribute [local go_sem] Oper.semAt_some
structure Sc where
 t : Nat → Int
 q : Nat → Int
 h : Nat → Int
 r : Nat → Int
 a : Nat → Option Addr
 n : Nat → Nat
 c : Nat → Nat
abbrev Sc.l (s : Sc) (i : Nat) : List Value := [.int .i64 (s.t i), .int .i64 (s.q i), .int .i64 (s.h i), .int .i64 (s.r i), .slice (s.a i) (s.n i) (s.c i)]
abbrev Sc.v (s : Sc) (i : Nat) : Value := .agg #[.int .i64 (s.t i), .int .i64 (s.q i), .int .i64 (s.h i), .int .i64 (s.r i), .slice (s.a i) (s.n i) (s.c i)]
def Lb (bb : Nat) (la : Option Addr) (len lc : Nat) (s : Sc) (W : World) : Prop :=
 W.cell? ⟨bb, 0, none⟩ = some (.slice la len lc) ∧ ∀ i, i < len → ∃ g o, la = some ⟨g, o, none⟩ ∧ W.cell? ⟨g, o + i * 5, none⟩ = some (.int .i64 (s.t i)) ∧ W.cell? ⟨g, o + i * 5 + 1, none⟩ = some (.int .i64 (s.q i)) ∧ W.cell? ⟨g, o + i * 5 + 2, none⟩ = some (.int .i64 (s.h i)) ∧ W.cell? ⟨g, o + i * 5 + 3, none⟩ = some (.int .i64 (s.r i)) ∧ W.cell? ⟨g, o + i * 5 + 4, none⟩ = some (.slice (s.a i) (s.n i) (s.c i))
theorem qX {m l bb len lc : Nat} {la : Option Addr} {s : Sc} {J : Nat → World → Prop} (hE : ∀ k W, J k W → Lb bb la len lc s W) (hlen : len ≤ 1048576)
    (hY : ∀ k W, J (k + 1) W → k < len → YieldAt Fence.wide (m - 1) Tryz.prog l #[.int .i64 (k : Int), s.v k] W fun e W' => e = .returned (.bool true) ∧ J k W') {W : World} (h0 : J len W) :
    CallsIn Fence.wide m Tryz.prog 133 #[.func (.yield l) #[] #[], aa bb] W fun e W' => (∃ v, e = .returned v) ∧ J 0 W' := by
 have HE := hide hE
 have HY := hide hY
 have Ac := hide (hE _ _ h0)
 clear hE hY
 refine callsIn_of_wp Tryz.func133 rfl trivial ?_ rfl
 simp only [Tryz.ntmps133, List.size_toArray, List.length_cons, List.length_nil, Nat.reduceAdd, Nat.reduceSub, Array.replicate_succ, Array.replicate_zero, List.push_toArray, List.append_toArray, List.nil_append, List.cons_append]
 refine wpIn_wide.2 ?_
 have c0 := Ac.out.1
 go_wp2_with fail
 go_loopw [3] (fun x wr => ∃ (k : Nat) (z : Int), x = .int .i64 z ∧ z = (k : Int) - 1 ∧ k ≤ len ∧ J k wr) (fun x _ => (intOf x + 1).toNat)
 case atStart => exact ⟨len, (len : Int) - 1, by go_num, rfl, Nat.le_refl _, h0⟩
 clear c0 Ac h0
 obtain ⟨k, z, rfl, hz, hk, hJ⟩ := hrel
 cases k with
 | zero =>
  have Aa : z = -1 := by omega
  subst Aa
  have HJ := hide hJ
  clear hJ hz
  go_wp2_with fail
  go_end0
  exact ⟨⟨_, rfl⟩, HJ.out⟩
 | succ k =>
  have Aa : z = (k : Int) := by omega
  subst Aa
  obtain ⟨c0, hc⟩ := HE.out _ _ hJ
  obtain ⟨g, o, rfl, d0, d1, d2, d3, d4⟩ := hc k (by omega)
  have Aj := HY.out k wr hJ (by omega)
  have An : k < len := by omega
  obtain ⟨fn, Am, Al, body, hy, hR⟩ := Aj
  clear hc hJ hz
  unfold Sc.v at hy
  obtain ⟨t1, Ae⟩ : ∃ x, s.t k = x := ⟨_, rfl⟩
  obtain ⟨q1, Ai⟩ : ∃ x, s.q k = x := ⟨_, rfl⟩
  obtain ⟨h1, Af⟩ : ∃ x, s.h k = x := ⟨_, rfl⟩
  obtain ⟨r1, Ab⟩ : ∃ x, s.r k = x := ⟨_, rfl⟩
  obtain ⟨a1, Ah⟩ : ∃ x, s.a k = x := ⟨_, rfl⟩
  obtain ⟨n1, Ag⟩ : ∃ x, s.n k = x := ⟨_, rfl⟩
  obtain ⟨c1, Ad⟩ : ∃ x, s.c k = x := ⟨_, rfl⟩
  rw [Ae] at d0 hy
  rw [Ai] at d1 hy
  rw [Af] at d2 hy
  rw [Ab] at d3 hy
  rw [Ah, Ag, Ad] at d4 hy
  clear Ae Ai Af Ab Ah Ag Ad
  go_upto_region 3 with fail
  refine (wpIn_wide (n := m)).1 ?_
  gi_wp2
  refine ⟨fun h => (by cases h), ?_⟩
  refine hR.mono ?_
  rintro r W3 ⟨rfl, Ak⟩
  gi_wp2
  go_wp2_with fail
  go_roundw
  case rel => exact ⟨k, (k : Int) - 1, by go_num, rfl, by omega, Ak⟩
  case measure => simp [intOf] <;> omega
def tG (B k : Nat) (I : Nat → World → Prop) (W : World) : Exit → Act → World → Prop
 | .normal, _, W' => KeepsFrom B W W' ∧ I k W'
 | _, _, _ => False
theorem sU {g : Operand} {p1 p2 : Tmp} {assign body : Code} {Q : Exit → Act → World → Prop} {a : Act} {w : World} {bb len lc : Nat} {la : Option Addr} {s : Sc} (m : Nat) (hm : 1 ≤ m) (hlen : len ≤ 1048576) (hg : a.eval g = .func (.func 133) #[] #[aa bb])
    (eg : ∀ args w, (callFunc 133 args).run Tryz.prog w = .ok (.enter 133 args) w)
    (I : Nat → World → Prop) (hst : ∀ k W W', I k W → Below w.heap.size W W' → I k W') (hE : ∀ k W, I k W → Lb bb la len lc s W) (hS : ∀ k W, I k W → w.heap.size ≤ W.heap.size) (h0 : I len w) (a₁ : Nat → Nat → Act)
    (hassign : ∀ (l k : Nat) (W : World) (K : Act → World → Prop), K (a₁ k W.heap.size) (W.alloc (.cells (s.l k).toArray 32)) → assign.wpIn (Fence.wide.inRound l) (m - 1 - 1) Tryz.prog (Exit.then K (fun _ _ _ => False)) { tmps := (a.tmps.setIfInBounds p1 (.int .i64 (k : Int))).setIfInBounds p2 (s.v k), defers := [] } W)
    (hbody : ∀ (l k b : Nat) (W : World), I (k + 1) W → k < len → Fx b 32 (s.l k) W → w.heap.size ≤ b → body.wpIn (Fence.wide.inRound l) (m - 1 - 1) Tryz.prog (tG w.heap.size k I W) (a₁ k b) W)
    (hdone : ∀ (D : Nat) (W : World), w.heap.size ≤ D → I 0 W → W.heap[D]? = some (.deferred (some [])) → Q .normal { a with defers := { target := .collected D, args := #[] } :: a.defers } W) :
    (Code.rangeFunc g #[p1, p2] assign body).wpIn Fence.wide m Tryz.prog Q a w := by
 refine wpIn_rangeFunc ?_
 intro fn Ar
 rw [show Fence.wide.round = none from rfl]
 obtain ⟨Aa, Ab⟩ : ∃ Aa : LoopState → Option Code → Loop, Aa = fun st pe => { state := st, pending := pe, fn, tmps := a.tmps, params := #[p1, p2], assign, body, defers := w.heap.size } := ⟨_, rfl⟩
 obtain ⟨W1, Ac⟩ : ∃ W1, (w.alloc (.deferred (some []))).alloc (.loop (Aa .ready none)) = W1 := ⟨_, rfl⟩
 have Am : W1.heap[w.heap.size + 1]? = some (.loop (Aa .ready none)) := by
  rw [← Ac]; have := World.alloc_heap_new (w.alloc (.deferred (some []))) (.loop (Aa .ready none)); rwa [World.size_alloc] at this
 have An : W1.heap[w.heap.size]? = some (.deferred (some [])) := by
  rw [← Ac]; exact (Below.heap_alloc _ _ _ (by simp)).trans (World.alloc_heap_new w _)
 have Ad : ∀ k W (o : Obj), I k W → I k (W.alloc o) := fun k W o h => hst k W _ h ((ae W o).mono (hS k W h))
 have Ae : ∀ k W l (o : Obj), I k W → w.heap.size ≤ l → I k (W.putObj l o) := fun k W l o h hl => hst k W _ h ⟨rfl, rfl, rfl, by simp, fun i hi => World.putObj_heap_other (by omega)⟩
 have Av : I len W1 := by rw [← Ac]; exact Ad _ _ _ (Ad _ _ _ h0)
 refine ⟨w.heap.size + 1, [{ target := .collected w.heap.size, args := #[] }], W1, { target := .fn (.func 133) #[aa bb], args := #[] ++ #[.func (.yield (w.heap.size + 1)) #[] #[]] }, W1, 133,
  #[.func (.yield (w.heap.size + 1)) #[] #[], aa bb], W1, ?_, ?_, ?_, ?_, fun _ => hm, ?_⟩
 ·rw [← Ac, Ab]; exact run_enterLoop_outer _ _ _ _ _
 ·simp only [resolve, hg]
  simp [go_sem]
 ·intro f' Aw; trivial
 ·simp [invoke, go_sem, eg]
 refine (qX (m := m - 1) (l := w.heap.size + 1) (s := s) (bb := bb) (lc := lc) (la := la)
  (J := fun k W => I k W ∧ W.heap[w.heap.size + 1]? = some (.loop (Aa .ready none)) ∧ W.heap[w.heap.size]? = some (.deferred (some [])))
  (fun k W h => hE k W h.1) hlen ?_ ⟨Av, Am, An⟩).mono ?_
 ·rintro k W ⟨hi, hl, hk⟩ hx
  have Aq : w.heap.size + 1 < W.heap.size := (Array.getElem?_eq_some_iff.1 hl).1
  have hy := run_yield (P := Tryz.prog) (args := #[.int .i64 (k : Int), s.v k]) hl (by rw [Ab]; rfl)
  have Af : (#[p1, p2].zip #[Value.int .i64 (k : Int), s.v k]).foldl (fun tmps (t, a) => tmps.setIfInBounds t a) a.tmps = (a.tmps.setIfInBounds p1 (.int .i64 (k : Int))).setIfInBounds p2 (s.v k) := by simp [Array.zip]
  rw [Ab] at hy
  dsimp only at hy
  rw [Af] at hy
  refine ⟨fn, _, assign, body, hy, ?_⟩
  refine roundIn_of_wpIn Ar ?_
  refine hassign (w.heap.size + 1) k W _ ?_
  have Ah : (W.alloc (.cells (s.l k).toArray 32)).heap[w.heap.size + 1]? = some (.loop (Aa .ready none)) := (Below.heap_alloc W _ _ Aq).trans hl
  have Ap : (W.alloc (.cells (s.l k).toArray 32)).heap[w.heap.size]? = some (.deferred (some [])) := (Below.heap_alloc W _ _ (by omega)).trans hk
  have Ak : Fx W.heap.size 32 (s.l k) (W.alloc (.cells (s.l k).toArray 32)) := heap_alloc_new W _
  have As := Ad _ _ (.cells (s.l k).toArray 32) hi
  have Aj : w.heap.size + 1 < (W.alloc (.cells (s.l k).toArray 32)).heap.size := (Array.getElem?_eq_some_iff.1 Ah).1
  generalize hWA : W.alloc (.cells (s.l k).toArray 32) = WA at *
  refine ⟨_, run_beginRound Ah (by rw [Ab]), ?_⟩
  have At : (WA.putObj (w.heap.size + 1) (.loop { Aa .ready none with state := .busy })).heap[w.heap.size + 1]? = some (.loop { Aa .ready none with state := .busy }) := World.putObj_heap_same Aj
  have Ao : (WA.putObj (w.heap.size + 1) (.loop { Aa .ready none with state := .busy })).heap[w.heap.size]? = some (.deferred (some [])) := (World.putObj_heap_other (by omega)).trans Ap
  refine wpIn_mono (hbody _ k W.heap.size _ (Ae _ _ _ _ As (by omega)) hx (Ak.keep (World.putObj_heap_other (by omega))) (by omega)) ?_
  rintro e2 a3 W3 hp
  cases e2 with
  | normal =>
   obtain ⟨Ai, Au⟩ := hp
   have Ag := Ai.same _ _ (by omega) At rfl
   have hr := run_endRound (P := Tryz.prog) none Ag
   have Al := Ai.same _ _ (Nat.le_refl _) Ao rfl
   refine ⟨_, _, hr, rfl, Ae _ _ _ _ Au (by omega), ?_, (World.putObj_heap_other (by omega)).trans Al⟩
   rw [World.putObj_heap_same (Array.getElem?_eq_some_iff.1 Ag).1]
   rw [Ab]
   rfl
  | ret => exact hp.elim
  | exit id => exact hp.elim
  | goto t => exact hp.elim
  | panic ch => exact hp.elim
  | outgrown => exact hp.elim
 rintro r W2 ⟨⟨v, rfl⟩, hi, hl, hk⟩
 exact ⟨none, _, by have := run_endLoop (P := Tryz.prog) hl (by rw [Ab]; simp); rw [Ab] at this; exact this, hdone _ _ (Nat.le_refl _) (Ae _ _ _ _ hi (by omega)) ((World.putObj_heap_other (by omega)).trans hk)⟩
abbrev wn (a : Act) (p1 p2 p3 p4 : Tmp) (s : Sc) (k b : Nat) : Act := { tmps := (((a.tmps.setIfInBounds p1 (.int .i64 (k : Int))).setIfInBounds p2 (s.v k)).setIfInBounds p3 (.int .i64 (k : Int))).setIfInBounds p4 (aa b), defers := [] }
theorem lP {g : Operand} {p1 p2 : Tmp} (p3 p4 : Tmp) {assign body : Code} {Q : Exit → Act → World → Prop} {a : Act} {w : World} {bb len lc : Nat} {la : Option Addr} {s : Sc} (m : Nat) (hm : 1 ≤ m) (hlen : len ≤ 1048576) (hg : a.eval g = .func (.func 133) #[] #[aa bb])
    (eg : ∀ args w, (callFunc 133 args).run Tryz.prog w = .ok (.enter 133 args) w)
    (I : Nat → World → Prop) (hst : ∀ k W W', I k W → Below w.heap.size W W' → I k W') (hE : ∀ k W, I k W → Lb bb la len lc s W) (hS : ∀ k W, I k W → w.heap.size ≤ W.heap.size) (h0 : I len w)
    (hassign : ∀ (l k : Nat) (W : World) (K : Act → World → Prop), K (wn a p1 p2 p3 p4 s k W.heap.size) (W.alloc (.cells (s.l k).toArray 32)) → assign.wpIn (Fence.wide.inRound l) (m - 1 - 1) Tryz.prog (Exit.then K (fun _ _ _ => False)) { tmps := (a.tmps.setIfInBounds p1 (.int .i64 (k : Int))).setIfInBounds p2 (s.v k), defers := [] } W)
    (hbody : ∀ (l k b : Nat) (W : World), I (k + 1) W → k < len → Fx b 32 (s.l k) W → w.heap.size ≤ b → body.wpIn (Fence.wide.inRound l) (m - 1 - 1) Tryz.prog (tG w.heap.size k I W) (wn a p1 p2 p3 p4 s k b) W)
    (hdone : ∀ (D : Nat) (W : World), w.heap.size ≤ D → I 0 W → W.heap[D]? = some (.deferred (some [])) → Q .normal { a with defers := { target := .collected D, args := #[] } :: a.defers } W) :
    (Code.rangeFunc g #[p1, p2] assign body).wpIn Fence.wide m Tryz.prog Q a w :=
 sU m hm hlen hg eg I hst hE hS h0 (wn a p1 p2 p3 p4 s) hassign hbody hdone
theorem kG (X : World) (la : Option Addr) (n lc : Nat) : Calls Tryz.prog 96 #[.slice la n lc] X fun e w' => ∃ bb, e = .returned (.func (.func 133) #[] #[aa bb]) ∧ Fx bb 27 [.slice la n lc] w' ∧ Below X.heap.size X w' ∧ X.heap.size ≤ bb := by
 have HB := hide (ae X (.cells #[.slice la n lc] 27))
 have hQ : Fx X.heap.size 27 [.slice la n lc] (X.alloc (.cells #[.slice la n lc] 27)) := heap_alloc_new X _
 have HQ := hide hQ
 clear hQ
 go_enter Tryz.func96, Tryz.ntmps96
 go_wp2_with fail
 go_ret
 exact ⟨_, rfl, HQ.out, HB.out, Nat.le_refl _⟩
end Go.Proofs.YtmlhcncagdfjfaaGreat.De
namespace Go.Proofs.YtmlhcncagdfjfaaGreat.De
open Go.RowKit Go.WideMaps Go.WideElems Go.MapKept
open Go.ChangeMaps (setBlock heap_setBlock_same heap_setBlock_other)
def mz (V : Nat → Nat → Int) (s q : Nat) (v : Int) : Nat → Nat → Int := fun a b => if a = s ∧ b = q then v else V a b
theorem sc {V : Nat → Nat → Int} {s q : Nat} {v : Int} : mz V s q v s q = v := if_pos ⟨rfl, rfl⟩
theorem vH {V : Nat → Nat → Int} {s q a b : Nat} {v : Int} (h : ¬ (a = s ∧ b = q)) : mz V s q v a b = V a b := if_neg h
structure Mi (V : Nat → Nat → Int) (c : Nat) (es : Array MapEntry) (clock : Nat) : Prop where
 fit : Fit Tryz.prog 85 RV es clock
 sz : es.size ≤ c
 val : ∀ s q : Nat, ∀ x ∈ es.toList, x.key = pk s q → x.val = .int .i64 (V s q)
 non : ∀ s q : Nat, (∃ x ∈ es.toList, x.key = pk s q) ∨ V s q = 0
theorem zc : Mi (fun _ _ => 0) 0 #[] 0 := ⟨⟨by simp, by constructor <;> simp, by simp⟩, by simp, by simp, fun _ _ => .inr rfl⟩
section
variable {V : Nat → Nat → Int} {c : Nat} {es : Array MapEntry} {clock : Nat} {w : World} {mb : Nat}
theorem zx (u : World) : (zeroValue 3).run Tryz.prog u = .ok (.int .i64 0) u := by kernel_rfl
theorem t8 (hb : w.heap[mb]? = some (.map es clock)) (h : Mi V c es clock) {s q : Nat} (hs : s ≤ 4096) (hq : q ≤ 4096) (val : Value) :
    ∃ es2 clock2, (Instr.mapUpdate 148 (.map (some mb)) (pk s q) val).run Tryz.prog w = .ok () (setBlock w mb (.map es2 clock2)) ∧ ((es2 = es.push ⟨pk s q, val, clock⟩ ∧ ∀ x ∈ es.toList, x.key ≠ pk s q) ∨ ∃ j e0, es.toList[j]? = some e0 ∧ e0.key = pk s q ∧ es2.toList = es.toList.set j ⟨pk s q, val, e0.born⟩) := by
 obtain ⟨kl, Aa⟩ := iz hs hq
 have ht := Tryz.underlying148
 rcases lawI.find w Aa es.toList h.fit.keys with ⟨h1, h2⟩ | ⟨j, e0, h1, h2, h3⟩
 ·refine ⟨_, clock + 1, ?_, .inl ⟨rfl, h2⟩⟩
  simp [Instr.mapUpdate, run_underlying ht, MapKept.run_getObj_map hb, lawI.check w false Aa, h1, MapKept.run_setObj_map _ hb, Result.andThen, setBlock]
 have hj : es[j]? = some e0 := by simpa using h2
 refine ⟨es.modify j (fun e' => { e' with key := pk s q, val := val }), clock, ?_, .inr ⟨j, e0, h2, h3, ?_⟩⟩
 ·simp [Instr.mapUpdate, run_underlying ht, MapKept.run_getObj_map hb, lawI.check w false Aa, h1, hj, h3, lawI.stays w Aa, MapKept.run_setObj_map _ hb, Result.andThen, setBlock]
 rw [Array.toList_modify, Go.ChangeMaps.modify_eq_set _ _ _ _ h2]
theorem ze (hb : w.heap[mb]? = some (.map es clock)) (h : Mi V c es clock) {s q : Nat} (hs : s ≤ 4096) (hq : q ≤ 4096) (hc : c < 1000000000) (v : Int) :
    ∃ es' clock', (Instr.mapUpdate 148 (.map (some mb)) (pk s q) (.int .i64 v)).run Tryz.prog w = .ok () (setBlock w mb (.map es' clock')) ∧ Mi (mz V s q v) (c + 1) es' clock' := by
 obtain ⟨kl, Am⟩ := iz hs hq
 have ht := Tryz.underlying148
 obtain ⟨Al, Ag, Aj, Ai⟩ := t8 hb h hs hq (.int .i64 v)
 obtain ⟨At, Ar, Ap, Af, -, -⟩ := fit_update (R' := RV) lawI ht hb h.fit (by have := h.sz; unfold maxLen; omega) (fun _ _ _ h => h) Am (show RV (.int .i64 v) = some (.nil, []) from rfl)
 have An := Aj.symm.trans Ap
 have e3 := fT hb (by injection An)
 injection e3 with e3a e3b
 subst e3a
 subst e3b
 refine ⟨Al, Ag, Aj, ?_⟩
 have Ae : ∀ s' q' : Nat, ¬ (s' = s ∧ q' = q) → mz V s q v s' q' = V s' q' := fun s' q' hn => vH hn
 rcases Ai with ⟨rfl, Aq⟩ | ⟨j, e0, hj, hk, Ac⟩
 ·refine ⟨Af, by have := h.sz; simp; omega, fun s' q' x hx Aa => ?_, fun s' q' => ?_⟩
  ·rw [Array.toList_push, List.mem_append, List.mem_singleton] at hx
   rcases hx with hx | rfl
   ·rw [Ae s' q' fun e => Aq x hx (by rw [Aa, e.1, e.2])]
    exact h.val s' q' x hx Aa
   obtain ⟨rfl, rfl⟩ := gI Aa
   rw [sc]
  by_cases e : s' = s ∧ q' = q
  ·obtain ⟨rfl, rfl⟩ := e
   exact .inl ⟨_, by rw [Array.toList_push]; simp; exact .inr rfl, rfl⟩
  rw [Ae s' q' e]
  rcases h.non s' q' with ⟨x, hx, Aa⟩ | hz
  ·exact .inl ⟨x, by rw [Array.toList_push]; simp [hx], Aa⟩
  exact .inr hz
 have Ak : j < es.toList.length := (List.getElem?_eq_some_iff.1 hj).1
 have As : Al.size = es.size := by
  have := congrArg List.length Ac
  simpa using this
 refine ⟨Af, by have := h.sz; omega, fun s' q' x hx Aa => ?_, fun s' q' => ?_⟩
 ·rw [Ac] at hx
  obtain ⟨i, hi, Ah⟩ := List.mem_iff_getElem.1 hx
  have Ab : (es.toList.set j ⟨pk s q, .int .i64 v, e0.born⟩)[i]? = some x := by rw [List.getElem?_eq_getElem hi, Ah]
  by_cases Ad : i = j
  ·subst Ad
   rw [List.getElem?_set_self Ak] at Ab
   cases Ab
   obtain ⟨rfl, rfl⟩ := gI Aa
   rw [sc]
  rw [List.getElem?_set_ne (Ne.symm Ad)] at Ab
  have Ao := other_key h.fit hj Ab Ad
  rw [Ae s' q' fun e => Ao (by rw [Aa, hk, e.1, e.2])]
  exact h.val s' q' x (List.mem_of_getElem? Ab) Aa
 by_cases e : s' = s ∧ q' = q
 ·obtain ⟨rfl, rfl⟩ := e
  exact .inl ⟨_, by rw [Ac]; exact List.mem_of_getElem? (List.getElem?_set_self Ak), rfl⟩
 rw [Ae s' q' e]
 rcases h.non s' q' with ⟨x, hx, Aa⟩ | hz
 ·obtain ⟨i, hi, Ah⟩ := List.mem_iff_getElem.1 hx
  have Ab : es.toList[i]? = some x := by rw [List.getElem?_eq_getElem hi, Ah]
  have Ad : i ≠ j := fun e2 => by
   subst e2
   rw [hj] at Ab
   cases Ab
   exact e ⟨(gI (Aa.symm.trans hk)).1, (gI (Aa.symm.trans hk)).2⟩
  exact .inl ⟨x, by rw [Ac]; exact List.mem_of_getElem? (by rw [List.getElem?_set_ne (Ne.symm Ad)]; exact Ab), Aa⟩
 exact .inr hz
theorem yl (hb : w.heap[mb]? = some (.map es clock)) (h : Mi V c es clock) {s q : Nat} (hs : s ≤ 4096) (hq : q ≤ 4096) :
    (Instr.lookup 148 (.map (some mb)) (pk s q) false).run Tryz.prog w = .ok (.int .i64 (V s q)) w := by
 obtain ⟨kl, Aa⟩ := iz hs hq
 have ht := Tryz.underlying148
 rcases lawI.find w Aa es.toList h.fit.keys with ⟨h1, h2⟩ | ⟨j, e0, h1, h2, h3⟩
 ·have hz : V s q = 0 := by
   rcases h.non s q with ⟨x, hx, hk⟩ | e
   ·exact absurd hk (h2 x hx)
   exact e
  rw [hz]
  simp [Instr.lookup, run_underlying ht, MapKept.run_getObj_map hb, lawI.check w _ Aa, h1, zx w, Result.andThen]
 rw [← h.val s q e0 (List.mem_of_getElem? h2) h3]
 simp [Instr.lookup, run_underlying ht, MapKept.run_getObj_map hb, lawI.check w _ Aa, h1, Result.andThen]
end
end Go.Proofs.YtmlhcncagdfjfaaGreat.De
set_option maxRecDepth 100000
set_option maxHeartbeats 3200000
namespace Go.Proofs.YtmlhcncagdfjfaaGreat.De
open Go.RowKit Fa Go.Shelf Rg
theorem jH (a b : Int) (w : World) : Calls Tryz.prog 42 #[.int .i64 a, .int .i64 b] w fun e w' => e = .returned (.agg #[.int .i64 a, .int .i64 b]) ∧ Below w.heap.size w w' := by
 have HB := hide (ae w (.cells #[.int .i64 0, .int .i64 0] 85))
 have hQ : Fx w.heap.size 85 [.int .i64 0, .int .i64 0] (w.alloc (.cells #[.int .i64 0, .int .i64 0] 85)) := heap_alloc_new w _
 have HQ := hide hQ
 clear hQ
 go_enter Tryz.func42, Tryz.ntmps42
 go_upto_region 1 with fail
 generalize w.alloc (.cells #[.int .i64 0, .int .i64 0] 85) = W at *
 have z0 := HQ.out.frz 0
 have z1 := HQ.out.frz 1
 have y0 := HQ.out.get (i := 0) rfl
 have y1 := HQ.out.get (i := 1) rfl
 go_wp2_with fail
 have HG := hide ((HQ.out.set 0 (.int .i64 a)).set 1 (.int .i64 b))
 have Aa := hide ((HB.out.setCell (p := ⟨w.heap.size, 0, none⟩) (Nat.le_refl _) (.int .i64 a)).setCell (p := ⟨w.heap.size, 1, none⟩) (Nat.le_refl _) (.int .i64 b))
 clear z0 z1 y0 y1 HQ HB
 refine bodyPost_ret (results_cell_row rfl _ _ w.heap.size 85 #[.int .i64 a, .int .i64 b] _ _ rfl HG.out Tryz.underlying85 rfl (by kernel_rfl)) rfl ?_
 exact ⟨rfl, Aa.out⟩
theorem ps {n j : Nat} : (Array.replicate n false).getD j false = false := by
 by_cases hz : j < n
 ·simp [hz]
 simp [hz]
theorem oF {P : Program} {n l id : Nat} {Q : Exit → Act → World → Prop} {a : Act} {w : World} {x : Oper} {L : List Oper} (J : (Nat → Bool) → (Nat → Value) → World → Prop) (hQ : ¬ LetsOut Q) (hd : rM (x :: L) = true) (hm : P.follows .mixedOrders = true) (hok : Rg.okJ (x :: L).toArray a.tmps.size = true)
    (hI : J (fun _ => false) (fun s => a.tmps.getD s undef) { w with drawn := w.drawn + 1 })
    (hstep : ∀ (i : Nat) (o : Oper), (x :: L).toArray[i]? = some o → jL P (x :: L).toArray fY J i o)
    (hend : ∀ a' w', a'.tmps.size = a.tmps.size → a'.defers = a.defers → (∃ L', (∀ j, j < (x :: L).toArray.size → L' j = true) ∧ J L' (fun s => a'.tmps.getD s undef) w') → (∀ s, (∀ j, bF (x :: L).toArray j ≠ some s) → a'.tmps.getD s undef = a.tmps.getD s undef) → Q .normal a' w') :
    (Code.region id (x :: L).toArray true).wpIn (Fence.wide.inRound l) n P Q a w := by
 refine wpIn_region_any hm (kV (fun i o hi c e => ?_) hQ _ _ _ _ ?_)
 ·have hi' : (x :: L)[i]? = some o := by simpa using hi
  have := List.all_eq_true.1 hd o (List.mem_of_getElem? hi')
  rw [e] at this
  cases this
 refine rP (a0 := a) (J := J) (E := fY) hok hstep (fun c a w _ h => h.elim) (fun listed a' w' hJ hall => hend a' w' hJ.size hJ.defers ⟨_, hall, hJ.inv⟩ hJ.old) _ _ a _ ?_ ⟨rfl, rfl, by simp, ?_, ?_, fun s hs => rfl⟩
 ·unfold oK
  refine Nat.le_trans (List.length_filter_le _ _) ?_
  simp
 ·intro j o _ hj
  exact absurd (show (Array.replicate (x :: L).toArray.size false).getD j false = true from hj) (by rw [ps]; decide)
 have e : (fun j => (Array.replicate (x :: L).toArray.size false).getD j false) = fun _ => false := funext fun j => ps
 rw [e]
 exact hI
def js (l : List StM) (k : Nat) : Nat → Nat → Int := fun a b => (((l.drop k).findIdx? fun s => decide (s.lit = (a : Int) ∧ s.tag = (b : Int))).map fun i => ((i + k : Nat) : Int)).getD 0
theorem yh {l : List StM} : js l l.length = fun _ _ => 0 := by
 funext a b
 unfold js
 rw [List.drop_length]
 rfl
theorem uP {l : List StM} {k q j : Nat} {s : StM} (h : l[k]? = some s) (hq : s.lit = (q : Int)) (hj : s.tag = (j : Int)) : js l k = mz (js l (k + 1)) q j (k : Int) := by
 funext a b
 unfold js mz
 rw [aM h, List.findIdx?_cons]
 by_cases e : a = q ∧ b = j
 ·obtain ⟨rfl, rfl⟩ := e
  rw [if_pos (by simp [hq, hj]), if_pos ⟨rfl, rfl⟩]
  simp
 rw [if_neg (by simp [hq, hj]; omega), if_neg e]
 show _ = Option.getD (Option.map (fun i => ((i + (k + 1) : Nat) : Int)) (List.findIdx? (fun s => decide (s.lit = (a : Int) ∧ s.tag = (b : Int))) (List.drop (k + 1) l))) 0
 cases (l.drop (k + 1)).findIdx? fun s => decide (s.lit = (a : Int) ∧ s.tag = (b : Int)) with
 | none => rfl
 | some i => simp; omega
theorem zB {l : List StM} {a b : Nat} : js l 0 a b = (mM l ((a : Int), (b : Int)) : Int) := by
 unfold js mM
 rw [List.drop_zero]
 cases l.findIdx? fun s => decide (s.lit = (a : Int) ∧ s.tag = (b : Int)) with
 | none => rfl
 | some i => rfl
theorem yR {l : List StM} {x : Int × Int} (h : 0 < l.length) : mM l x < l.length := by
 unfold mM
 cases e : l.findIdx? fun s => decide (s.lit = x.1 ∧ s.tag = x.2) with
 | none => exact h
 | some i =>
  have := (List.findIdx?_eq_some_iff_getElem.1 e).1
  exact this
theorem tI {Z : Nat → Prop} {a b c : World} (h : Fr Z a b) (k : Below a.heap.size b c) : Fr Z a c :=
 ⟨k.os.trans h.os, k.tape.trans h.tape, k.output.trans h.output, Nat.le_trans h.size k.size, fun i hi hz => (k.block i hi).trans (h.block i hi hz)⟩
theorem zu {N : Nat} {w : World} {l : List StM} {a : Option Addr} (h : Sts N w l a) : ∃ s : Sc, (∀ i x, l[i]? = some x → s.t i = x.tag ∧ s.q i = x.lit ∧ s.h i = x.how ∧ s.r i = x.rule ∧ s.n i = x.ch.length ∧ ChN N w (s.a i) x.ch) ∧
    ∀ i, i < l.length → ∃ g o, a = some ⟨g, o, none⟩ ∧ g < N ∧ w.cell? ⟨g, o + i * 5, none⟩ = some (.int .i64 (s.t i)) ∧ w.cell? ⟨g, o + i * 5 + 1, none⟩ = some (.int .i64 (s.q i)) ∧ w.cell? ⟨g, o + i * 5 + 2, none⟩ = some (.int .i64 (s.h i)) ∧ w.cell? ⟨g, o + i * 5 + 3, none⟩ = some (.int .i64 (s.r i)) ∧ w.cell? ⟨g, o + i * 5 + 4, none⟩ = some (.slice (s.a i) (s.n i) (s.c i)) := by
 have key : ∀ i, ∃ z : Option Addr × Nat, ∀ x, l[i]? = some x → ∃ g o, a = some ⟨g, o, none⟩ ∧ g < N ∧ w.cell? ⟨g, o + i * 5, none⟩ = some (.int .i64 x.tag) ∧ w.cell? ⟨g, o + i * 5 + 1, none⟩ = some (.int .i64 x.lit) ∧ w.cell? ⟨g, o + i * 5 + 2, none⟩ = some (.int .i64 x.how) ∧ w.cell? ⟨g, o + i * 5 + 3, none⟩ = some (.int .i64 x.rule) ∧ w.cell? ⟨g, o + i * 5 + 4, none⟩ = some (.slice z.1 x.ch.length z.2) ∧ ChN N w z.1 x.ch := by
  intro i
  cases hi : l[i]? with
  | none => exact ⟨(none, 0), fun x hx => by cases hx⟩
  | some x =>
   obtain ⟨g, o, ca, cc, e, hg, c0, c1, c2, c3, c4, -, hc, -, -⟩ := h i x hi
   exact ⟨(ca, cc), fun y hy => by cases hy; exact ⟨g, o, e, hg, c0, c1, c2, c3, c4, hc⟩⟩
 obtain ⟨f, hf⟩ := Classical.axiomOfChoice key
 have Aa : ∀ i, i < l.length → ∃ x, l[i]? = some x := fun i hi => am hi
 refine ⟨⟨fun i => ((l[i]?).map StM.tag).getD 0, fun i => ((l[i]?).map StM.lit).getD 0, fun i => ((l[i]?).map StM.how).getD 0, fun i => ((l[i]?).map StM.rule).getD 0, fun i => (f i).1, fun i => ((l[i]?).map fun x => x.ch.length).getD 0, fun i => (f i).2⟩, fun i x hx => ?_, fun i hi => ?_⟩
 ·obtain ⟨g, o, -, -, -, -, -, -, -, hc⟩ := hf i x hx
  simp only [hx]
  exact ⟨rfl, rfl, rfl, rfl, rfl, hc⟩
 obtain ⟨x, hx⟩ := am hi
 obtain ⟨g, o, e, hg, c0, c1, c2, c3, c4, -⟩ := hf i x hx
 simp only [hx]
 exact ⟨g, o, e, hg, c0, c1, c2, c3, c4⟩
end Go.Proofs.YtmlhcncagdfjfaaGreat.De
set_option maxRecDepth 100000
set_option maxHeartbeats 12800000
namespace Go.Proofs.YtmlhcncagdfjfaaGreat.De
open Go.RowKit Fa Go.Shelf Rg
def iH (n : Nat) (W : Nat → Bool) : List Value := (List.range n).map fun i => .bool (W i)
theorem jr {n i : Nat} {W : Nat → Bool} (h : i < n) : (iH n W)[i]? = some (.bool (W i)) := by unfold iH; simp [h]
theorem vF {n i : Nat} {W : Nat → Bool} : (iH n W).set i (.bool true) = iH n (oM W i) := by
 apply List.ext_getElem?
 intro j
 by_cases hj : j < n
 ·rw [jr hj]
  unfold oM
  by_cases e : i = j
  ·subst e
   rw [List.getElem?_set_self (by unfold iH; simpa using hj), if_pos rfl]
  rw [List.getElem?_set_ne e, jr hj, if_neg (fun e2 => e e2.symm)]
 rw [List.getElem?_eq_none (by unfold iH; simp; omega), List.getElem?_eq_none (by unfold iH; simp; omega)]
structure LI (b5 b8 wm mb : Nat) (l : List StM) (m : Nat) (W : Nat → Bool) (w : World) : Prop where
 wx : Fx wm 4 (iH m W) w
 b8 : Fx b8 106 [ay wm m] w
 b5 : Fx b5 148 [.map (some mb)] w
 mp : ∃ es clock c, w.heap[mb]? = some (.map es clock) ∧ Mi (js l 0) c es clock
def uO (b5 b8 wm mb : Nat) (l : List StM) (m : Nat) (W0 : Nat → Bool) : dO := fun Z a w => Z = (fun k => k = wm) ∧ LI b5 b8 wm mb l m (eH l W0 a) w
section
variable {b5 b8 wm mb m : Nat} {l : List StM} {W : Nat → Bool} {w w' : World}
theorem LI.keep (h : LI b5 b8 wm mb l m W w) (hk : ∀ g, g = wm ∨ g = b8 ∨ g = b5 ∨ g = mb → w'.heap[g]? = w.heap[g]?) : LI b5 b8 wm mb l m W w' := by
 obtain ⟨es, clock, c, h1, h2⟩ := h.mp
 exact ⟨h.wx.keep (hk _ (.inl rfl)), h.b8.keep (hk _ (.inr (.inl rfl))), h.b5.keep (hk _ (.inr (.inr (.inl rfl)))), es, clock, c, (hk _ (.inr (.inr (.inr rfl)))).trans h1, h2⟩
theorem LI.lt (h : LI b5 b8 wm mb l m W w) : wm < w.heap.size ∧ b8 < w.heap.size ∧ b5 < w.heap.size ∧ mb < w.heap.size := by
 obtain ⟨es, clock, c, h1, h2⟩ := h.mp
 exact ⟨h.wx.lt, h.b8.lt, h.b5.lt, aD h1⟩
theorem LI.go (h : LI b5 b8 wm mb l m W w) (hb : Below w.heap.size w w') : LI b5 b8 wm mb l m W w' := h.keep fun g hg => hb.block g (by
 have := h.lt
 rcases hg with rfl | rfl | rfl | rfl <;> omega)
theorem LI.set (h : LI b5 b8 wm mb l m W w) (i : Nat) : LI b5 b8 wm mb l m (oM W i) (w.setCell ⟨wm, i, none⟩ (.bool true)) := by
 obtain ⟨es, clock, c, h1, h2⟩ := h.mp
 refine ⟨?_, h.b8.keep (other_set (an h.b8 h.wx (by decide))), h.b5.keep (other_set (an h.b5 h.wx (by decide))), es, clock, c, (other_set (Ne.symm (nb h.wx h1))).trans h1, h2⟩
 have := h.wx.set i (.bool true)
 rw [vF] at this
 exact this
theorem sY {W0 : Nat → Bool} {a : be} {x : Int × Int} : eH l W0 (a ++ [x]) = oM (eH l W0 a) (mM l x) := by unfold eH; rw [List.foldl_append]; rfl
end
def yC (wm m mb q j f : Nat) (i : Nat) (v : Value) (_ : World) (_ _ : Nat) : Prop := match i with
 | 0 => v = ay wm m
 | 1 => v = .map (some mb)
 | 2 => v = .int .i64 (q : Int)
 | 3 => v = .int .i64 (j : Int)
 | 4 => v = pk q j
 | 5 => v = .int .i64 (f : Int)
 | 6 => v = .pointer (some ⟨wm, f, none⟩)
 | _ => True
theorem iA {wm m mb q j f : Nat} : ∀ i v W W' lo hi, yC wm m mb q j f i v W lo hi → hi ≤ W.heap.size → Below W.heap.size W W' → yC wm m mb q j f i v W' lo hi := fun _ _ _ _ _ _ h _ _ => h
def yy (wm f : Nat) (W0 : World) (_ : Nat → Value) (W : World) : Prop := ∃ X, Below W0.heap.size W0 X ∧ W = X.setCell ⟨wm, f, none⟩ (.bool true)
theorem vN {n b5 b8 wm mb m : Nat} {l : List StM} {W0 : Nat → Bool} (hn : n ≤ 4096) (hm : m ≤ 65536) (hl : l.length = m) (hm0 : 0 < m) : Nd n (uO b5 b8 wm mb l m W0) (.func (.func 97) #[] #[aa b8, aa b5]) := by
 have As : Tryz.prog.follows .mixedOrders = true := by kernel_rfl
 refine ⟨⟨_, _, rfl, fun args w' => rfl, fun Z a w x t hI hD => ?_⟩, fun Z a w w' hI hb => ⟨hI.1, hI.2.go hb⟩, fun Z a w hI k hk => ?_⟩
 ·obtain ⟨rfl, h1⟩ := hI
  obtain ⟨q, rfl⟩ := Int.eq_ofNat_of_zero_le hD.lo
  have hq : q < n := by have := hD.hi; omega
  obtain ⟨j, rfl⟩ : ∃ j : Nat, t = (j : Int) := by
   rcases hD.tag with rfl | rfl | rfl | rfl
   ·exact ⟨1, rfl⟩
   ·exact ⟨2, rfl⟩
   ·exact ⟨3, rfl⟩
   exact ⟨4, rfl⟩
  have hj : j ≤ 4 := by rcases hD.tag with h | h | h | h <;> omega
  obtain ⟨f, hf⟩ : ∃ f, mM l ((q : Int), (j : Int)) = f := ⟨_, rfl⟩
  have Ak : Hid (f < m) := hide (by rw [← hf, ← hl]; exact yR (by omega))
  have Ar : Hid (eH l W0 (a ++ [((q : Int), (j : Int))]) = oM (eH l W0 a) f) := hide (by rw [sY, hf])
  have H1 := hide h1
  have HDr := hide ((Below.refl w.heap.size w).drew)
  obtain ⟨W1, Am⟩ : ∃ W1, w.drew = W1 := ⟨_, rfl⟩
  rw [Am] at HDr
  have Ae := hide (H1.out.go HDr.out)
  have An := hide Ae.out.wx
  have Ao : Hid (∀ X, Below W1.heap.size W1 X → (Instr.lookup 148 (.map (some mb)) (pk q j) false).run Tryz.prog X = .ok (.int .i64 (f : Int)) X) := hide fun X hX => by
   obtain ⟨es, clock, c, h2, h3⟩ := (Ae.out.go hX).mp
   rw [yl h2 h3 (by omega) (by omega), zB, hf]
  have Af : Hid (∀ X, Below W1.heap.size W1 X → X.cell? ⟨b8, 0, none⟩ = some (ay wm m) ∧ X.cell? ⟨b5, 0, none⟩ = some (.map (some mb))) := hide fun X hX => by
   have h := Ae.out.go hX
   exact ⟨h.b8.get (i := 0) rfl, h.b5.get (i := 0) rfl⟩
  have Al : Hid (∀ X, Calls Tryz.prog 42 #[.int .i64 (q : Int), .int .i64 (j : Int)] X fun e w' => e = .returned (.agg #[.int .i64 (q : Int), .int .i64 (j : Int)]) ∧ Below X.heap.size X w') := hide fun X => jH _ _ X
  have Ai : Hid (∀ args w', (callFunc 42 args).run Tryz.prog w' = .ok (.enter 42 args) w') := hide (enters_go Tryz.func42 (by kernel_rfl) (by kernel_rfl))
  have Ad : Hid (fQ [some 6, some 7, some 8, some 9, some 10, some 11, some 12, none] [(2, aa b8), (3, aa b5), (0, .int .i64 (q : Int)), (1, .int .i64 (j : Int))] = true) := hide rfl
  clear h1 hD hf hl
  show Calls Tryz.prog 97 #[.int .i64 (q : Int), .int .i64 (j : Int), aa b8, aa b5] w _
  go_enter Tryz.func97, Tryz.ntmps97
  refine bW fY (Jl 7 [some 6, some 7, some 8, some 9, some 10, some 11, some 12, none] [(2, aa b8), (3, aa b5), (0, .int .i64 (q : Int)), (1, .int .i64 (j : Int))] (yC wm m mb q j f) (yy wm f W1) W1) (by kernel_rfl) (by kernel_rfl) ?_ (ci ⟨?_, ?_, ?_, ?_, ?_, ?_, ?_, ?_, trivial⟩) ?_ ?_
  ·refine ⟨fun _ => ?_, fun e => by cases e⟩
   show Jg _ _ _ W1 _ _ w.drew
   rw [Am]
   exact Jg.start.2 fun p hp => by simp at hp; rcases hp with rfl | rfl | rfl | rfl <;> rfl
  ·intro ρ X L hc hf hL hd Ac Ab
   have Aa : L 7 = false := ak (by kernel_rfl) Ac (k := 0) (by simp) hL
   have hJ := Ab.1 Aa
   obtain ⟨c0, c1⟩ := Af.out X hJ.low
   have k2 : ρ (.tmp 2) = aa b8 := hJ.base (2, aa b8) (by simp)
   refine ac (v := ay wm m) (w' := X) ?_ ⟨fun _ => hJ.put Ad.out iA (i := 0) (d := 6) rfl (Below.refl _ _) (rfl), fun e => by rw [al (by decide), Aa] at e; cases e⟩
   clear hd Ac hJ Ab hL Aa
   go_simp
  ·intro ρ X L hc hf hL hd Ac Ab
   have Aa : L 7 = false := ak (by kernel_rfl) Ac (k := 1) (by simp) hL
   have hJ := Ab.1 Aa
   obtain ⟨c0, c1⟩ := Af.out X hJ.low
   have k3 : ρ (.tmp 3) = aa b5 := hJ.base (3, aa b5) (by simp)
   refine ac (v := .map (some mb)) (w' := X) ?_ ⟨fun _ => hJ.put Ad.out iA (i := 1) (d := 7) rfl (Below.refl _ _) (rfl), fun e => by rw [al (by decide), Aa] at e; cases e⟩
   clear hd Ac hJ Ab hL Aa
   go_simp
  ·intro ρ X L hc hf hL hd Ac Ab
   have Aa : L 7 = false := ak (by kernel_rfl) Ac (k := 2) (by simp) hL
   have hJ := Ab.1 Aa
   have k0 : ρ (.tmp 0) = .int .i64 (q : Int) := hJ.base (0, .int .i64 (q : Int)) (by simp)
   refine ac (v := .int .i64 (q : Int)) (w' := X) ?_ ⟨fun _ => hJ.put Ad.out iA (i := 2) (d := 8) rfl (Below.refl _ _) (rfl), fun e => by rw [al (by decide), Aa] at e; cases e⟩
   clear hd Ac hJ Ab hL Aa
   go_simp
  ·intro ρ X L hc hf hL hd Ac Ab
   have Aa : L 7 = false := ak (by kernel_rfl) Ac (k := 3) (by simp) hL
   have hJ := Ab.1 Aa
   have k1 : ρ (.tmp 1) = .int .i64 (j : Int) := hJ.base (1, .int .i64 (j : Int)) (by simp)
   refine ac (v := .int .i64 (j : Int)) (w' := X) ?_ ⟨fun _ => hJ.put Ad.out iA (i := 3) (d := 9) rfl (Below.refl _ _) (rfl), fun e => by rw [al (by decide), Aa] at e; cases e⟩
   clear hd Ac hJ Ab hL Aa
   go_simp
  ·intro ρ X L hc hf hL hd Ac Ab
   have Aa : L 7 = false := ak (by kernel_rfl) Ac (k := 4) (by simp) hL
   have hJ := Ab.1 Aa
   have k8 : ρ (.tmp 8) = .int .i64 (q : Int) := by
    obtain ⟨_, _, _, e1⟩ := hJ.get (i := 2) (d := 8) rfl (hd ⟨2, .data⟩ (by simp) rfl)
    exact e1
   have k9 : ρ (.tmp 9) = .int .i64 (j : Int) := by
    obtain ⟨_, _, _, e1⟩ := hJ.get (i := 3) (d := 9) rfl (hd ⟨3, .data⟩ (by simp) rfl)
    exact e1
   have hC := Al.out X
   have he := Ai.out #[.int .i64 (q : Int), .int .i64 (j : Int)] X
   refine dT (f := 42) (args := #[.int .i64 (q : Int), .int .i64 (j : Int)]) (w' := X) ?_ hC ?_
   ·clear hd Ac hJ Ab hL Aa hC
    go_simp
   rintro _ Y ⟨rfl, hb⟩
   exact ⟨_, rfl, fun _ => hJ.put Ad.out iA (i := 4) (d := 10) rfl hb (rfl), fun e => by rw [al (by decide), Aa] at e; cases e⟩
  ·intro ρ X L hc hf hL hd Ac Ab
   have Aa : L 7 = false := ak (by kernel_rfl) Ac (k := 5) (by simp) hL
   have hJ := Ab.1 Aa
   have Av := Ao.out X hJ.low
   have k7 : ρ (.tmp 7) = .map (some mb) := by
    obtain ⟨_, _, _, e1⟩ := hJ.get (i := 1) (d := 7) rfl (hd ⟨1, .data⟩ (by simp) rfl)
    exact e1
   have At : ρ (.tmp 10) = pk q j := by
    obtain ⟨_, _, _, e1⟩ := hJ.get (i := 4) (d := 10) rfl (hd ⟨4, .data⟩ (by simp) rfl)
    exact e1
   refine ac (v := .int .i64 (f : Int)) (w' := X) ?_ ⟨fun _ => hJ.put Ad.out iA (i := 5) (d := 11) rfl (Below.refl _ _) (rfl), fun e => by rw [al (by decide), Aa] at e; cases e⟩
   clear hd Ac hJ Ab hL Aa
   go_simp
  ·intro ρ X L hc hf hL hd Ac Ab
   have Aa : L 7 = false := ak (by kernel_rfl) Ac (k := 6) (by simp) hL
   have hJ := Ab.1 Aa
   have Ay := Ak.out
   have k6 : ρ (.tmp 6) = ay wm m := by
    obtain ⟨_, _, _, e1⟩ := hJ.get (i := 0) (d := 6) rfl (hd ⟨0, .data⟩ (by simp) rfl)
    exact e1
   have Aw : ρ (.tmp 11) = .int .i64 (f : Int) := by
    obtain ⟨_, _, _, e1⟩ := hJ.get (i := 5) (d := 11) rfl (hd ⟨5, .data⟩ (by simp) rfl)
    exact e1
   refine ac (v := .pointer (some ⟨wm, f, none⟩)) (w' := X) ?_ ⟨fun _ => hJ.put Ad.out iA (i := 6) (d := 12) rfl (Below.refl _ _) (rfl), fun e => by rw [al (by decide), Aa] at e; cases e⟩
   clear hd Ac hJ Ab hL Aa
   go_simp
   all_goals exact fun h => absurd h (by omega)
  ·intro ρ X L hc hf hL hd Ac Ab
   have hJ := Ab.1 hL
   have Ax : ρ (.tmp 12) = .pointer (some ⟨wm, f, none⟩) := by
    obtain ⟨_, _, _, e1⟩ := hJ.get (i := 6) (d := 12) rfl (hd ⟨6, .data⟩ (by simp) rfl)
    exact e1
   have Ah := An.out.keep (hJ.low.block _ An.out.lt)
   have y0 := Ah.get (jr Ak.out)
   have z0 := Ah.frz f
   have Ag : Hid (yy wm f W1 (fA (fun s => ρ (.tmp s)) none undef) (X.setCell ⟨wm, f, none⟩ (.bool true))) := hide ⟨X, hJ.low, rfl⟩
   refine bY (w' := X.setCell ⟨wm, f, none⟩ (.bool true)) ?_ ⟨fun e => (by rw [aF] at e; cases e), fun _ => Ag.out⟩
   clear hd Ac hJ Ab hL Ag Ah
   go_simp
  ·intro c a' w' _ hE
   exact hE.elim
  rintro ⟨Au, df⟩ w' Aq Aj ⟨L, hL, hJ⟩ Ap
  simp only at Aj Aq
  subst Aj
  obtain ⟨X, hX, rfl⟩ := hJ.2 (hL 7 (by decide))
  clear hJ hL Ap Af Ao Al Ai Ad
  go_end0
  refine ⟨rfl, _, ⟨rfl, ?_⟩, (Fr.of_below (HDr.out.trans (hX.mono HDr.out.size))).trans (Fr.setCell (w := X) ⟨wm, f, none⟩ _ rfl), fun k hk => .inl hk⟩
  rw [Ar.out]
  exact (Ae.out.go hX).set f
 obtain ⟨rfl, h1⟩ := hI
 rw [hk]
 exact h1.wx.lt
end Go.Proofs.YtmlhcncagdfjfaaGreat.De
namespace Go.Proofs.YtmlhcncagdfjfaaGreat.De
open Go.RowKit Fa
theorem yz {w : World} {l : List (Int × Int)} {a : Option Addr} {c : Nat} (h : Chs w a l) : Src Tryz.prog 2 30 (.slice a l.length c) l.length (prs l) w := by
 cases hl : l with
 | nil =>
  subst hl
  cases a with
  | none => exact Src.ofNil w Tryz.underlying30 c
  | some a => exact Src.ofSlice w Tryz.underlying30 _ 0 c [] rfl (fun j u hu => by simp at hu) (by simp)
 | cons y t =>
  rw [← hl]
  obtain ⟨g, o, e, -, -⟩ := h 0 y (by rw [hl]; rfl)
  subst e
  refine Src.ofSlice w Tryz.underlying30 _ l.length c (prs l) rL (fun j u hu => ?_) fun u hu => ?_
  ·have hj : j < (prs l).length := (List.getElem?_eq_some_iff.1 hu).1
   rw [rL] at hj
   obtain ⟨x, hx⟩ := am (l := l) (i := j / 2) (by omega)
   obtain ⟨g', o', e', c0, c1⟩ := h (j / 2) x hx
   cases e'
   obtain ⟨p0, p1⟩ := nV hx
   rcases Nat.mod_two_eq_zero_or_one j with hr | hr
   ·have ej : j / 2 * 2 = j := by omega
    rw [ej] at p0 c0
    rw [hu] at p0
    cases p0
    rw [← c0]
    congr 1
    simp [Addr.add]
   have ej : j / 2 * 2 + 1 = j := by omega
   rw [ej] at p1
   rw [show o + j / 2 * 2 + 1 = o + j by omega] at c1
   rw [hu] at p1
   cases p1
   rw [← c1]
   congr 1
   simp [Addr.add]
  unfold prs at hu
  obtain ⟨p, -, hp⟩ := List.mem_flatMap.1 hu
  simp at hp
  rcases hp with rfl | rfl <;> rfl
end Go.Proofs.YtmlhcncagdfjfaaGreat.De
