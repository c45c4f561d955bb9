import Derived.Test.YtmlhcncagdfjfaaGreatRe9
import Derived.Test.YtmlhcncagdfjfaaGreatFsC
import Derived.Test.YtmlhcncagdfjfaaGreatDrI
import Derived.Test.YtmlhcncagdfjfaaGreatDrM
set_option maxRecDepth 100000
set_option maxHeartbeats 6400000
namespace Go.Proofs.YtmlhcncagdfjfaaGreat.De
open Go.RowKit Fa Go.Shelf
attribute [local go_sem] Oper.semAt_some
structure Sc where
 t : Nat → Int
 q : Nat → Int
 h : Nat → Int
 r : Nat → Int
 a : Nat → Option Addr
 n : Nat → Nat
 c : Nat → Nat
abbrev Sc.l (s : Sc) (i : Nat) : List Value := [.int .i64 (s.t i), .int .i64 (s.q i), .int .i64 (s.h i), .int .i64 (s.r i), .slice (s.a i) (s.n i) (s.c i)]
abbrev Sc.v (s : Sc) (i : Nat) : Value := .agg #[.int .i64 (s.t i), .int .i64 (s.q i), .int .i64 (s.h i), .int .i64 (s.r i), .slice (s.a i) (s.n i) (s.c i)]
def Lb (bb : Nat) (la : Option Addr) (len lc : Nat) (s : Sc) (W : World) : Prop :=
 W.cell? ⟨bb, 0, none⟩ = some (.slice la len lc) ∧ ∀ i, i < len → ∃ g o, la = some ⟨g, o, none⟩ ∧ W.cell? ⟨g, o + i * 5, none⟩ = some (.int .i64 (s.t i)) ∧ W.cell? ⟨g, o + i * 5 + 1, none⟩ = some (.int .i64 (s.q i)) ∧ W.cell? ⟨g, o + i * 5 + 2, none⟩ = some (.int .i64 (s.h i)) ∧ W.cell? ⟨g, o + i * 5 + 3, none⟩ = some (.int .i64 (s.r i)) ∧ W.cell? ⟨g, o + i * 5 + 4, none⟩ = some (.slice (s.a i) (s.n i) (s.c i))
theorem pO {m l bb len lc : Nat} {la : Option Addr} {s : Sc} {J : Nat → World → Prop} (hE : ∀ k W, J k W → Lb bb la len lc s W) (hlen : len ≤ 1048576)
    (hY : ∀ k W, J (k + 1) W → k < len → YieldAt Fence.wide (m - 1) Tryz.prog l #[.int .i64 (k : Int), s.v k] W fun e W' => e = .returned (.bool true) ∧ J k W') {W : World} (h0 : J len W) :
    CallsIn Fence.wide m Tryz.prog 133 #[.func (.yield l) #[] #[], ab bb] W fun e W' => (∃ v, e = .returned v) ∧ J 0 W' := by
 have HE := hide hE
 have HY := hide hY
 have Ad := hide (hE _ _ h0)
 clear hE hY
 refine callsIn_of_wp Tryz.func133 rfl trivial ?_ rfl
 simp only [Tryz.ntmps133, List.size_toArray, List.length_cons, List.length_nil, Nat.reduceAdd, Nat.reduceSub, Array.replicate_succ, Array.replicate_zero, List.push_toArray, List.append_toArray, List.nil_append, List.cons_append]
 refine wpIn_wide.2 ?_
 have c0 := Ad.out.1
 go_wp2_with fail
 go_loopw [3] (fun x wr => ∃ (k : Nat) (z : Int), x = .int .i64 z ∧ z = (k : Int) - 1 ∧ k ≤ len ∧ J k wr) (fun x _ => (intOf x + 1).toNat)
 case atStart => exact ⟨len, (len : Int) - 1, by go_num, rfl, Nat.le_refl _, h0⟩
 case round =>
  clear c0 Ad h0
  obtain ⟨k, z, rfl, hz, hk, hJ⟩ := hrel
  cases k with
  | zero =>
   have Aa : z = -1 := by omega
   subst Aa
   have HJ := hide hJ
   clear hJ hz
   go_wp2_with fail
   go_end0
   exact ⟨⟨_, rfl⟩, HJ.out⟩
  | succ k =>
   have Aa : z = (k : Int) := by omega
   subst Aa
   obtain ⟨c0, hc⟩ := HE.out _ _ hJ
   obtain ⟨g, o, rfl, d0, d1, d2, d3, d4⟩ := hc k (by omega)
   have Ak := HY.out k wr hJ (by omega)
   have An : k < len := by omega
   obtain ⟨fn, Am, Al, body, hy, hR⟩ := Ak
   clear hc hJ hz
   unfold Sc.v at hy
   obtain ⟨t1, Ab⟩ : ∃ x, s.t k = x := ⟨_, rfl⟩
   obtain ⟨q1, Ae⟩ : ∃ x, s.q k = x := ⟨_, rfl⟩
   obtain ⟨h1, Ai⟩ : ∃ x, s.h k = x := ⟨_, rfl⟩
   obtain ⟨r1, Af⟩ : ∃ x, s.r k = x := ⟨_, rfl⟩
   obtain ⟨a1, Ag⟩ : ∃ x, s.a k = x := ⟨_, rfl⟩
   obtain ⟨n1, Ah⟩ : ∃ x, s.n k = x := ⟨_, rfl⟩
   obtain ⟨c1, Ac⟩ : ∃ x, s.c k = x := ⟨_, rfl⟩
   rw [Ab] at d0 hy
   rw [Ae] at d1 hy
   rw [Ai] at d2 hy
   rw [Af] at d3 hy
   rw [Ag, Ah, Ac] at d4 hy
   clear Ab Ae Ai Af Ag Ah Ac
   go_upto_region 3 with fail
   refine (wpIn_wide (n := m)).1 ?_
   gi_wp2
   refine ⟨fun h => (by cases h), ?_⟩
   refine hR.mono ?_
   rintro r W3 ⟨rfl, Aj⟩
   gi_wp2
   go_wp2_with fail
   go_roundw
   case rel => exact ⟨k, (k : Int) - 1, by go_num, rfl, by omega, Aj⟩
   case measure => simp [intOf] <;> omega
def uf (B k : Nat) (I : Nat → World → Prop) (W : World) : Exit → Act → World → Prop
 | .normal, _, W' => KeepsFrom B W W' ∧ I k W'
 | _, _, _ => False
theorem sk {g : Operand} {p1 p2 : Tmp} {assign body : Code} {Q : Exit → Act → World → Prop} {a : Act} {w : World} {bb len lc : Nat} {la : Option Addr} {s : Sc} (m : Nat) (hm : 1 ≤ m) (hlen : len ≤ 1048576) (hg : a.eval g = .func (.func 133) #[] #[ab bb])
    (eg : ∀ args w, (callFunc 133 args).run Tryz.prog w = .ok (.enter 133 args) w)
    (I : Nat → World → Prop) (hst : ∀ k W W', I k W → Below w.heap.size W W' → I k W') (hE : ∀ k W, I k W → Lb bb la len lc s W) (hS : ∀ k W, I k W → w.heap.size ≤ W.heap.size) (h0 : I len w) (a₁ : Nat → Nat → Act)
    (hassign : ∀ (l k : Nat) (W : World) (K : Act → World → Prop), K (a₁ k W.heap.size) (W.alloc (.cells (s.l k).toArray 32)) → assign.wpIn (Fence.wide.inRound l) (m - 1 - 1) Tryz.prog (Exit.then K (fun _ _ _ => False)) { tmps := (a.tmps.setIfInBounds p1 (.int .i64 (k : Int))).setIfInBounds p2 (s.v k), defers := [] } W)
    (hbody : ∀ (l k b : Nat) (W : World), I (k + 1) W → k < len → Fx b 32 (s.l k) W → w.heap.size ≤ b → body.wpIn (Fence.wide.inRound l) (m - 1 - 1) Tryz.prog (uf w.heap.size k I W) (a₁ k b) W)
    (hdone : ∀ (D : Nat) (W : World), w.heap.size ≤ D → I 0 W → W.heap[D]? = some (.deferred (some [])) → Q .normal { a with defers := { target := .collected D, args := #[] } :: a.defers } W) :
    (Code.rangeFunc g #[p1, p2] assign body).wpIn Fence.wide m Tryz.prog Q a w := by
 refine wpIn_rangeFunc ?_
 intro fn At
 rw [show Fence.wide.round = none from rfl]
 obtain ⟨Aa, Ab⟩ : ∃ Aa : LoopState → Option Code → Loop, Aa = fun st pe => { state := st, pending := pe, fn, tmps := a.tmps, params := #[p1, p2], assign, body, defers := w.heap.size } := ⟨_, rfl⟩
 obtain ⟨W1, Ac⟩ : ∃ W1, (w.alloc (.deferred (some []))).alloc (.loop (Aa .ready none)) = W1 := ⟨_, rfl⟩
 have Al : W1.heap[w.heap.size + 1]? = some (.loop (Aa .ready none)) := by
  rw [← Ac]; have := World.alloc_heap_new (w.alloc (.deferred (some []))) (.loop (Aa .ready none)); rwa [World.size_alloc] at this
 have As : W1.heap[w.heap.size]? = some (.deferred (some [])) := by
  rw [← Ac]; exact (Below.heap_alloc _ _ _ (by simp)).trans (World.alloc_heap_new w _)
 have Ad : ∀ k W (o : Obj), I k W → I k (W.alloc o) := fun k W o h => hst k W _ h ((ac W o).mono (hS k W h))
 have Ae : ∀ k W l (o : Obj), I k W → w.heap.size ≤ l → I k (W.putObj l o) := fun k W l o h hl => hst k W _ h ⟨rfl, rfl, rfl, by simp, fun i hi => World.putObj_heap_other (by omega)⟩
 have Ap : I len W1 := by rw [← Ac]; exact Ad _ _ _ (Ad _ _ _ h0)
 refine ⟨w.heap.size + 1, [{ target := .collected w.heap.size, args := #[] }], W1, { target := .fn (.func 133) #[ab bb], args := #[] ++ #[.func (.yield (w.heap.size + 1)) #[] #[]] }, W1, 133,
  #[.func (.yield (w.heap.size + 1)) #[] #[], ab bb], W1, ?_, ?_, ?_, ?_, fun _ => hm, ?_⟩
 · rw [← Ac, Ab]; exact run_enterLoop_outer _ _ _ _ _
 · simp only [resolve, hg]
   simp [go_sem]
 · intro f' Aw; trivial
 · simp [invoke, go_sem, eg]
 · refine (pO (m := m - 1) (l := w.heap.size + 1) (s := s) (bb := bb) (lc := lc) (la := la)
    (J := fun k W => I k W ∧ W.heap[w.heap.size + 1]? = some (.loop (Aa .ready none)) ∧ W.heap[w.heap.size]? = some (.deferred (some [])))
    (fun k W h => hE k W h.1) hlen ?_ ⟨Ap, Al, As⟩).mono ?_
   · rintro k W ⟨hi, hl, hk⟩ hx
     have Au : w.heap.size + 1 < W.heap.size := (Array.getElem?_eq_some_iff.1 hl).1
     have hy := run_yield (P := Tryz.prog) (args := #[.int .i64 (k : Int), s.v k]) hl (by rw [Ab]; rfl)
     have Af : (#[p1, p2].zip #[Value.int .i64 (k : Int), s.v k]).foldl (fun tmps (t, a) => tmps.setIfInBounds t a) a.tmps = (a.tmps.setIfInBounds p1 (.int .i64 (k : Int))).setIfInBounds p2 (s.v k) := by simp [Array.zip]
     rw [Ab] at hy
     dsimp only at hy
     rw [Af] at hy
     refine ⟨fn, _, assign, body, hy, ?_⟩
     refine roundIn_of_wpIn At ?_
     refine hassign (w.heap.size + 1) k W _ ?_
     have Ah : (W.alloc (.cells (s.l k).toArray 32)).heap[w.heap.size + 1]? = some (.loop (Aa .ready none)) := (Below.heap_alloc W _ _ Au).trans hl
     have Ak : (W.alloc (.cells (s.l k).toArray 32)).heap[w.heap.size]? = some (.deferred (some [])) := (Below.heap_alloc W _ _ (by omega)).trans hk
     have Ar : Fx W.heap.size 32 (s.l k) (W.alloc (.cells (s.l k).toArray 32)) := heap_alloc_new W _
     have Av := Ad _ _ (.cells (s.l k).toArray 32) hi
     have Aj : w.heap.size + 1 < (W.alloc (.cells (s.l k).toArray 32)).heap.size := (Array.getElem?_eq_some_iff.1 Ah).1
     generalize hWA : W.alloc (.cells (s.l k).toArray 32) = WA at *
     refine ⟨_, run_beginRound Ah (by rw [Ab]), ?_⟩
     have An : (WA.putObj (w.heap.size + 1) (.loop { Aa .ready none with state := .busy })).heap[w.heap.size + 1]? = some (.loop { Aa .ready none with state := .busy }) := World.putObj_heap_same Aj
     have Am : (WA.putObj (w.heap.size + 1) (.loop { Aa .ready none with state := .busy })).heap[w.heap.size]? = some (.deferred (some [])) := (World.putObj_heap_other (by omega)).trans Ak
     refine wpIn_mono (hbody _ k W.heap.size _ (Ae _ _ _ _ Av (by omega)) hx (Ar.keep (World.putObj_heap_other (by omega))) (by omega)) ?_
     rintro e2 a3 W3 hp
     cases e2 with
     | normal =>
      obtain ⟨Ai, Ao⟩ := hp
      have Ag := Ai.same _ _ (by omega) An rfl
      have hr := run_endRound (P := Tryz.prog) none Ag
      have Aq := Ai.same _ _ (Nat.le_refl _) Am rfl
      refine ⟨_, _, hr, rfl, Ae _ _ _ _ Ao (by omega), ?_, (World.putObj_heap_other (by omega)).trans Aq⟩
      rw [World.putObj_heap_same (Array.getElem?_eq_some_iff.1 Ag).1]
      rw [Ab]
      rfl
     | ret => exact hp.elim
     | exit id => exact hp.elim
     | goto t => exact hp.elim
     | panic ch => exact hp.elim
     | outgrown => exact hp.elim
   · rintro r W2 ⟨⟨v, rfl⟩, hi, hl, hk⟩
     exact ⟨none, _, by have := run_endLoop (P := Tryz.prog) hl (by rw [Ab]; simp); rw [Ab] at this; exact this, hdone _ _ (Nat.le_refl _) (Ae _ _ _ _ hi (by omega)) ((World.putObj_heap_other (by omega)).trans hk)⟩
abbrev vE (a : Act) (p1 p2 p3 p4 : Tmp) (s : Sc) (k b : Nat) : Act := { tmps := (((a.tmps.setIfInBounds p1 (.int .i64 (k : Int))).setIfInBounds p2 (s.v k)).setIfInBounds p3 (.int .i64 (k : Int))).setIfInBounds p4 (ab b), defers := [] }
theorem lO {g : Operand} {p1 p2 : Tmp} (p3 p4 : Tmp) {assign body : Code} {Q : Exit → Act → World → Prop} {a : Act} {w : World} {bb len lc : Nat} {la : Option Addr} {s : Sc} (m : Nat) (hm : 1 ≤ m) (hlen : len ≤ 1048576) (hg : a.eval g = .func (.func 133) #[] #[ab bb])
    (eg : ∀ args w, (callFunc 133 args).run Tryz.prog w = .ok (.enter 133 args) w)
    (I : Nat → World → Prop) (hst : ∀ k W W', I k W → Below w.heap.size W W' → I k W') (hE : ∀ k W, I k W → Lb bb la len lc s W) (hS : ∀ k W, I k W → w.heap.size ≤ W.heap.size) (h0 : I len w)
    (hassign : ∀ (l k : Nat) (W : World) (K : Act → World → Prop), K (vE a p1 p2 p3 p4 s k W.heap.size) (W.alloc (.cells (s.l k).toArray 32)) → assign.wpIn (Fence.wide.inRound l) (m - 1 - 1) Tryz.prog (Exit.then K (fun _ _ _ => False)) { tmps := (a.tmps.setIfInBounds p1 (.int .i64 (k : Int))).setIfInBounds p2 (s.v k), defers := [] } W)
    (hbody : ∀ (l k b : Nat) (W : World), I (k + 1) W → k < len → Fx b 32 (s.l k) W → w.heap.size ≤ b → body.wpIn (Fence.wide.inRound l) (m - 1 - 1) Tryz.prog (uf w.heap.size k I W) (vE a p1 p2 p3 p4 s k b) W)
    (hdone : ∀ (D : Nat) (W : World), w.heap.size ≤ D → I 0 W → W.heap[D]? = some (.deferred (some [])) → Q .normal { a with defers := { target := .collected D, args := #[] } :: a.defers } W) :
    (Code.rangeFunc g #[p1, p2] assign body).wpIn Fence.wide m Tryz.prog Q a w :=
 sk m hm hlen hg eg I hst hE hS h0 (vE a p1 p2 p3 p4 s) hassign hbody hdone
theorem li (X : World) (la : Option Addr) (n lc : Nat) : Calls Tryz.prog 96 #[.slice la n lc] X fun e w' => ∃ bb, e = .returned (.func (.func 133) #[] #[ab bb]) ∧ Fx bb 27 [.slice la n lc] w' ∧ Below X.heap.size X w' ∧ X.heap.size ≤ bb := by
 have HB := hide (ac X (.cells #[.slice la n lc] 27))
 have hQ : Fx X.heap.size 27 [.slice la n lc] (X.alloc (.cells #[.slice la n lc] 27)) := heap_alloc_new X _
 have HQ := hide hQ
 clear hQ
 go_enter Tryz.func96, Tryz.ntmps96
 go_wp2_with fail
 go_ret
 exact ⟨_, rfl, HQ.out, HB.out, Nat.le_refl _⟩
end Go.Proofs.YtmlhcncagdfjfaaGreat.De
namespace Go.Proofs.YtmlhcncagdfjfaaGreat.De
open Go.RowKit Go.WideMaps Go.WideElems Go.MapKept
open Go.ChangeMaps (setBlock heap_setBlock_same heap_setBlock_other)
def lU (V : Nat → Nat → Int) (s q : Nat) (v : Int) : Nat → Nat → Int := fun a b => if a = s ∧ b = q then v else V a b
theorem rU {V : Nat → Nat → Int} {s q : Nat} {v : Int} : lU V s q v s q = v := if_pos ⟨rfl, rfl⟩
theorem uZ {V : Nat → Nat → Int} {s q a b : Nat} {v : Int} (h : ¬ (a = s ∧ b = q)) : lU V s q v a b = V a b := if_neg h
structure Mi (V : Nat → Nat → Int) (c : Nat) (es : Array MapEntry) (clock : Nat) : Prop where
 fit : Fit Tryz.prog 85 RV es clock
 sz : es.size ≤ c
 val : ∀ s q : Nat, ∀ x ∈ es.toList, x.key = pk s q → x.val = .int .i64 (V s q)
 non : ∀ s q : Nat, (∃ x ∈ es.toList, x.key = pk s q) ∨ V s q = 0
theorem yW : Mi (fun _ _ => 0) 0 #[] 0 := ⟨⟨by simp, by constructor <;> simp, by simp⟩, by simp, by simp, fun _ _ => .inr rfl⟩
section
variable {V : Nat → Nat → Int} {c : Nat} {es : Array MapEntry} {clock : Nat} {w : World} {mb : Nat}
theorem zx (u : World) : (zeroValue 3).run Tryz.prog u = .ok (.int .i64 0) u := by kernel_rfl
theorem t8 (hb : w.heap[mb]? = some (.map es clock)) (h : Mi V c es clock) {s q : Nat} (hs : s ≤ 4096) (hq : q ≤ 4096) (val : Value) :
    ∃ es2 clock2, (Instr.mapUpdate 148 (.map (some mb)) (pk s q) val).run Tryz.prog w = .ok () (setBlock w mb (.map es2 clock2)) ∧ ((es2 = es.push ⟨pk s q, val, clock⟩ ∧ ∀ x ∈ es.toList, x.key ≠ pk s q) ∨ ∃ j e0, es.toList[j]? = some e0 ∧ e0.key = pk s q ∧ es2.toList = es.toList.set j ⟨pk s q, val, e0.born⟩) := by
 obtain ⟨kl, Aa⟩ := ja hs hq
 have ht := Tryz.underlying148
 rcases lawI.find w Aa es.toList h.fit.keys with ⟨h1, h2⟩ | ⟨j, e0, h1, h2, h3⟩
 · refine ⟨_, clock + 1, ?_, .inl ⟨rfl, h2⟩⟩
   simp [Instr.mapUpdate, run_underlying ht, MapKept.run_getObj_map hb, lawI.check w false Aa, h1, MapKept.run_setObj_map _ hb, Result.andThen, setBlock]
 · have hj : es[j]? = some e0 := by simpa using h2
   refine ⟨es.modify j (fun e' => { e' with key := pk s q, val := val }), clock, ?_, .inr ⟨j, e0, h2, h3, ?_⟩⟩
   · simp [Instr.mapUpdate, run_underlying ht, MapKept.run_getObj_map hb, lawI.check w false Aa, h1, hj, h3, lawI.stays w Aa, MapKept.run_setObj_map _ hb, Result.andThen, setBlock]
   · rw [Array.toList_modify, Go.ChangeMaps.modify_eq_set _ _ _ _ h2]
theorem za (hb : w.heap[mb]? = some (.map es clock)) (h : Mi V c es clock) {s q : Nat} (hs : s ≤ 4096) (hq : q ≤ 4096) (hc : c < 1000000000) (v : Int) :
    ∃ es' clock', (Instr.mapUpdate 148 (.map (some mb)) (pk s q) (.int .i64 v)).run Tryz.prog w = .ok () (setBlock w mb (.map es' clock')) ∧ Mi (lU V s q v) (c + 1) es' clock' := by
 obtain ⟨kl, Am⟩ := ja hs hq
 have ht := Tryz.underlying148
 obtain ⟨Aj, Af, Ak, Ai⟩ := t8 hb h hs hq (.int .i64 v)
 obtain ⟨At, Ao, Ar, Ah, -, -⟩ := fit_update (R' := RV) lawI ht hb h.fit (by have := h.sz; unfold maxLen; omega) (fun _ _ _ h => h) Am (show RV (.int .i64 v) = some (.nil, []) from rfl)
 have An := Ak.symm.trans Ar
 have e3 := gy hb (by injection An)
 injection e3 with e3a e3b
 subst e3a
 subst e3b
 refine ⟨Aj, Af, Ak, ?_⟩
 have Ae : ∀ s' q' : Nat, ¬ (s' = s ∧ q' = q) → lU V s q v s' q' = V s' q' := fun s' q' hn => uZ hn
 rcases Ai with ⟨rfl, Ap⟩ | ⟨j, e0, hj, hk, Ac⟩
 · refine ⟨Ah, by have := h.sz; simp; omega, fun s' q' x hx Aa => ?_, fun s' q' => ?_⟩
   · rw [Array.toList_push, List.mem_append, List.mem_singleton] at hx
     rcases hx with hx | rfl
     · rw [Ae s' q' fun e => Ap x hx (by rw [Aa, e.1, e.2])]
       exact h.val s' q' x hx Aa
     · obtain ⟨rfl, rfl⟩ := ig Aa
       rw [rU]
   · by_cases e : s' = s ∧ q' = q
     · obtain ⟨rfl, rfl⟩ := e
       exact .inl ⟨_, by rw [Array.toList_push]; simp; exact .inr rfl, rfl⟩
     · rw [Ae s' q' e]
       rcases h.non s' q' with ⟨x, hx, Aa⟩ | hz
       · exact .inl ⟨x, by rw [Array.toList_push]; simp [hx], Aa⟩
       · exact .inr hz
 · have Al : j < es.toList.length := (List.getElem?_eq_some_iff.1 hj).1
   have As : Aj.size = es.size := by
    have := congrArg List.length Ac
    simpa using this
   refine ⟨Ah, by have := h.sz; omega, fun s' q' x hx Aa => ?_, fun s' q' => ?_⟩
   · rw [Ac] at hx
     obtain ⟨i, hi, Ag⟩ := List.mem_iff_getElem.1 hx
     have Ab : (es.toList.set j ⟨pk s q, .int .i64 v, e0.born⟩)[i]? = some x := by rw [List.getElem?_eq_getElem hi, Ag]
     by_cases Ad : i = j
     · subst Ad
       rw [List.getElem?_set_self Al] at Ab
       cases Ab
       obtain ⟨rfl, rfl⟩ := ig Aa
       rw [rU]
     · rw [List.getElem?_set_ne (Ne.symm Ad)] at Ab
       have Aq := other_key h.fit hj Ab Ad
       rw [Ae s' q' fun e => Aq (by rw [Aa, hk, e.1, e.2])]
       exact h.val s' q' x (List.mem_of_getElem? Ab) Aa
   · by_cases e : s' = s ∧ q' = q
     · obtain ⟨rfl, rfl⟩ := e
       exact .inl ⟨_, by rw [Ac]; exact List.mem_of_getElem? (List.getElem?_set_self Al), rfl⟩
     · rw [Ae s' q' e]
       rcases h.non s' q' with ⟨x, hx, Aa⟩ | hz
       · obtain ⟨i, hi, Ag⟩ := List.mem_iff_getElem.1 hx
         have Ab : es.toList[i]? = some x := by rw [List.getElem?_eq_getElem hi, Ag]
         have Ad : i ≠ j := fun e2 => by
          subst e2
          rw [hj] at Ab
          cases Ab
          exact e ⟨(ig (Aa.symm.trans hk)).1, (ig (Aa.symm.trans hk)).2⟩
         exact .inl ⟨x, by rw [Ac]; exact List.mem_of_getElem? (by rw [List.getElem?_set_ne (Ne.symm Ad)]; exact Ab), Aa⟩
       · exact .inr hz
theorem xF (hb : w.heap[mb]? = some (.map es clock)) (h : Mi V c es clock) {s q : Nat} (hs : s ≤ 4096) (hq : q ≤ 4096) :
    (Instr.lookup 148 (.map (some mb)) (pk s q) false).run Tryz.prog w = .ok (.int .i64 (V s q)) w := by
 obtain ⟨kl, Aa⟩ := ja hs hq
 have ht := Tryz.underlying148
 rcases lawI.find w Aa es.toList h.fit.keys with ⟨h1, h2⟩ | ⟨j, e0, h1, h2, h3⟩
 · have hz : V s q = 0 := by
    rcases h.non s q with ⟨x, hx, hk⟩ | e
    · exact absurd hk (h2 x hx)
    · exact e
   rw [hz]
   simp [Instr.lookup, run_underlying ht, MapKept.run_getObj_map hb, lawI.check w _ Aa, h1, zx w, Result.andThen]
 · rw [← h.val s q e0 (List.mem_of_getElem? h2) h3]
   simp [Instr.lookup, run_underlying ht, MapKept.run_getObj_map hb, lawI.check w _ Aa, h1, Result.andThen]
end
end Go.Proofs.YtmlhcncagdfjfaaGreat.De
set_option maxRecDepth 100000
set_option maxHeartbeats 3200000
namespace Go.Proofs.YtmlhcncagdfjfaaGreat.De
open Go.RowKit Fa Go.Shelf Rg
theorem kD (a b : Int) (w : World) : Calls Tryz.prog 42 #[.int .i64 a, .int .i64 b] w fun e w' => e = .returned (.agg #[.int .i64 a, .int .i64 b]) ∧ Below w.heap.size w w' := by
 have HB := hide (ac w (.cells #[.int .i64 0, .int .i64 0] 85))
 have hQ : Fx w.heap.size 85 [.int .i64 0, .int .i64 0] (w.alloc (.cells #[.int .i64 0, .int .i64 0] 85)) := heap_alloc_new w _
 have HQ := hide hQ
 clear hQ
 go_enter Tryz.func42, Tryz.ntmps42
 go_upto_region 1 with fail
 generalize w.alloc (.cells #[.int .i64 0, .int .i64 0] 85) = W at *
 have z0 := HQ.out.frz 0
 have z1 := HQ.out.frz 1
 have y0 := HQ.out.get (i := 0) rfl
 have y1 := HQ.out.get (i := 1) rfl
 go_wp2_with fail
 have HG := hide ((HQ.out.set 0 (.int .i64 a)).set 1 (.int .i64 b))
 have Aa := hide ((HB.out.setCell (p := ⟨w.heap.size, 0, none⟩) (Nat.le_refl _) (.int .i64 a)).setCell (p := ⟨w.heap.size, 1, none⟩) (Nat.le_refl _) (.int .i64 b))
 clear z0 z1 y0 y1 HQ HB
 refine bodyPost_ret (results_cell_row rfl _ _ w.heap.size 85 #[.int .i64 a, .int .i64 b] _ _ rfl HG.out Tryz.underlying85 rfl (by kernel_rfl)) rfl ?_
 exact ⟨rfl, Aa.out⟩
theorem pa {n j : Nat} : (Array.replicate n false).getD j false = false := by
 by_cases hz : j < n
 · simp [hz]
 · simp [hz]
theorem nX {P : Program} {n l id : Nat} {Q : Exit → Act → World → Prop} {a : Act} {w : World} {x : Oper} {L : List Oper} (J : (Nat → Bool) → (Nat → Value) → World → Prop) (hQ : ¬ LetsOut Q) (hd : rO (x :: L) = true) (hm : P.follows .mixedOrders = true) (hok : Rg.okJ (x :: L).toArray a.tmps.size = true)
    (hI : J (fun _ => false) (fun s => a.tmps.getD s undef) { w with drawn := w.drawn + 1 })
    (hstep : ∀ (i : Nat) (o : Oper), (x :: L).toArray[i]? = some o → kh P (x :: L).toArray fJ J i o)
    (hend : ∀ a' w', a'.tmps.size = a.tmps.size → a'.defers = a.defers → (∃ L', (∀ j, j < (x :: L).toArray.size → L' j = true) ∧ J L' (fun s => a'.tmps.getD s undef) w') → (∀ s, (∀ j, bO (x :: L).toArray j ≠ some s) → a'.tmps.getD s undef = a.tmps.getD s undef) → Q .normal a' w') :
    (Code.region id (x :: L).toArray true).wpIn (Fence.wide.inRound l) n P Q a w := by
 refine wpIn_region_any hm (lk (fun i o hi c e => ?_) hQ _ _ _ _ ?_)
 · have hi' : (x :: L)[i]? = some o := by simpa using hi
   have := List.all_eq_true.1 hd o (List.mem_of_getElem? hi')
   rw [e] at this
   cases this
 · refine rp (a0 := a) (J := J) (E := fJ) hok hstep (fun c a w _ h => h.elim) (fun listed a' w' hJ hall => hend a' w' hJ.size hJ.defers ⟨_, hall, hJ.inv⟩ hJ.old) _ _ a _ ?_ ⟨rfl, rfl, by simp, ?_, ?_, fun s hs => rfl⟩
   · unfold oh
     refine Nat.le_trans (List.length_filter_le _ _) ?_
     simp
   · intro j o _ hj
     exact absurd (show (Array.replicate (x :: L).toArray.size false).getD j false = true from hj) (by rw [pa]; decide)
   · have e : (fun j => (Array.replicate (x :: L).toArray.size false).getD j false) = fun _ => false := funext fun j => pa
     rw [e]
     exact hI
def jQ (l : List StM) (k : Nat) : Nat → Nat → Int := fun a b => (((l.drop k).findIdx? fun s => decide (s.lit = (a : Int) ∧ s.tag = (b : Int))).map fun i => ((i + k : Nat) : Int)).getD 0
theorem yl {l : List StM} : jQ l l.length = fun _ _ => 0 := by
 funext a b
 unfold jQ
 rw [List.drop_length]
 rfl
theorem uL {l : List StM} {k q j : Nat} {s : StM} (h : l[k]? = some s) (hq : s.lit = (q : Int)) (hj : s.tag = (j : Int)) : jQ l k = lU (jQ l (k + 1)) q j (k : Int) := by
 funext a b
 unfold jQ lU
 rw [bf h, List.findIdx?_cons]
 by_cases e : a = q ∧ b = j
 · obtain ⟨rfl, rfl⟩ := e
   rw [if_pos (by simp [hq, hj]), if_pos ⟨rfl, rfl⟩]
   simp
 · rw [if_neg (by simp [hq, hj]; omega), if_neg e]
   show _ = Option.getD (Option.map (fun i => ((i + (k + 1) : Nat) : Int)) (List.findIdx? (fun s => decide (s.lit = (a : Int) ∧ s.tag = (b : Int))) (List.drop (k + 1) l))) 0
   cases (l.drop (k + 1)).findIdx? fun s => decide (s.lit = (a : Int) ∧ s.tag = (b : Int)) with
   | none => rfl
   | some i => simp; omega
theorem zC {l : List StM} {a b : Nat} : jQ l 0 a b = (mD l ((a : Int), (b : Int)) : Int) := by
 unfold jQ mD
 rw [List.drop_zero]
 cases l.findIdx? fun s => decide (s.lit = (a : Int) ∧ s.tag = (b : Int)) with
 | none => rfl
 | some i => rfl
theorem zd {l : List StM} {x : Int × Int} (h : 0 < l.length) : mD l x < l.length := by
 unfold mD
 cases e : l.findIdx? fun s => decide (s.lit = x.1 ∧ s.tag = x.2) with
 | none => exact h
 | some i =>
  have := (List.findIdx?_eq_some_iff_getElem.1 e).1
  exact this
theorem tg {Z : Nat → Prop} {a b c : World} (h : Fr Z a b) (k : Below a.heap.size b c) : Fr Z a c :=
 ⟨k.os.trans h.os, k.tape.trans h.tape, k.output.trans h.output, Nat.le_trans h.size k.size, fun i hi hz => (k.block i hi).trans (h.block i hi hz)⟩
theorem zD {N : Nat} {w : World} {l : List StM} {a : Option Addr} (h : Sts N w l a) : ∃ s : Sc, (∀ i x, l[i]? = some x → s.t i = x.tag ∧ s.q i = x.lit ∧ s.h i = x.how ∧ s.r i = x.rule ∧ s.n i = x.ch.length ∧ ChN N w (s.a i) x.ch) ∧
    ∀ i, i < l.length → ∃ g o, a = some ⟨g, o, none⟩ ∧ g < N ∧ w.cell? ⟨g, o + i * 5, none⟩ = some (.int .i64 (s.t i)) ∧ w.cell? ⟨g, o + i * 5 + 1, none⟩ = some (.int .i64 (s.q i)) ∧ w.cell? ⟨g, o + i * 5 + 2, none⟩ = some (.int .i64 (s.h i)) ∧ w.cell? ⟨g, o + i * 5 + 3, none⟩ = some (.int .i64 (s.r i)) ∧ w.cell? ⟨g, o + i * 5 + 4, none⟩ = some (.slice (s.a i) (s.n i) (s.c i)) := by
 have key : ∀ i, ∃ z : Option Addr × Nat, ∀ x, l[i]? = some x → ∃ g o, a = some ⟨g, o, none⟩ ∧ g < N ∧ w.cell? ⟨g, o + i * 5, none⟩ = some (.int .i64 x.tag) ∧ w.cell? ⟨g, o + i * 5 + 1, none⟩ = some (.int .i64 x.lit) ∧ w.cell? ⟨g, o + i * 5 + 2, none⟩ = some (.int .i64 x.how) ∧ w.cell? ⟨g, o + i * 5 + 3, none⟩ = some (.int .i64 x.rule) ∧ w.cell? ⟨g, o + i * 5 + 4, none⟩ = some (.slice z.1 x.ch.length z.2) ∧ ChN N w z.1 x.ch := by
  intro i
  cases hi : l[i]? with
  | none => exact ⟨(none, 0), fun x hx => by cases hx⟩
  | some x =>
   obtain ⟨g, o, ca, cc, e, hg, c0, c1, c2, c3, c4, -, hc, -, -⟩ := h i x hi
   exact ⟨(ca, cc), fun y hy => by cases hy; exact ⟨g, o, e, hg, c0, c1, c2, c3, c4, hc⟩⟩
 obtain ⟨f, hf⟩ := Classical.axiomOfChoice key
 have Aa : ∀ i, i < l.length → ∃ x, l[i]? = some x := fun i hi => am hi
 refine ⟨⟨fun i => ((l[i]?).map StM.tag).getD 0, fun i => ((l[i]?).map StM.lit).getD 0, fun i => ((l[i]?).map StM.how).getD 0, fun i => ((l[i]?).map StM.rule).getD 0, fun i => (f i).1, fun i => ((l[i]?).map fun x => x.ch.length).getD 0, fun i => (f i).2⟩, fun i x hx => ?_, fun i hi => ?_⟩
 · obtain ⟨g, o, -, -, -, -, -, -, -, hc⟩ := hf i x hx
   simp only [hx]
   exact ⟨rfl, rfl, rfl, rfl, rfl, hc⟩
 · obtain ⟨x, hx⟩ := am hi
   obtain ⟨g, o, e, hg, c0, c1, c2, c3, c4, -⟩ := hf i x hx
   simp only [hx]
   exact ⟨g, o, e, hg, c0, c1, c2, c3, c4⟩
end Go.Proofs.YtmlhcncagdfjfaaGreat.De
set_option maxRecDepth 100000
set_option maxHeartbeats 12800000
namespace Go.Proofs.YtmlhcncagdfjfaaGreat.De
open Go.RowKit Fa Go.Shelf Rg
def jb (n : Nat) (W : Nat → Bool) : List Value := (List.range n).map fun i => .bool (W i)
theorem jX {n i : Nat} {W : Nat → Bool} (h : i < n) : (jb n W)[i]? = some (.bool (W i)) := by unfold jb; simp [h]
theorem uK {n i : Nat} {W : Nat → Bool} : (jb n W).set i (.bool true) = jb n (oA W i) := by
 apply List.ext_getElem?
 intro j
 by_cases hj : j < n
 · rw [jX hj]
   unfold oA
   by_cases e : i = j
   · subst e
     rw [List.getElem?_set_self (by unfold jb; simpa using hj), if_pos rfl]
   · rw [List.getElem?_set_ne e, jX hj, if_neg (fun e2 => e e2.symm)]
 · rw [List.getElem?_eq_none (by unfold jb; simp; omega), List.getElem?_eq_none (by unfold jb; simp; omega)]
structure LI (b5 b8 wm mb : Nat) (l : List StM) (m : Nat) (W : Nat → Bool) (w : World) : Prop where
 wx : Fx wm 4 (jb m W) w
 b8 : Fx b8 106 [az wm m] w
 b5 : Fx b5 148 [.map (some mb)] w
 mp : ∃ es clock c, w.heap[mb]? = some (.map es clock) ∧ Mi (jQ l 0) c es clock
def vM (b5 b8 wm mb : Nat) (l : List StM) (m : Nat) (W0 : Nat → Bool) : ep := fun Z a w => Z = (fun k => k = wm) ∧ LI b5 b8 wm mb l m (eX l W0 a) w
section
variable {b5 b8 wm mb m : Nat} {l : List StM} {W : Nat → Bool} {w w' : World}
theorem LI.keep (h : LI b5 b8 wm mb l m W w) (hk : ∀ g, g = wm ∨ g = b8 ∨ g = b5 ∨ g = mb → w'.heap[g]? = w.heap[g]?) : LI b5 b8 wm mb l m W w' := by
 obtain ⟨es, clock, c, h1, h2⟩ := h.mp
 exact ⟨h.wx.keep (hk _ (.inl rfl)), h.b8.keep (hk _ (.inr (.inl rfl))), h.b5.keep (hk _ (.inr (.inr (.inl rfl)))), es, clock, c, (hk _ (.inr (.inr (.inr rfl)))).trans h1, h2⟩
theorem LI.lt (h : LI b5 b8 wm mb l m W w) : wm < w.heap.size ∧ b8 < w.heap.size ∧ b5 < w.heap.size ∧ mb < w.heap.size := by
 obtain ⟨es, clock, c, h1, h2⟩ := h.mp
 exact ⟨h.wx.lt, h.b8.lt, h.b5.lt, aS h1⟩
theorem LI.go (h : LI b5 b8 wm mb l m W w) (hb : Below w.heap.size w w') : LI b5 b8 wm mb l m W w' := h.keep fun g hg => hb.block g (by
 have := h.lt
 rcases hg with rfl | rfl | rfl | rfl <;> omega)
theorem LI.set (h : LI b5 b8 wm mb l m W w) (i : Nat) : LI b5 b8 wm mb l m (oA W i) (w.setCell ⟨wm, i, none⟩ (.bool true)) := by
 obtain ⟨es, clock, c, h1, h2⟩ := h.mp
 refine ⟨?_, h.b8.keep (other_set (ao h.b8 h.wx (by decide))), h.b5.keep (other_set (ao h.b5 h.wx (by decide))), es, clock, c, (other_set (Ne.symm (m6 h.wx h1))).trans h1, h2⟩
 have := h.wx.set i (.bool true)
 rw [uK] at this
 exact this
theorem sT {W0 : Nat → Bool} {a : bB} {x : Int × Int} : eX l W0 (a ++ [x]) = oA (eX l W0 a) (mD l x) := by unfold eX; rw [List.foldl_append]; rfl
end
def yL (wm m mb q j f : Nat) (i : Nat) (v : Value) (_ : World) (_ _ : Nat) : Prop := match i with
 | 0 => v = az wm m
 | 1 => v = .map (some mb)
 | 2 => v = .int .i64 (q : Int)
 | 3 => v = .int .i64 (j : Int)
 | 4 => v = pk q j
 | 5 => v = .int .i64 (f : Int)
 | 6 => v = .pointer (some ⟨wm, f, none⟩)
 | _ => True
theorem iN {wm m mb q j f : Nat} : ∀ i v W W' lo hi, yL wm m mb q j f i v W lo hi → hi ≤ W.heap.size → Below W.heap.size W W' → yL wm m mb q j f i v W' lo hi := fun _ _ _ _ _ _ h _ _ => h
def zi (wm f : Nat) (W0 : World) (_ : Nat → Value) (W : World) : Prop := ∃ X, Below W0.heap.size W0 X ∧ W = X.setCell ⟨wm, f, none⟩ (.bool true)
theorem ve {n b5 b8 wm mb m : Nat} {l : List StM} {W0 : Nat → Bool} (hn : n ≤ 4096) (hm : m ≤ 65536) (hl : l.length = m) (hm0 : 0 < m) : Nd n (vM b5 b8 wm mb l m W0) (.func (.func 97) #[] #[ab b8, ab b5]) := by
 have As : Tryz.prog.follows .mixedOrders = true := by kernel_rfl
 refine ⟨⟨_, _, rfl, fun args w' => rfl, fun Z a w x t hI hD => ?_⟩, fun Z a w w' hI hb => ⟨hI.1, hI.2.go hb⟩, fun Z a w hI k hk => ?_⟩
 · obtain ⟨rfl, h1⟩ := hI
   obtain ⟨q, rfl⟩ := Int.eq_ofNat_of_zero_le hD.lo
   have hq : q < n := by have := hD.hi; omega
   obtain ⟨j, rfl⟩ : ∃ j : Nat, t = (j : Int) := by
    rcases hD.tag with rfl | rfl | rfl | rfl
    · exact ⟨1, rfl⟩
    · exact ⟨2, rfl⟩
    · exact ⟨3, rfl⟩
    · exact ⟨4, rfl⟩
   have hj : j ≤ 4 := by rcases hD.tag with h | h | h | h <;> omega
   obtain ⟨f, hf⟩ : ∃ f, mD l ((q : Int), (j : Int)) = f := ⟨_, rfl⟩
   have Ai : Hid (f < m) := hide (by rw [← hf, ← hl]; exact zd (by omega))
   have Aq : Hid (eX l W0 (a ++ [((q : Int), (j : Int))]) = oA (eX l W0 a) f) := hide (by rw [sT, hf])
   have H1 := hide h1
   have HDr := hide ((Below.refl w.heap.size w).drew)
   obtain ⟨W1, Am⟩ : ∃ W1, w.drew = W1 := ⟨_, rfl⟩
   rw [Am] at HDr
   have Ae := hide (H1.out.go HDr.out)
   have An := hide Ae.out.wx
   have Aj : Hid (∀ X, Below W1.heap.size W1 X → (Instr.lookup 148 (.map (some mb)) (pk q j) false).run Tryz.prog X = .ok (.int .i64 (f : Int)) X) := hide fun X hX => by
    obtain ⟨es, clock, c, h2, h3⟩ := (Ae.out.go hX).mp
    rw [xF h2 h3 (by omega) (by omega), zC, hf]
   have Ag : Hid (∀ X, Below W1.heap.size W1 X → X.cell? ⟨b8, 0, none⟩ = some (az wm m) ∧ X.cell? ⟨b5, 0, none⟩ = some (.map (some mb))) := hide fun X hX => by
    have h := Ae.out.go hX
    exact ⟨h.b8.get (i := 0) rfl, h.b5.get (i := 0) rfl⟩
   have Al : Hid (∀ X, Calls Tryz.prog 42 #[.int .i64 (q : Int), .int .i64 (j : Int)] X fun e w' => e = .returned (.agg #[.int .i64 (q : Int), .int .i64 (j : Int)]) ∧ Below X.heap.size X w') := hide fun X => kD _ _ X
   have Ak : Hid (∀ args w', (callFunc 42 args).run Tryz.prog w' = .ok (.enter 42 args) w') := hide (enters_go Tryz.func42 (by kernel_rfl) (by kernel_rfl))
   have Ad : Hid (fI [some 6, some 7, some 8, some 9, some 10, some 11, some 12, none] [(2, ab b8), (3, ab b5), (0, .int .i64 (q : Int)), (1, .int .i64 (j : Int))] = true) := hide rfl
   clear h1 hD hf hl
   show Calls Tryz.prog 97 #[.int .i64 (q : Int), .int .i64 (j : Int), ab b8, ab b5] w _
   go_enter Tryz.func97, Tryz.ntmps97
   refine bM fJ (Jl 7 [some 6, some 7, some 8, some 9, some 10, some 11, some 12, none] [(2, ab b8), (3, ab b5), (0, .int .i64 (q : Int)), (1, .int .i64 (j : Int))] (yL wm m mb q j f) (zi wm f W1) W1) (by kernel_rfl) (by kernel_rfl) ?_ (bV ⟨?_, ?_, ?_, ?_, ?_, ?_, ?_, ?_, trivial⟩) ?_ ?_
   · refine ⟨fun _ => ?_, fun e => by cases e⟩
     show Jg _ _ _ W1 _ _ w.drew
     rw [Am]
     exact Jg.start.2 fun p hp => by simp at hp; rcases hp with rfl | rfl | rfl | rfl <;> rfl
   · intro ρ X L hc hf hL hd Ac Ab
     have Aa : L 7 = false := ah (by kernel_rfl) Ac (k := 0) (by simp) hL
     have hJ := Ab.1 Aa
     obtain ⟨c0, c1⟩ := Ag.out X hJ.low
     have k2 : ρ (.tmp 2) = ab b8 := hJ.base (2, ab b8) (by simp)
     refine aa (v := az wm m) (w' := X) ?_ ⟨fun _ => hJ.put Ad.out iN (i := 0) (d := 6) rfl (Below.refl _ _) (rfl), fun e => by rw [aj (by decide), Aa] at e; cases e⟩
     clear hd Ac hJ Ab hL Aa
     go_simp
   · intro ρ X L hc hf hL hd Ac Ab
     have Aa : L 7 = false := ah (by kernel_rfl) Ac (k := 1) (by simp) hL
     have hJ := Ab.1 Aa
     obtain ⟨c0, c1⟩ := Ag.out X hJ.low
     have k3 : ρ (.tmp 3) = ab b5 := hJ.base (3, ab b5) (by simp)
     refine aa (v := .map (some mb)) (w' := X) ?_ ⟨fun _ => hJ.put Ad.out iN (i := 1) (d := 7) rfl (Below.refl _ _) (rfl), fun e => by rw [aj (by decide), Aa] at e; cases e⟩
     clear hd Ac hJ Ab hL Aa
     go_simp
   · intro ρ X L hc hf hL hd Ac Ab
     have Aa : L 7 = false := ah (by kernel_rfl) Ac (k := 2) (by simp) hL
     have hJ := Ab.1 Aa
     have k0 : ρ (.tmp 0) = .int .i64 (q : Int) := hJ.base (0, .int .i64 (q : Int)) (by simp)
     refine aa (v := .int .i64 (q : Int)) (w' := X) ?_ ⟨fun _ => hJ.put Ad.out iN (i := 2) (d := 8) rfl (Below.refl _ _) (rfl), fun e => by rw [aj (by decide), Aa] at e; cases e⟩
     clear hd Ac hJ Ab hL Aa
     go_simp
   · intro ρ X L hc hf hL hd Ac Ab
     have Aa : L 7 = false := ah (by kernel_rfl) Ac (k := 3) (by simp) hL
     have hJ := Ab.1 Aa
     have k1 : ρ (.tmp 1) = .int .i64 (j : Int) := hJ.base (1, .int .i64 (j : Int)) (by simp)
     refine aa (v := .int .i64 (j : Int)) (w' := X) ?_ ⟨fun _ => hJ.put Ad.out iN (i := 3) (d := 9) rfl (Below.refl _ _) (rfl), fun e => by rw [aj (by decide), Aa] at e; cases e⟩
     clear hd Ac hJ Ab hL Aa
     go_simp
   · intro ρ X L hc hf hL hd Ac Ab
     have Aa : L 7 = false := ah (by kernel_rfl) Ac (k := 4) (by simp) hL
     have hJ := Ab.1 Aa
     have k8 : ρ (.tmp 8) = .int .i64 (q : Int) := by
      obtain ⟨_, _, _, e1⟩ := hJ.get (i := 2) (d := 8) rfl (hd ⟨2, .data⟩ (by simp) rfl)
      exact e1
     have k9 : ρ (.tmp 9) = .int .i64 (j : Int) := by
      obtain ⟨_, _, _, e1⟩ := hJ.get (i := 3) (d := 9) rfl (hd ⟨3, .data⟩ (by simp) rfl)
      exact e1
     have hC := Al.out X
     have he := Ak.out #[.int .i64 (q : Int), .int .i64 (j : Int)] X
     refine eB (f := 42) (args := #[.int .i64 (q : Int), .int .i64 (j : Int)]) (w' := X) ?_ hC ?_
     · clear hd Ac hJ Ab hL Aa hC
       go_simp
     · rintro _ Y ⟨rfl, hb⟩
       exact ⟨_, rfl, fun _ => hJ.put Ad.out iN (i := 4) (d := 10) rfl hb (rfl), fun e => by rw [aj (by decide), Aa] at e; cases e⟩
   · intro ρ X L hc hf hL hd Ac Ab
     have Aa : L 7 = false := ah (by kernel_rfl) Ac (k := 5) (by simp) hL
     have hJ := Ab.1 Aa
     have Ay := Aj.out X hJ.low
     have k7 : ρ (.tmp 7) = .map (some mb) := by
      obtain ⟨_, _, _, e1⟩ := hJ.get (i := 1) (d := 7) rfl (hd ⟨1, .data⟩ (by simp) rfl)
      exact e1
     have At : ρ (.tmp 10) = pk q j := by
      obtain ⟨_, _, _, e1⟩ := hJ.get (i := 4) (d := 10) rfl (hd ⟨4, .data⟩ (by simp) rfl)
      exact e1
     refine aa (v := .int .i64 (f : Int)) (w' := X) ?_ ⟨fun _ => hJ.put Ad.out iN (i := 5) (d := 11) rfl (Below.refl _ _) (rfl), fun e => by rw [aj (by decide), Aa] at e; cases e⟩
     clear hd Ac hJ Ab hL Aa
     go_simp
   · intro ρ X L hc hf hL hd Ac Ab
     have Aa : L 7 = false := ah (by kernel_rfl) Ac (k := 6) (by simp) hL
     have hJ := Ab.1 Aa
     have Aw := Ai.out
     have k6 : ρ (.tmp 6) = az wm m := by
      obtain ⟨_, _, _, e1⟩ := hJ.get (i := 0) (d := 6) rfl (hd ⟨0, .data⟩ (by simp) rfl)
      exact e1
     have Av : ρ (.tmp 11) = .int .i64 (f : Int) := by
      obtain ⟨_, _, _, e1⟩ := hJ.get (i := 5) (d := 11) rfl (hd ⟨5, .data⟩ (by simp) rfl)
      exact e1
     refine aa (v := .pointer (some ⟨wm, f, none⟩)) (w' := X) ?_ ⟨fun _ => hJ.put Ad.out iN (i := 6) (d := 12) rfl (Below.refl _ _) (rfl), fun e => by rw [aj (by decide), Aa] at e; cases e⟩
     clear hd Ac hJ Ab hL Aa
     go_simp
     all_goals exact fun h => absurd h (by omega)
   · intro ρ X L hc hf hL hd Ac Ab
     have hJ := Ab.1 hL
     have Ax : ρ (.tmp 12) = .pointer (some ⟨wm, f, none⟩) := by
      obtain ⟨_, _, _, e1⟩ := hJ.get (i := 6) (d := 12) rfl (hd ⟨6, .data⟩ (by simp) rfl)
      exact e1
     have Af := An.out.keep (hJ.low.block _ An.out.lt)
     have y0 := Af.get (jX Ai.out)
     have z0 := Af.frz f
     have Ah : Hid (zi wm f W1 (fF (fun s => ρ (.tmp s)) none undef) (X.setCell ⟨wm, f, none⟩ (.bool true))) := hide ⟨X, hJ.low, rfl⟩
     refine bN (w' := X.setCell ⟨wm, f, none⟩ (.bool true)) ?_ ⟨fun e => (by rw [aG] at e; cases e), fun _ => Ah.out⟩
     clear hd Ac hJ Ab hL Ah Af
     go_simp
   · intro c a' w' _ hE
     exact hE.elim
   · rintro ⟨Au, df⟩ w' Ar Ao ⟨L, hL, hJ⟩ Ap
     simp only at Ao Ar
     subst Ao
     obtain ⟨X, hX, rfl⟩ := hJ.2 (hL 7 (by decide))
     clear hJ hL Ap Ag Aj Al Ak Ad
     go_end0
     refine ⟨rfl, _, ⟨rfl, ?_⟩, (Fr.of_below (HDr.out.trans (hX.mono HDr.out.size))).trans (Fr.setCell (w := X) ⟨wm, f, none⟩ _ rfl), fun k hk => .inl hk⟩
     rw [Aq.out]
     exact (Ae.out.go hX).set f
 · obtain ⟨rfl, h1⟩ := hI
   rw [hk]
   exact h1.wx.lt
end Go.Proofs.YtmlhcncagdfjfaaGreat.De
namespace Go.Proofs.YtmlhcncagdfjfaaGreat.De
open Go.RowKit Fa
theorem zh {w : World} {l : List (Int × Int)} {a : Option Addr} {c : Nat} (h : Chs w a l) : Src Tryz.prog 2 30 (.slice a l.length c) l.length (prs l) w := by
 cases hl : l with
 | nil =>
  subst hl
  cases a with
  | none => exact Src.ofNil w Tryz.underlying30 c
  | some a => exact Src.ofSlice w Tryz.underlying30 _ 0 c [] rfl (fun j u hu => by simp at hu) (by simp)
 | cons y t =>
  rw [← hl]
  obtain ⟨g, o, e, -, -⟩ := h 0 y (by rw [hl]; rfl)
  subst e
  refine Src.ofSlice w Tryz.underlying30 _ l.length c (prs l) rZ (fun j u hu => ?_) fun u hu => ?_
  · have hj : j < (prs l).length := (List.getElem?_eq_some_iff.1 hu).1
    rw [rZ] at hj
    obtain ⟨x, hx⟩ := am (l := l) (i := j / 2) (by omega)
    obtain ⟨g', o', e', c0, c1⟩ := h (j / 2) x hx
    cases e'
    obtain ⟨p0, p1⟩ := m7 hx
    rcases Nat.mod_two_eq_zero_or_one j with hr | hr
    · have ej : j / 2 * 2 = j := by omega
      rw [ej] at p0 c0
      rw [hu] at p0
      cases p0
      rw [← c0]
      congr 1
      simp [Addr.add]
    · have ej : j / 2 * 2 + 1 = j := by omega
      rw [ej] at p1
      rw [show o + j / 2 * 2 + 1 = o + j by omega] at c1
      rw [hu] at p1
      cases p1
      rw [← c1]
      congr 1
      simp [Addr.add]
  · unfold prs at hu
    obtain ⟨p, -, hp⟩ := List.mem_flatMap.1 hu
    simp at hp
    rcases hp with rfl | rfl <;> rfl
end Go.Proofs.YtmlhcncagdfjfaaGreat.De
set_option maxRecDepth 100000
set_option maxHeartbeats 25600000
namespace Go.Proofs.YtmlhcncagdfjfaaGreat.De
open Go.RowKit Fa Go.Shelf Rg
open Go.ChangeMaps (setBlock heap_setBlock_same heap_setBlock_other)
attribute [local go_sem] Oper.semAt_some
def oR (b7 mb q j k : Nat) (i : Nat) (v : Value) (_ : World) (_ _ : Nat) : Prop := match i with
 | 0 => v = .map (some mb)
 | 1 => v = .pointer (some ⟨b7, 1, none⟩)
 | 2 => v = .int .i64 (q : Int)
 | 3 => v = .pointer (some ⟨b7, 0, none⟩)
 | 4 => v = .int .i64 (j : Int)
 | 5 => v = pk q j
 | 6 => v = .int .i64 (k : Int)
 | _ => True
theorem bL {b7 mb q j k : Nat} : ∀ i v W W' lo hi, oR b7 mb q j k i v W lo hi → hi ≤ W.heap.size → Below W.heap.size W W' → oR b7 mb q j k i v W' lo hi := fun _ _ _ _ _ _ h _ _ => h
def sf (mb : Nat) (V : Nat → Nat → Int) (c : Nat) (W0 : World) (_ : Nat → Value) (W : World) : Prop := Fr (fun g => g = mb) W0 W ∧ ∃ es clock, W.heap[mb]? = some (.map es clock) ∧ Mi V c es clock
theorem qZ {w : World} {b clock : Nat} {es : Array MapEntry} {o : Obj} (hb : w.heap[b]? = some (.map es clock)) : Fr (fun g => g = b) w (setBlock w b o) := by
 refine ⟨rfl, rfl, rfl, by rw [dN]; exact Nat.le_refl _, fun i hi hz => heap_setBlock_other hb _ (fun e => hz e)⟩
section
variable {S : Nat → Prop} {N0 : Nat} {K : cH} {T : Th} {w : World} {l : List StM} {la : Option Addr} {lc : Nat}
theorem vC (hT : Wt T K.n) (hX : Xr S N0 K T w) (hl : Sts w.heap.size w l la) (hl0 : 0 < l.length) (hll : l.length ≤ 65536) (hls : ∀ s ∈ l, ∃ q j : Nat, s.lit = (q : Int) ∧ s.tag = (j : Int) ∧ q < K.n ∧ 1 ≤ j ∧ j ≤ 4) (hlc : ∀ s ∈ l, s.ch.length ≤ 1048576) :
    Calls Tryz.prog 57 #[ab K.q, .slice la l.length lc] w fun e w' => ∃ v, e = .returned v ∧ Gy 32 5 jp w.heap.size (ju T l) v w' ∧ Below w.heap.size w w' := by
 have DY : Tryz.prog.follows .mixedOrders = true := by kernel_rfl
 have Em := @run_makeMap Tryz.prog
 obtain ⟨iB, Dw, Dh, DQ, Dx⟩ := info_parts jH
 obtain ⟨s, CT, Cq⟩ := zD hl
 have Bh := hide CT
 have Bq := hide Cq
 have HL := hide hl
 have HT := hide hT
 have HX := hide hX
 have BR := hide hls
 have DU := hide hlc
 obtain ⟨m, hm⟩ : ∃ m, l.length = m := ⟨_, rfl⟩
 have HM := hide hm
 have Dp := hT.n4
 rw [hm] at hl0 hll ⊢
 have Es : ∀ W, (Instr.makeSlice 106 (.int .i64 (m : Int)) (.int .i64 (m : Int))).run Tryz.prog W = .ok (az W.heap.size m) (W.alloc (.cells (Array.replicate m (.bool false)) 4)) := fun W => aK (P := Tryz.prog) Tryz.underlying106 Dw Dh DQ rfl m (by rw [Dx]; omega) (by unfold maxLen; omega) W
 clear hT hX hl hls CT Cq hm hlc
 have hB : Below w.heap.size w (((w.alloc (.cells #[ab K.q] 81)).alloc (.map #[] 0)).alloc (.cells #[.map (some (w.heap.size + 1))] 148)) := ((ac w _).trans ((ac _ _).mono (by simp))).trans ((ac _ _).mono (by simp; omega))
 have h0 : Fx w.heap.size 81 [ab K.q] (((w.alloc (.cells #[ab K.q] 81)).alloc (.map #[] 0)).alloc (.cells #[.map (some (w.heap.size + 1))] 148)) := by
  have e1 : (w.alloc (.cells #[ab K.q] 81)).heap[w.heap.size]? = some (.cells #[ab K.q] 81 (0, 0)) := heap_alloc_new w _
  exact (Below.heap_alloc _ _ _ (by simp; omega)).trans ((Below.heap_alloc _ _ _ (by simp)).trans e1)
 have h1 : (((w.alloc (.cells #[ab K.q] 81)).alloc (.map #[] 0)).alloc (.cells #[.map (some (w.heap.size + 1))] 148)).heap[w.heap.size + 1]? = some (.map #[] 0) := by
  have e1 := World.alloc_heap_new (w.alloc (.cells #[ab K.q] 81)) (.map #[] 0)
  rw [World.size_alloc] at e1
  exact (Below.heap_alloc _ _ _ (by simp)).trans e1
 have h5 : Fx (w.heap.size + 1 + 1) 148 [.map (some (w.heap.size + 1))] (((w.alloc (.cells #[ab K.q] 81)).alloc (.map #[] 0)).alloc (.cells #[.map (some (w.heap.size + 1))] 148)) := by
  have e1 := heap_alloc_new ((w.alloc (.cells #[ab K.q] 81)).alloc (.map #[] 0)) (.cells #[.map (some (w.heap.size + 1))] 148)
  simpa [Fx] using e1
 have HB := hide hB
 have H0 := hide h0
 have Bp := hide h1
 have H5 := hide h5
 clear hB h0 h1 h5
 refine callsIn_wide.1 (callsIn_of_wp_marks (n := 3) Tryz.func57 rfl trivial (wpIn_wide.2 ?_))
 simp only [Tryz.ntmps57, List.size_toArray, List.length_cons, List.length_nil, Nat.reduceAdd, Nat.reduceSub, Array.replicate_succ, Array.replicate_zero, List.push_toArray, List.append_toArray, List.nil_append, List.cons_append]
 go_upto_region 2 with fail
 generalize (((w.alloc (.cells #[ab K.q] 81)).alloc (.map #[] 0)).alloc (.cells #[.map (some (w.heap.size + 1))] 148)) = w2 at *
 obtain ⟨b0, BI⟩ : ∃ b, w.heap.size = b := ⟨_, rfl⟩
 obtain ⟨mb, BA⟩ : ∃ b, w.heap.size + 1 = b := ⟨_, rfl⟩
 obtain ⟨b5, BX⟩ : ∃ b, w.heap.size + 1 + 1 = b := ⟨_, rfl⟩
 rw [BX] at H5 ⊢
 rw [BA] at H5 Bp ⊢
 have Bj := hide (And.intro BI (And.intro BA BX))
 clear BA BX
 rw [BI] at H0 ⊢
 clear BI
 have AQ := hide (li w2 la m lc)
 go_wp2_with (go_at_call 96; refine AQ.out.mono ?_; rintro _ wB ⟨bb, rfl, AU, AT, AX⟩; have BW := hide AU; have AW := hide AT; have CK := hide AX; clear AU AT AX AQ)
 have Ax : Hid (w.heap.size = b0 ∧ w.heap.size + 1 = mb ∧ w.heap.size + 1 + 1 = b5 ∧ b5 < w2.heap.size ∧ w2.heap.size ≤ bb ∧ bb < wB.heap.size) := hide ⟨Bj.out.1, Bj.out.2.1, Bj.out.2.2, H5.out.lt, CK.out, BW.out.lt⟩
 have Bx := hide (HB.out.trans (AW.out.mono HB.out.size))
 have BS := hide ((AW.out.block mb (aS Bp.out)).trans Bp.out)
 have H5B := hide (H5.out.keep (AW.out.block _ H5.out.lt))
 have H0B := hide (H0.out.keep (AW.out.block _ H0.out.lt))
 have Bz := hide (fun X : World => kD)
 clear HB AW H0 Bp H5 Bj CK Bz
 refine (wpIn_wide (n := 3)).1 ?_
 refine lO 6 7 (bb := bb) (len := m) (lc := lc) (la := la) (s := s) (p1 := 19) (p2 := 20) 3 (by omega) (by omega) rfl (enters_go Tryz.func133 (by kernel_rfl) (by kernel_rfl))
  (fun k W => k ≤ m ∧ sf mb (jQ l k) (m - k) wB (fun _ => undef) W) ?hst ?hE ?hS ?h0 ?assign ?body ?done
 case hst =>
  rintro k W W' ⟨h1, h2, es, clock, h3, h4⟩ hb
  exact ⟨h1, tg h2 hb, es, clock, (hb.block mb (aS BS.out)).trans h3, h4⟩
 case hE =>
  rintro k W ⟨h1, h2, -⟩
  have z := Ax.out
  refine ⟨(BW.out.keep (h2.block _ BW.out.lt (by omega))).get (i := 0) rfl, fun i hi => ?_⟩
  obtain ⟨g, o, e, hg, c0, c1, c2, c3, c4⟩ := Bq.out i (by rw [HM.out]; exact hi)
  have hk : W.heap[g]? = w.heap[g]? := (h2.block g (by omega) (by omega)).trans (Bx.out.block g hg)
  exact ⟨g, o, e, (World.cell?_of_block hk).trans c0, (World.cell?_of_block hk).trans c1, (World.cell?_of_block hk).trans c2, (World.cell?_of_block hk).trans c3, (World.cell?_of_block hk).trans c4⟩
 case hS => exact fun k W h => h.2.1.size
 case h0 => exact ⟨Nat.le_refl _, Fr.refl _ _, #[], 0, BS.out, by have e : jQ l m = fun _ _ => 0 := (by rw [← HM.out]; exact yl); rw [e, Nat.sub_self]; exact yW⟩
 case assign =>
  intro l' k W K hK
  simp only [List.setIfInBounds_toArray, List.set_cons_succ, List.set_cons_zero] at hK ⊢
  gi_wp2
  exact hK
 case body =>
  intro l' k b7 W hI hk Cz Dd
  obtain ⟨x, hx⟩ := am (l := l) (i := k) (by rw [HM.out]; exact hk)
  obtain ⟨q, j, hq, hj, CB, AS, Cw⟩ := BR.out x (List.mem_of_getElem? hx)
  obtain ⟨e1, e2, -, -, -, -⟩ := Bh.out k x hx
  have Dz : s.q k = (q : Int) := e2.trans hq
  have DG : s.t k = (j : Int) := e1.trans hj
  have Dl : Hid (jQ l k = lU (jQ l (k + 1)) q j (k : Int)) := hide (uL hx hq hj)
  obtain ⟨-, An, es, clock, CH, Cm⟩ := hI
  have Bs := hide An
  have DE := hide Cm
  have Co := hide CH
  have CI := hide Cz
  have CV := H5B.out.keep (An.block _ H5B.out.lt (by have := Ax.out; omega))
  have H5W := hide CV
  have HK := hide (And.intro hk (And.intro Dd (And.intro CB Cw)))
  clear hx hq hj e1 e2 An Cm CH Cz CV CB AS Cw
  obtain ⟨V, hV⟩ : ∃ V, jQ l k = V := ⟨_, rfl⟩
  obtain ⟨c, hc⟩ : ∃ c, m - k = c := ⟨_, rfl⟩
  have HV := hide hV
  have HC := hide hc
  clear hV hc
  have HDr := hide ((Below.refl W.heap.size W).drew)
  obtain ⟨W0, Cn⟩ : ∃ W0, W.drew = W0 := ⟨_, rfl⟩
  rw [Cn] at HDr
  have Ap : Hid (fI [some 21, some 22, some 23, some 24, some 25, some 26, some 27, none] [(5, ab b5), (7, ab b7), (6, .int .i64 (k : Int))] = true) := hide rfl
  have Ca : Hid (∀ X, Below W0.heap.size W0 X → X.cell? ⟨b7, 0, none⟩ = some (.int .i64 (j : Int)) ∧ X.cell? ⟨b7, 1, none⟩ = some (.int .i64 (q : Int)) ∧ X.cell? ⟨b5, 0, none⟩ = some (.map (some mb))) := hide fun X hX => by
   have hb := HDr.out.trans (hX.mono HDr.out.size)
   have h7 := CI.out.keep (hb.block _ CI.out.lt)
   exact ⟨by rw [← DG]; exact h7.get (i := 0) rfl, by rw [← Dz]; exact h7.get (i := 1) rfl, (H5W.out.keep (hb.block _ H5W.out.lt)).get (i := 0) rfl⟩
  have Dn : Hid (∀ X, Below W0.heap.size W0 X → ∃ Am Ad, (Instr.mapUpdate 148 (.map (some mb)) (pk q j) (.int .i64 (k : Int))).run Tryz.prog X = .ok () (setBlock X mb (.map Am Ad)) ∧ sf mb V c W0 (fun _ => undef) (setBlock X mb (.map Am Ad))) := hide fun X hX => by
   have hb := HDr.out.trans (hX.mono HDr.out.size)
   have Ce : X.heap[mb]? = some (.map es clock) := (hb.block _ (aS Co.out)).trans Co.out
   obtain ⟨Am, Ad, hr, hM⟩ := za Ce DE.out (s := q) (q := j) (by have := HK.out; omega) (by have := HK.out; omega) (by omega) (k : Int)
   refine ⟨Am, Ad, hr, (Fr.of_below hX).trans (qZ Ce), Am, Ad, heap_setBlock_same Ce _, ?_⟩
   rw [← HV.out, Dl.out, ← HC.out, show m - k = m - (k + 1) + 1 by omega]
   exact hM
  have Bz : Hid (∀ X, Calls Tryz.prog 42 #[.int .i64 (q : Int), .int .i64 (j : Int)] X fun e w' => e = .returned (.agg #[.int .i64 (q : Int), .int .i64 (j : Int)]) ∧ Below X.heap.size X w') := hide fun X => kD _ _ X
  have DA : Hid (∀ args w', (callFunc 42 args).run Tryz.prog w' = .ok (.enter 42 args) w') := hide (enters_go Tryz.func42 (by kernel_rfl) (by kernel_rfl))
  simp only [List.setIfInBounds_toArray, List.set_cons_succ, List.set_cons_zero, Nat.reduceSub]
  refine wpIn_block ?_
  refine nX (Jl 7 [some 21, some 22, some 23, some 24, some 25, some 26, some 27, none] [(5, ab b5), (7, ab b7), (6, .int .i64 (k : Int))] (oR b7 mb q j k) (sf mb V c W0) W0) ?hq (by kernel_rfl) (by kernel_rfl) (by kernel_rfl) ?_ (bV ⟨?_, ?_, ?_, ?_, ?_, ?_, ?_, ?_, trivial⟩) ?_
  case hq => rintro ⟨a, w, h⟩; exact h
  · refine ⟨fun _ => ?_, fun e => by cases e⟩
    show Jg _ _ _ W0 _ _ W.drew
    rw [Cn]
    exact Jg.start.2 fun p hp => by simp at hp; rcases hp with rfl | rfl | rfl <;> rfl
  · intro ρ X L hc hf hL hd Ab Ac
    have Aa : L 7 = false := ah (by kernel_rfl) Ab (k := 0) (by simp) hL
    have hJ := Ac.1 Aa
    obtain ⟨c0, c1, c5⟩ := Ca.out X hJ.low
    have k5 : ρ (.tmp 5) = ab b5 := hJ.base (5, ab b5) (by simp)
    refine aa (v := .map (some mb)) (w' := X) ?_ ⟨fun _ => hJ.put Ap.out bL (i := 0) (d := 21) rfl (Below.refl _ _) (rfl), fun e => by rw [aj (by decide), Aa] at e; cases e⟩
    clear hd Ab hJ Ac hL Aa
    go_simp
  · intro ρ X L hc hf hL hd Ab Ac
    have Aa : L 7 = false := ah (by kernel_rfl) Ab (k := 1) (by simp) hL
    have hJ := Ac.1 Aa
    have k7 : ρ (.tmp 7) = ab b7 := hJ.base (7, ab b7) (by simp)
    refine aa (v := .pointer (some ⟨b7, 1, none⟩)) (w' := X) ?_ ⟨fun _ => hJ.put Ap.out bL (i := 1) (d := 22) rfl (Below.refl _ _) (rfl), fun e => by rw [aj (by decide), Aa] at e; cases e⟩
    clear hd Ab hJ Ac hL Aa
    go_simp
  · intro ρ X L hc hf hL hd Ab Ac
    have Aa : L 7 = false := ah (by kernel_rfl) Ab (k := 2) (by simp) hL
    have hJ := Ac.1 Aa
    obtain ⟨c0, c1, c5⟩ := Ca.out X hJ.low
    have Eo : ρ (.tmp 22) = .pointer (some ⟨b7, 1, none⟩) := by
     obtain ⟨_, _, _, e1⟩ := hJ.get (i := 1) (d := 22) rfl (hd ⟨1, .data⟩ (by simp) rfl)
     exact e1
    refine aa (v := .int .i64 (q : Int)) (w' := X) ?_ ⟨fun _ => hJ.put Ap.out bL (i := 2) (d := 23) rfl (Below.refl _ _) (rfl), fun e => by rw [aj (by decide), Aa] at e; cases e⟩
    clear hd Ab hJ Ac hL Aa
    go_simp
  · intro ρ X L hc hf hL hd Ab Ac
    have Aa : L 7 = false := ah (by kernel_rfl) Ab (k := 3) (by simp) hL
    have hJ := Ac.1 Aa
    have k7 : ρ (.tmp 7) = ab b7 := hJ.base (7, ab b7) (by simp)
    refine aa (v := .pointer (some ⟨b7, 0, none⟩)) (w' := X) ?_ ⟨fun _ => hJ.put Ap.out bL (i := 3) (d := 24) rfl (Below.refl _ _) (rfl), fun e => by rw [aj (by decide), Aa] at e; cases e⟩
    clear hd Ab hJ Ac hL Aa
    go_simp
  · intro ρ X L hc hf hL hd Ab Ac
    have Aa : L 7 = false := ah (by kernel_rfl) Ab (k := 4) (by simp) hL
    have hJ := Ac.1 Aa
    obtain ⟨c0, c1, c5⟩ := Ca.out X hJ.low
    have Ee : ρ (.tmp 24) = .pointer (some ⟨b7, 0, none⟩) := by
     obtain ⟨_, _, _, e1⟩ := hJ.get (i := 3) (d := 24) rfl (hd ⟨3, .data⟩ (by simp) rfl)
     exact e1
    refine aa (v := .int .i64 (j : Int)) (w' := X) ?_ ⟨fun _ => hJ.put Ap.out bL (i := 4) (d := 25) rfl (Below.refl _ _) (rfl), fun e => by rw [aj (by decide), Aa] at e; cases e⟩
    clear hd Ab hJ Ac hL Aa
    go_simp
  · intro ρ X L hc hf hL hd Ab Ac
    have Aa : L 7 = false := ah (by kernel_rfl) Ab (k := 5) (by simp) hL
    have hJ := Ac.1 Aa
    have Ep : ρ (.tmp 23) = .int .i64 (q : Int) := by
     obtain ⟨_, _, _, e1⟩ := hJ.get (i := 2) (d := 23) rfl (hd ⟨2, .data⟩ (by simp) rfl)
     exact e1
    have Eh : ρ (.tmp 25) = .int .i64 (j : Int) := by
     obtain ⟨_, _, _, e1⟩ := hJ.get (i := 4) (d := 25) rfl (hd ⟨4, .data⟩ (by simp) rfl)
     exact e1
    have hC := Bz.out X
    have he := DA.out #[.int .i64 (q : Int), .int .i64 (j : Int)] X
    refine eB (f := 42) (args := #[.int .i64 (q : Int), .int .i64 (j : Int)]) (w' := X) ?_ hC ?_
    · clear hd Ab hJ Ac hL Aa hC
      go_simp
    · rintro _ Y ⟨rfl, hb⟩
      exact ⟨_, rfl, fun _ => hJ.put Ap.out bL (i := 5) (d := 26) rfl hb (rfl), fun e => by rw [aj (by decide), Aa] at e; cases e⟩
  · intro ρ X L hc hf hL hd Ab Ac
    have Aa : L 7 = false := ah (by kernel_rfl) Ab (k := 6) (by simp) hL
    have hJ := Ac.1 Aa
    have k6 : ρ (.tmp 6) = .int .i64 (k : Int) := hJ.base (6, .int .i64 (k : Int)) (by simp)
    refine aa (v := .int .i64 (k : Int)) (w' := X) ?_ ⟨fun _ => hJ.put Ap.out bL (i := 6) (d := 27) rfl (Below.refl _ _) (rfl), fun e => by rw [aj (by decide), Aa] at e; cases e⟩
    clear hd Ab hJ Ac hL Aa
    go_simp
  · intro ρ X L hc hf hL hd Ab Ac
    have hJ := Ac.1 hL
    have Eb : ρ (.tmp 21) = .map (some mb) := by
     obtain ⟨_, _, _, e1⟩ := hJ.get (i := 0) (d := 21) rfl (hd ⟨0, .data⟩ (by simp) rfl)
     exact e1
    have Er : ρ (.tmp 26) = pk q j := by
     obtain ⟨_, _, _, e1⟩ := hJ.get (i := 5) (d := 26) rfl (hd ⟨5, .data⟩ (by simp) rfl)
     exact e1
    have Ec : ρ (.tmp 27) = .int .i64 (k : Int) := by
     obtain ⟨_, _, _, e1⟩ := hJ.get (i := 6) (d := 27) rfl (hd ⟨6, .data⟩ (by simp) rfl)
     exact e1
    obtain ⟨Am, Ad, DZ, hF⟩ := Dn.out X hJ.low
    have Cc : Hid (sf mb V c W0 (fF (fun s => ρ (.tmp s)) none undef) (setBlock X mb (.map Am Ad))) := hide hF
    refine bN (w' := setBlock X mb (.map Am Ad)) ?_ ⟨fun e => (by rw [aG] at e; cases e), fun _ => Cc.out⟩
    clear hd Ab hJ Ac hL Cc hF
    go_simp
  · rintro ⟨El, df⟩ w' Eg Ef ⟨L, hL, hJ⟩ Bd
    obtain ⟨hf, Am, Ad, Dm, DM⟩ := hJ.2 (hL 7 (by decide))
    have BZ : Fr (fun g => g = mb) W w' := (Fr.of_below HDr.out).trans hf
    refine ⟨⟨BZ.size, fun i o hi h1 h2 => (BZ.block i (aS h1) (by have := Ax.out; omega)).trans h1⟩, by have := HK.out; omega, Bs.out.trans BZ, Am, Ad, Dm, ?_⟩
    rw [HV.out, HC.out]
    exact DM
 case done =>
  intro D wC hD hI Au
  obtain ⟨-, AY, es, clock, Cx, Cr⟩ := hI
  have CC := hide AY
  have BK := hide Cx
  have CG := hide Cr
  have Bi := hide Au
  have CJ := hide hD
  have Aj : Hid (Below w.heap.size w wC) := hide (Bx.out.trans (AY.below fun k hk => ⟨by have := Bx.out.size; omega, fun e => by have := Ax.out; omega⟩))
  have Ch := hide (H5B.out.keep (AY.block _ H5B.out.lt (by have := Ax.out; omega)))
  have BN := hide (H0B.out.keep (AY.block _ H0B.out.lt (by have := Ax.out; omega)))
  have Dq := hide (HX.out.go Aj.out)
  clear AY Cx Cr Au hD Bx BS H5B H0B
  have Cs : Below wC.heap.size wC ((wC.alloc (.cells (Array.replicate m (.bool false)) 4)).alloc (.cells #[az wC.heap.size m] 106)) := (ac wC _).trans ((ac _ _).mono (by simp))
  have CA : Fx wC.heap.size 4 (jb m fun _ => false) ((wC.alloc (.cells (Array.replicate m (.bool false)) 4)).alloc (.cells #[az wC.heap.size m] 106)) := by
   have e1 : Fx wC.heap.size 4 (jb m fun _ => false) (wC.alloc (.cells (Array.replicate m (.bool false)) 4)) := by unfold Fx jb; rw [heap_alloc_new]; simp [List.map_const']
   exact e1.keep ((ac _ _).block _ e1.lt)
  have Cy : Fx (wC.heap.size + 1) 106 [az wC.heap.size m] ((wC.alloc (.cells (Array.replicate m (.bool false)) 4)).alloc (.cells #[az wC.heap.size m] 106)) := by
   have e1 := heap_alloc_new (wC.alloc (.cells (Array.replicate m (.bool false)) 4)) (.cells #[az wC.heap.size m] 106)
   simpa [Fx] using e1
  have Ak := hide Cs
  have Bc := hide CA
  have AH := hide Cy
  clear Cs CA Cy
  go_upto_region 7 with fail
  generalize ((wC.alloc (.cells (Array.replicate m (.bool false)) 4)).alloc (.cells #[az wC.heap.size m] 106)) = w4 at *
  obtain ⟨wm, BC⟩ : ∃ b, wC.heap.size = b := ⟨_, rfl⟩
  obtain ⟨b8, BJ⟩ : ∃ b, wC.heap.size + 1 = b := ⟨_, rfl⟩
  rw [BJ] at AH ⊢
  rw [BC] at Bc AH ⊢
  have By := hide (And.intro BC BJ)
  clear BJ BC
  have Cp := ac w4 (.cells #[.func (.func 97) #[] #[ab b8, ab b5]] 87)
  have CR : Fx w4.heap.size 87 [.func (.func 97) #[] #[ab b8, ab b5]] (w4.alloc (.cells #[.func (.func 97) #[] #[ab b8, ab b5]] 87)) := heap_alloc_new w4 _
  have Aq := hide Cp
  have AF := hide CR
  clear Cp CR
  go_upto_region 8 with fail
  generalize w4.alloc (.cells #[.func (.func 97) #[] #[ab b8, ab b5]] 87) = w5 at *
  obtain ⟨b9, BD⟩ : ∃ b, w4.heap.size = b := ⟨_, rfl⟩
  have CM := hide BD
  rw [BD] at AF ⊢
  clear BD
  have AO : Hid (Below wC.heap.size wC w5) := hide (Ak.out.trans (Aq.out.mono Ak.out.size))
  have Ae : Hid (b9 < w5.heap.size ∧ b8 < w4.heap.size ∧ wm < w4.heap.size ∧ b9 = w4.heap.size ∧ wm = wC.heap.size ∧ b8 = wC.heap.size + 1) := hide ⟨AF.out.lt, AH.out.lt, Bc.out.lt, CM.out.symm, By.out.1.symm, By.out.2.symm⟩
  obtain ⟨n1, Cv⟩ : ∃ n1, m = n1 + 1 := ⟨m - 1, by omega⟩
  have Cg : n1 < m := by omega
  have e1 : IntKind.i64.wrap ((m : Int) - 1) = (n1 : Int) := by rw [IntKind.wrap_i64]; omega
  have Ds := hide Cv
  obtain ⟨x1, AL⟩ := am (l := l) (i := n1) (by rw [HM.out]; exact Cg)
  obtain ⟨q1, j1, Cj, AS, Cf, BP, Ci⟩ := BR.out x1 (List.mem_of_getElem? AL)
  obtain ⟨z1, z2, -, -, -, -⟩ := Bh.out n1 x1 AL
  have Do := hide AL
  have AJ : Hid (s.q n1 = (q1 : Int) ∧ s.t n1 = (j1 : Int) ∧ x1.lit = (q1 : Int) ∧ x1.tag = (j1 : Int) ∧ q1 < K.n ∧ 1 ≤ j1 ∧ j1 ≤ 4) := hide ⟨z2.trans Cj, z1.trans AS, Cj, AS, Cf, BP, Ci⟩
  clear Cv AL Cj AS Cf BP Ci z1 z2
  obtain ⟨g1, o1, rfl, Dy, c0, c1, c2, c3, c4⟩ := Bq.out n1 (by rw [HM.out]; exact Cg)
  have AM : w5.heap[g1]? = w.heap[g1]? := (AO.out.block g1 (by have := Aj.out.size; omega)).trans (Aj.out.block g1 Dy)
  have d0 := (World.cell?_of_block (a := ⟨g1, o1 + n1 * 5, none⟩) AM).trans c0
  have d1 := (World.cell?_of_block (a := ⟨g1, o1 + n1 * 5 + 1, none⟩) AM).trans c1
  have d2 := (World.cell?_of_block (a := ⟨g1, o1 + n1 * 5 + 2, none⟩) AM).trans c2
  have d3 := (World.cell?_of_block (a := ⟨g1, o1 + n1 * 5 + 3, none⟩) AM).trans c3
  have d4 := (World.cell?_of_block (a := ⟨g1, o1 + n1 * 5 + 4, none⟩) AM).trans c4
  clear AM c0 c1 c2 c3 c4
  have BV : Fx w5.heap.size 32 (s.l n1) (w5.alloc (.cells (s.l n1).toArray 32)) := heap_alloc_new w5 _
  have AP := hide BV
  have DD := hide (AO.out.trans ((ac w5 (.cells (s.l n1).toArray 32)).mono AO.out.size))
  clear BV
  go_upto_region 9 with fail
  change Code.wp _ _ _ _ (w5.alloc (.cells (s.l n1).toArray 32))
  clear d0 d1 d2 d3 d4
  have Ao := hide (ac w5 (.cells (s.l n1).toArray 32))
  generalize w5.alloc (.cells (s.l n1).toArray 32) = w6 at *
  obtain ⟨Ct, Be⟩ : ∃ b, w5.heap.size = b := ⟨_, rfl⟩
  have De := hide Be
  rw [Be] at AP ⊢
  clear Be
  have BQ : Hid (LI b5 b8 wm mb l m (fun _ => false) w6) := hide (by
   have h1 := Aq.out.trans (Ao.out.mono Aq.out.size)
   have h2 := Ak.out.trans (h1.mono Ak.out.size)
   exact ⟨Bc.out.keep (h1.block _ Bc.out.lt), AH.out.keep (h1.block _ AH.out.lt), Ch.out.keep (h2.block _ Ch.out.lt), es, clock, _, (h2.block _ (aS BK.out)).trans BK.out, CG.out⟩)
  have WN := hide (fun W0 : Nat → Bool => ve (n := K.n) (b5 := b5) (b8 := b8) (wm := wm) (mb := mb) (m := m) (l := l) (W0 := W0) Dp (by omega) HM.out (by omega))
  have Cu : Hid (Calls Tryz.prog 97 #[.int .i64 (q1 : Int), .int .i64 (j1 : Int), ab b8, ab b5] w6 fun e w' => e = .returned (.tuple #[]) ∧ ∃ Z2, Pz (vM b5 b8 wm mb l m fun _ => false) (fun k => k = wm) w6 Z2 [((q1 : Int), (j1 : Int))] w') := hide (by
   obtain ⟨k, Ea, e, -, hc⟩ := (WN.out fun _ => false).call
   cases e
   exact hc (fun k => k = wm) [] w6 _ _ ⟨rfl, BQ.out⟩ ⟨by omega, by have := AJ.out; omega, by have := AJ.out; unfold au; omega⟩)
  have f0 : w6.cell? ⟨Ct, 0, none⟩ = some (.int .i64 (j1 : Int)) := by rw [← AJ.out.2.1]; exact AP.out.get (i := 0) rfl
  have f1 : w6.cell? ⟨Ct, 1, none⟩ = some (.int .i64 (q1 : Int)) := by rw [← AJ.out.1]; exact AP.out.get (i := 1) rfl
  have f9 := (AF.out.keep (Ao.out.block _ AF.out.lt)).get (i := 0) rfl
  go_upto_region 9 with fail
  go_wp2_with fail
  refine Cu.out.mono ?_
  rintro _ w7 ⟨rfl, Z7, CL⟩
  have AA := hide CL
  clear CL Cu f0 f1 f9 AP
  obtain ⟨W1, BM⟩ : ∃ W1, eX l (fun _ => false) [((q1 : Int), (j1 : Int))] = W1 := ⟨_, rfl⟩
  have DK := hide BM
  have BE : Hid (LI b5 b8 wm mb l m W1 w7) := hide (by rw [← BM]; exact AA.out.inv.2)
  clear BM
  have AQ := hide (li w7 (some ⟨g1, o1, none⟩) m lc)
  go_wp2_with (go_at_call 96; refine AQ.out.mono ?_; rintro _ wD ⟨b2, rfl, AU, AT, AX⟩; have Br := hide AU; have At := hide AT; have BH := hide AX; clear AU AT AX AQ)
  have BO : Hid (∀ g, g < wC.heap.size → wD.heap[g]? = wC.heap[g]?) := hide fun g hg => by
   have z := Ae.out
   have s4 := Ak.out.size
   have s5 := Aq.out.size
   have s6 := Ao.out.size
   have s7 := AA.out.fr.size
   rw [At.out.block g (by omega), AA.out.fr.block g (by omega) (by omega), Ao.out.block g (by omega), AO.out.block g hg]
  have AE : Hid (wC.heap.size ≤ w4.heap.size ∧ w4.heap.size ≤ w5.heap.size ∧ w5.heap.size ≤ w6.heap.size ∧ w6.heap.size ≤ w7.heap.size ∧ w7.heap.size ≤ wD.heap.size ∧ w7.heap.size ≤ b2 ∧ b2 < wD.heap.size) := hide ⟨Ak.out.size, Aq.out.size, Ao.out.size, AA.out.fr.size, At.out.size, BH.out, Br.out.lt⟩
  have Az : Hid (Below w.heap.size w wD) := hide (by
   have h1 := Aj.out.trans (AO.out.mono Aj.out.size)
   have h2 := h1.trans (Ao.out.mono h1.size)
   have h3 := h2.trans (show Below w.heap.size w6 w7 from AA.out.fr.below fun k hk => ⟨by have := h2.size; omega, fun e => by have := Ae.out; have := Aj.out.size; omega⟩)
   exact h3.trans (At.out.mono h3.size))
  have Bf := hide (BE.out.go At.out)
  have H9D : Hid (Fx b9 87 [.func (.func 97) #[] #[ab b8, ab b5]] wD) := hide (((AF.out.keep (Ao.out.block _ AF.out.lt)).keep (AA.out.fr.block _ (by have := Ae.out; have := AE.out; omega) (by have := Ae.out; omega))).keep (At.out.block _ (by have := Ae.out; have := AE.out; omega)))
  have H0D := hide (BN.out.keep (BO.out _ BN.out.lt))
  have BB := hide ((BO.out _ (aS Bi.out)).trans Bi.out)
  have Bm : Hid (D < wC.heap.size) := hide (aS Bi.out)
  clear Ak Aq Ao Bc AH AF BQ AA At BH BE AO DD BN Ch BK CG Bi Dq By CM De
  refine (wpIn_wide (n := 3)).1 ?_
  refine lO 11 12 (bb := b2) (len := m) (lc := lc) (la := some ⟨g1, o1, none⟩) (s := s) (p1 := 46) (p2 := 47) 3 (by omega) (by omega) rfl (enters_go Tryz.func133 (by kernel_rfl) (by kernel_rfl))
   (fun k W => k ≤ m ∧ Fr (fun g => g = wm) wD W ∧ ∃ Wk, eY T l m W1 = eY T l k Wk ∧ LI b5 b8 wm mb l m Wk W) ?hst ?hE ?hS ?h0 ?assign ?body ?done
  case hst =>
   rintro k W W' ⟨h1, h2, Wk, h3, h4⟩ hb
   exact ⟨h1, tg h2 hb, Wk, h3, h4.keep fun g hg => hb.block g (by
    have := Bf.out.lt
    rcases hg with rfl | rfl | rfl | rfl <;> omega)⟩
  case hE =>
   rintro k W ⟨h1, h2, -⟩
   have z := Ae.out
   have z2 := AE.out
   refine ⟨(Br.out.keep (h2.block _ Br.out.lt (by omega))).get (i := 0) rfl, fun i hi => ?_⟩
   obtain ⟨g, o, e, hg, c0, c1, c2, c3, c4⟩ := Bq.out i (by rw [HM.out]; exact hi)
   have hk : W.heap[g]? = w.heap[g]? := (h2.block g (by have := Az.out.size; omega) (by have := Aj.out.size; omega)).trans (Az.out.block g hg)
   exact ⟨g, o, e, (World.cell?_of_block hk).trans c0, (World.cell?_of_block hk).trans c1, (World.cell?_of_block hk).trans c2, (World.cell?_of_block hk).trans c3, (World.cell?_of_block hk).trans c4⟩
  case hS => exact fun k W h => h.2.1.size
  case h0 => exact ⟨Nat.le_refl _, Fr.refl _ _, W1, rfl, Bf.out⟩
  case assign =>
   intro l' k W K hK
   simp only [List.setIfInBounds_toArray, List.set_cons_succ, List.set_cons_zero] at hK ⊢
   gi_wp2
   exact hK
  case body =>
   intro l' k AR W hI hk Av DV
   obtain ⟨-, An, Wk, BY, AN⟩ := hI
   obtain ⟨x, hx⟩ := am (l := l) (i := k) (by rw [HM.out]; exact hk)
   obtain ⟨e1, e2, e3, e4, e5, AC⟩ := Bh.out k x hx
   have CU : Below w.heap.size w W := Az.out.trans (An.below fun i hi => ⟨by have := Az.out.size; omega, fun e => by have := Ae.out; have := Aj.out.size; omega⟩)
   have Bn : Hid (eY T l (k + 1) Wk = eY T l k (if Wk k then eX l Wk (formM T x).2 else Wk)) := hide (by show eY T l k (if Wk k then (match l[k]? with | some s => eX l Wk (formM T s).2 | none => Wk) else Wk) = _; rw [hx])
   have c8 := AN.b8.get (i := 0) rfl
   have cw := AN.wx.get (jX hk)
   have Df := hide AN
   have Bs := hide An
   have Bv := hide BY
   have CN := hide hk
   simp only [List.setIfInBounds_toArray, List.set_cons_succ, List.set_cons_zero, Nat.reduceSub]
   cases hwk : Wk k with
   | false =>
    rw [hwk] at cw
    have HE : Hid (eY T l m W1 = eY T l k Wk) := hide (by rw [Bv.out, Bn.out, hwk]; rfl)
    clear hwk Bn Bv hx AC AN An BY e1 e2 e3 e4 e5
    refine wpIn_block ?_
    gi_wp2
    exact ⟨⟨Nat.le_refl _, fun i o _ h1 _ => h1⟩, by have := CN.out; omega, Bs.out, Wk, HE.out, Df.out⟩
   | true =>
    rw [hwk] at cw
    have HE : Hid (eY T l m W1 = eY T l k (eX l Wk (formM T x).2)) := hide (by rw [Bv.out, Bn.out, hwk]; rfl)
    obtain ⟨g3, o3, DR, DF, -, -, -, -, -, -, -, Ab, -, Bb, AZ⟩ := HL.out k x hx
    have C := hide (lS (K := K) (T := T) (Inv := vM b5 b8 wm mb l m Wk) (Z := fun k => k = wm) (w := W) (l := []) (tag := x.tag) (lit := x.lit) (how := x.how) (rule := x.rule) (ch := x.ch) (ca := s.a k) (cc := s.c k) HT.out (HX.out.go CU) ⟨rfl, AN⟩ (fun i hi => ⟨fun hs => by have := HX.out.lt i hs; have := Ae.out; have := Aj.out.size; omega, by have := HX.out.n0; have := Ae.out; have := Aj.out.size; omega⟩) (WN.out Wk) Bb AZ Ab (AC.keep fun g hg => CU.block g hg).chs (fun g o e hne => fun e2 => by
     obtain ⟨c0, Dv⟩ := am (l := x.ch) (i := 0) (by cases hz : x.ch with | nil => exact absurd hz hne | cons => simp)
     obtain ⟨g', o', e', hg', -, -⟩ := AC 0 c0 Dv
     rw [e] at e'
     cases e'
     have := Ae.out
     have := Aj.out.size
     omega))
    have t0 : W.cell? ⟨AR, 0, none⟩ = some (.int .i64 x.tag) := by rw [← e1]; exact Av.get (i := 0) rfl
    have t1 : W.cell? ⟨AR, 1, none⟩ = some (.int .i64 x.lit) := by rw [← e2]; exact Av.get (i := 1) rfl
    have t2 : W.cell? ⟨AR, 2, none⟩ = some (.int .i64 x.how) := by rw [← e3]; exact Av.get (i := 2) rfl
    have t3 : W.cell? ⟨AR, 3, none⟩ = some (.int .i64 x.rule) := by rw [← e4]; exact Av.get (i := 3) rfl
    have t4 : W.cell? ⟨AR, 4, none⟩ = some (.slice (s.a k) x.ch.length (s.c k)) := by rw [← e5]; exact Av.get (i := 4) rfl
    have f9 := (H9D.out.keep (An.block _ H9D.out.lt (by have := Ae.out; omega))).get (i := 0) rfl
    have f0 := (H0D.out.keep (An.block _ H0D.out.lt (by have := Ax.out; have := Ae.out; have := CC.out.size; omega))).get (i := 0) rfl
    clear hwk Bn Bv hx AC AN An BY e1 e2 e3 e4 e5 Ab Bb AZ Av
    obtain ⟨fm, BF⟩ : ∃ z, formM T ⟨x.tag, x.lit, x.how, x.rule, x.ch⟩ = z := ⟨_, rfl⟩
    rw [BF] at C
    have Dj : Hid (eY T l m W1 = eY T l k (eX l Wk fm.2)) := hide (by rw [← BF]; exact HE.out)
    obtain ⟨Ai, Ag, Ah, Af, AB⟩ := x
    simp only at C t0 t1 t2 t3 t4
    clear BF HE
    refine wpIn_block ?_
    gi_wp2_with (refine ⟨trivial, ?_⟩; gi_at_call 40; refine (CallsIn.inRound l' (callsIn_wide.2 C.out)).mono ?_; rintro _ w8 ⟨rfl, Z8, CS⟩; have Bk := hide CS; clear CS C)
    exact ⟨⟨Bk.out.fr.size, fun i o hi h1 h2 => (Bk.out.fr.block i (aS h1) (by have := Ae.out; have := AE.out; omega)).trans h1⟩, by have := CN.out; omega, Bs.out.trans Bk.out.fr, _, Dj.out, Bk.out.inv.2⟩
  case done =>
   intro D2 wE Dg hI Au
   obtain ⟨-, BG, Wf, CD, AG⟩ := hI
   have DJ : Hid (ju T l = eD Wf 0 l) := hide (by
    have AL := Do.out
    unfold ju
    rw [HM.out, show m - 1 = n1 by have := Ds.out; omega, AL]
    show eD (eY T l m (eX l (fun _ => false) [(x1.lit, x1.tag)])) 0 l = _
    rw [AJ.out.2.2.1, AJ.out.2.2.2.1, DK.out, CD]
    rfl)
   have Aw : Hid (Below w.heap.size w wE) := hide (Az.out.trans (BG.below fun i hi => ⟨by have := Az.out.size; omega, fun e => by have := Ae.out; have := Aj.out.size; omega⟩))
   have DS : Hid (wE.heap[D]? = some (.deferred (some []))) := hide ((BG.block D (by have := AE.out; have := Bm.out; omega) (by have := Ae.out; have := Bm.out; omega)).trans BB.out)
   have HD2E := hide Au
   have AD : Hid (D < D2 ∧ D2 < wE.heap.size ∧ w.heap.size ≤ D) := hide ⟨by have := Bm.out; have := AE.out; omega, aS Au, by have := CJ.out; have := Ax.out; omega⟩
   have Cb := hide AG.wx
   have HB8E := hide AG.b8
   have Ei : Hid (wm < wE.heap.size ∧ b8 < wE.heap.size) := hide ⟨AG.wx.lt, AG.b8.lt⟩
   obtain ⟨iC, DP, Dt, Di, Dk⟩ := info_parts qc
   obtain ⟨iS, Dr, DI, DL, DH⟩ := info_parts rY
   clear BG CD AG Au Dg Az BO Bf H9D H0D BB AE CC Aj Br Bm CJ BR
   go_wp2_with fail
   go_loopw [13, 58] (fun u x wr => ∃ (k n : Nat) (tl : List StM) (ma : Option Addr) (mc : Nat), k ≤ m ∧ n ≤ k ∧ Hid (tl.length = n) ∧ x = .int .i64 k ∧ u = .slice ma n mc ∧ Hid (Gy 32 5 jp wE.heap.size tl (.slice ma n mc) wr) ∧ Hid (eD Wf 0 l = tl ++ eD Wf k (l.drop k)) ∧ Hid (Below wE.heap.size wE wr)) (fun _ x _ => m - (intOf x).toNat)
   case atStart => exact ⟨0, 0, [], none, 0, by omega, by omega, hide rfl, rfl, rfl, hide Gy.nil, hide (by rw [List.drop_zero]; rfl), hide (Below.refl _ _)⟩
   case round =>
    obtain ⟨k, n, tl, ma, mc, hk, Ed, Bu, rfl, rfl, HG, AI, As⟩ := hrel
    by_cases hlt : k < m
    · obtain ⟨x, hx⟩ := am (l := l) (i := k) (by rw [HM.out]; exact hlt)
      obtain ⟨e1, e2, e3, e4, e5, AC⟩ := Bh.out k x hx
      obtain ⟨g3, o3, DR, DF, -, -, -, -, -, -, -, Ab, -, Bb, AZ⟩ := HL.out k x hx
      obtain ⟨g, o, DT, hg, c0, c1, c2, c3, c4⟩ := Bq.out k (by rw [HM.out]; exact hlt)
      cases DT
      have AK : wr.heap[g1]? = w.heap[g1]? := (As.out.block g1 (by have := Aw.out.size; omega)).trans (Aw.out.block g1 hg)
      have d0 := (World.cell?_of_block (a := ⟨g1, o1 + k * 5, none⟩) AK).trans c0
      have d1 := (World.cell?_of_block (a := ⟨g1, o1 + k * 5 + 1, none⟩) AK).trans c1
      have d2 := (World.cell?_of_block (a := ⟨g1, o1 + k * 5 + 2, none⟩) AK).trans c2
      have d3 := (World.cell?_of_block (a := ⟨g1, o1 + k * 5 + 3, none⟩) AK).trans c3
      have d4 := (World.cell?_of_block (a := ⟨g1, o1 + k * 5 + 4, none⟩) AK).trans c4
      rw [e1] at d0
      rw [e2] at d1
      rw [e3] at d2
      rw [e4] at d3
      rw [e5] at d4
      have Bw : Hid (eD Wf k (l.drop k) = if Wf k then x :: eD Wf (k + 1) (l.drop (k + 1)) else eD Wf (k + 1) (l.drop (k + 1))) := hide (by rw [bf hx]; rfl)
      have hA := ac wr (.cells #[.int .i64 x.tag, .int .i64 x.lit, .int .i64 x.how, .int .i64 x.rule, .slice (s.a k) x.ch.length (s.c k)] 32)
      have hQ : Fx wr.heap.size 32 [.int .i64 x.tag, .int .i64 x.lit, .int .i64 x.how, .int .i64 x.rule, .slice (s.a k) x.ch.length (s.c k)] (wr.alloc (.cells #[.int .i64 x.tag, .int .i64 x.lit, .int .i64 x.how, .int .i64 x.rule, .slice (s.a k) x.ch.length (s.c k)] 32)) := heap_alloc_new wr _
      have Bl : Hid (Src Tryz.prog 2 30 (.slice (s.a k) x.ch.length (s.c k)) x.ch.length (prs x.ch) (wr.alloc (.cells #[.int .i64 x.tag, .int .i64 x.lit, .int .i64 x.how, .int .i64 x.rule, .slice (s.a k) x.ch.length (s.c k)] 32))) := hide (zh ((AC.keep (w' := wr.alloc (.cells #[.int .i64 x.tag, .int .i64 x.lit, .int .i64 x.how, .int .i64 x.rule, .slice (s.a k) x.ch.length (s.c k)] 32)) fun g hg => (hA.block g (by have := As.out.size; have := Aw.out.size; omega)).trans ((As.out.block g (by have := Aw.out.size; omega)).trans (Aw.out.block g hg))).chs))
      have HA := hide hA
      have HQ := hide hQ
      have Ej := hide (And.intro Bb AZ)
      have BL := DU.out x (List.mem_of_getElem? hx)
      clear AK c0 c1 c2 c3 c4 e1 e2 e3 e4 e5 AC hx hA hQ Bb AZ
      obtain ⟨Ai, Ag, Ah, Af, AB⟩ := x
      simp only at d0 d1 d2 d3 d4 Bl HQ HA Ab BL
      have Ek : Hid (Exists fun z : StM => z = ⟨Ai, Ag, Ah, Af, AB⟩) := hide ⟨_, rfl⟩
      obtain ⟨cn, BU⟩ : ∃ c, AB.length = c := ⟨_, rfl⟩
      have CO := hide BU
      rw [BU] at d4 Bl HQ HA Ab BL
      clear BU
      go_upto_region 19 with fail
      clear d0 d1 d2 d3 d4
      generalize wr.alloc (.cells #[.int .i64 Ai, .int .i64 Ag, .int .i64 Ah, .int .i64 Af, .slice (s.a k) cn (s.c k)] 32) = w1 at *
      obtain ⟨Ar, Bg⟩ : ∃ b, wr.heap.size = b := ⟨_, rfl⟩
      have Db := hide Bg
      rw [Bg] at HQ ⊢
      clear Bg
      have Ba := hide (As.out.trans (HA.out.mono As.out.size))
      have c8 := (HB8E.out.keep (Ba.out.block _ HB8E.out.lt)).get (i := 0) rfl
      have cw := (Cb.out.keep (Ba.out.block _ Cb.out.lt)).get (jX hlt)
      cases hwk : Wf k with
      | false =>
       rw [hwk] at cw
       have HE : Hid (eD Wf 0 l = tl ++ eD Wf (k + 1) (l.drop (k + 1))) := hide (by rw [AI.out, Bw.out, hwk]; rfl)
       have DB := hide (HG.out.keep ie (wd := w1) (fun g h1 h2 => HA.out.block g h2) HA.out.size)
       clear hwk Bw AI HG
       go_wp2_with fail
       go_roundw
       case rel => exact ⟨k + 1, n, tl, ma, mc, by omega, by omega, Bu, by go_num, rfl, DB, HE, Ba⟩
       case measure => simp [intOf]; omega
      | true =>
       rw [hwk] at cw
       have HE : Hid (eD Wf 0 l = (tl ++ [⟨Ai, Ag, Ah, Af, AB⟩]) ++ eD Wf (k + 1) (l.drop (k + 1))) := hide (by rw [AI.out, Bw.out, hwk, List.append_assoc]; rfl)
       clear hwk Bw AI
       have k4 := HQ.out.get (i := 4) rfl
       have CW : Hid (w1.ownsRow w1.heap.size 100 2 (.slice none 0 0) 0 []) := hide ⟨rfl, .inl ⟨rfl, rfl⟩⟩
       go_upto_region 20 with fail
       go_upto_region 21 with (at_builtin; go_must (refine lK _ (Nat.le_refl _) (by rfl) _ _ 30 30 rfl 100 iC _ 2 16 Tryz.underlying30 DP Dt Di Dk rfl (.slice none 0 0) 0 [] rfl CW.out (.slice (s.a k) cn (s.c k)) cn (prs AB) rfl Bl.out (by unfold maxLen; omega) (by omega) ?_); intro v4 w4 Ay CF Dc; rw [Nat.zero_add, List.nil_append] at Ay; obtain ⟨a4, c4, rfl⟩ := cq Ay; have CQ := hide Ay; have Ak : Hid (Below w1.heap.size w1 w4) := hide ((Fr.of_grown (Z := fun _ => False) CF (fun k e => by simp [Value.ownBlock] at e)).below fun k hk => ⟨hk, fun h => h⟩); have Bo := hide (HQ.out.keep (Ak.out.block _ HQ.out.lt)); have z4 := Bo.out.frz 4; have y4 := Bo.out.get (i := 4) rfl; clear Ay CF Dc)
       have AV : Hid (Fx Ar 32 [.int .i64 Ai, .int .i64 Ag, .int .i64 Ah, .int .i64 Af, .slice a4 cn c4] (w4.setCell ⟨Ar, 4, none⟩ (.slice a4 cn c4))) := hide (Bo.out.set 4 (.slice a4 cn c4))
       have DW := HQ.out.lt
       have BT := hide (owns_keep (w' := w4.setCell ⟨Ar, 4, none⟩ (.slice a4 cn c4)) CQ.out fun g hg => other_set (by have := (CQ.out.lt g hg).1; omega))
       have s1 := HA.out.size
       have s4 := Ak.out.size
       have s5 := As.out.size
       have En := Db.out
       have DX : w4.heap.size ≤ (w4.setCell ⟨Ar, 4, none⟩ (.slice a4 cn c4)).heap.size := by simp
       have CE : Hid (∀ g, wE.heap.size ≤ g → g < wr.heap.size → (w4.setCell ⟨Ar, 4, none⟩ (.slice a4 cn c4)).heap[g]? = wr.heap[g]?) := hide fun g h1 h2 => by
        rw [other_set (by omega), Ak.out.block g (by omega), HA.out.block g h2]
       have Aq : Hid (Below wE.heap.size wE (w4.setCell ⟨Ar, 4, none⟩ (.slice a4 cn c4))) := hide ((Ba.out.trans (Ak.out.mono Ba.out.size)).setCell (p := ⟨Ar, 4, none⟩) (by show wE.heap.size ≤ Ar; omega) _)
       clear k4 z4 y4 c8 cw Bo HQ CW Bl
       generalize w4.setCell ⟨Ar, 4, none⟩ (.slice a4 cn c4) = w5 at *
       have f0 := AV.out.get (i := 0) rfl
       have f1 := AV.out.get (i := 1) rfl
       have f2 := AV.out.get (i := 2) rfl
       have f3 := AV.out.get (i := 3) rfl
       have f4 := AV.out.get (i := 4) rfl
       obtain ⟨Z, xs, Al, hz, Bd⟩ := HG.out
       rw [Bu.out] at Al
       have Ck := hide Al
       have HZ := hide hz
       have Da := hide Bd
       have CY := hide (owns_keep Al fun g hg => ((ac w5 (.cells #[.int .i64 Ai, .int .i64 Ag, .int .i64 Ah, .int .i64 Af, .slice a4 cn c4] 32)).block g (by have := (Al.lt g hg).2; omega)).trans (CE.out g (Al.lt g hg).1 (Al.lt g hg).2))
       have DO : Hid (∀ g, Value.ownBlock (.slice ma n mc) = some g → wE.heap.size ≤ g) := hide fun g e => (Al.lt g e).1
       clear Al hz Bd HG
       go_wp2_with (at_builtin; go_must (refine bC _ rfl _ _ 27 rfl wE.heap.size 32 iS _ 5 56 Tryz.underlying27 Dr DI DL DH rfl (by decide) (.slice ma n mc) n xs rfl CY.out ⟨w5.heap.size, 0, none⟩ 1 [.int .i64 Ai, .int .i64 Ag, .int .i64 Ah, .int .i64 Af, .slice a4 cn c4] rfl rfl (lB (cs := [.int .i64 Ai, .int .i64 Ag, .int .i64 Ah, .int .i64 Af, .slice a4 cn c4]) rfl) (by intro u hu; simp at hu; rcases hu with rfl | rfl | rfl | rfl | rfl <;> rfl) (by unfold maxLen; omega) (by omega) (by simp; omega) ?_); intro g4 Cd w6 Bt CP; have Du := hide Bt; have Cl := hide CP; clear Bt CP)
       have DC : Hid (Fr (fun k => wE.heap.size ≤ k) w5 w6) := hide (dB rfl (by rcases Cl.out with h | ⟨h1, h2⟩; exact .inl h; exact .inr ⟨by simpa using h1, h2⟩) DO.out)
       have DN : Hid (Gy 32 5 jp wE.heap.size (tl ++ [⟨Ai, Ag, Ah, Af, AB⟩]) (.slice (some ⟨g4, 0, none⟩) (n + 1) Cd) w6) := hide (Gy.grow (Zn := fun g => Value.ownBlock (.slice a4 cn c4) = some g) ie Bu.out Ck.out HZ.out Da.out CE.out (by omega) (by omega) (fun g hg => ⟨by have := (BT.out.lt g hg).1; omega, (BT.out.lt g hg).2⟩) ⟨.slice a4 cn c4, rfl, rT (by rw [CO.out]; exact BT.out) (fun g e => e) (by rw [CO.out]; exact Ab)⟩ rfl Du.out (by rcases Cl.out with h | ⟨h1, h2⟩; exact .inl h; exact .inr ⟨by simpa using h1, h2⟩))
       have Ao : Hid (Below wE.heap.size wE w6) := hide (Aq.out.trans (DC.out.below fun k hk => ⟨by have := Aq.out.size; omega, by omega⟩))
       go_roundw
       case rel => exact ⟨k + 1, n + 1, tl ++ [⟨Ai, Ag, Ah, Af, AB⟩], some ⟨g4, 0, none⟩, Cd, by omega, by omega, hide (by rw [List.length_append, Bu.out]; rfl), by go_num, rfl, DN, HE, Ao⟩
       case measure => simp [intOf]; omega
    · have HE : Hid (ju T l = tl) := hide (by rw [DJ.out, AI.out, List.drop_eq_nil_of_le (by rw [HM.out]; omega)]; unfold eD; rw [List.append_nil])
      have CZ := hide ((As.out.block D (by have := AD.out; omega)).trans DS.out)
      have HD2E2 := hide ((As.out.block D2 (by have := AD.out; omega)).trans HD2E.out)
      clear AI
      go_wp2_with fail
      refine ⟨by simp, .inl ⟨_, _, rfl, run_takeDeferred HD2E2.out, ?_⟩⟩
      have CX : Hid ((wr.putObj D2 (.deferred none)).heap[D]? = some (.deferred (some []))) := hide ((World.putObj_heap_other (by have := AD.out; omega)).trans CZ.out)
      refine ⟨by simp, .inl ⟨_, _, rfl, run_takeDeferred CX.out, ?_⟩⟩
      refine ⟨.slice ma n mc, by simp [results, go_sem], .slice ma n mc, rfl, ?_, ?_⟩
      · rw [HE.out]
        have hk : ∀ g, wE.heap.size ≤ g → ((wr.putObj D2 (.deferred none)).putObj D (.deferred none)).heap[g]? = wr.heap[g]? := fun g hg => by
         rw [World.putObj_heap_other (by have := AD.out; omega), World.putObj_heap_other (by have := AD.out; omega)]
        exact (HG.out.keep ie (fun g h1 _ => hk g h1) (by simp)).down Aw.out.size
      · have h1 := Aw.out.trans (As.out.mono Aw.out.size)
        exact h1.trans ⟨rfl, rfl, rfl, by simp, fun i hi => by rw [World.putObj_heap_other (by have := AD.out; omega), World.putObj_heap_other (by have := AD.out; omega)]⟩
end
end Go.Proofs.YtmlhcncagdfjfaaGreat.De
