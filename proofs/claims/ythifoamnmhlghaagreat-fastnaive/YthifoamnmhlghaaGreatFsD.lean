import Derived.Test.YthifoamnmhlghaaGreatRlr
import Derived.Laws.EntriesVeiled
set_option maxRecDepth 100000
set_option maxHeartbeats 12800000
namespace Go.Proofs.YthifoamnmhlghaaGreat.Fa
open Go.RowKit Go.Shelf
attribute [local go_sem] Oper.semAt_some
section
variable {T : Th} {F : List Int} {e : Es}
theorem dF {α : Type} {f : Es → α → Es} (h : ∀ e x, (f e x).tk = e.tk) : ∀ {l : List α} {e : Es}, (l.foldl f e).tk = e.tk
 | [], _ => rfl
 | x :: l, e => by rw [List.foldl_cons, dF h, h]
theorem gE {q t : Int} : (tell e q t).tk = e.tk := by unfold tell; split <;> rfl
theorem iK {q : Int} : (aI e q).tk = e.tk := by unfold aI; split; exact gE; rfl
theorem nF {q : Int} : (bh T e q).tk = e.tk := by unfold bh; split; exact gE; rfl
theorem qU {q : Int} : (aG T e q).tk = e.tk := by unfold aG; split; exact iK; rfl
theorem lD {b : Bool} {q : Int} : (aH e b q).tk = e.tk := by unfold aH; split <;> rfl
theorem nt {b : Bool} {q : Int} : (refE e b q).tk = e.tk := by unfold refE; split <;> rfl
theorem mp {r : Int} : (defendE T e r).tk = e.tk := dF fun e s => by
 unfold beat1
 split
 · rfl
 · dsimp only; split <;> rfl
theorem ou {r : Int} : (withE T e r).tk = e.tk := dF fun e s => by
 unfold with1
 dsimp only
 split
 · exact iK
 · rfl
theorem tl {r : Int} : (ce T e r).tk = e.tk := by
 have h1 : ((ak T (ag T r)).foldl (use1 r) e).tk = e.tk := dF fun e p => by unfold use1; split; exact iK; rfl
 unfold ce
 dsimp only
 split
 · split
   · rw [gE, mp, h1]
   · rw [mp, h1]
 · exact h1
theorem sM {r : Int} : (bI T e r).tk = e.tk := by
 have h1 : ((ak T (ag T r)).foldl (drop1 T r) e).tk = e.tk := dF fun e p => by unfold drop1; split; rfl; rw [nF]; rfl
 unfold bI
 dsimp only
 split
 · split
   · rw [iK, lD, ou, h1]
   · rw [lD, ou, h1]
 · exact h1
theorem sF {q t : Int} : (ep T F e q t).tk = e.tk := by
 unfold ep
 split
 · unfold fg
   rw [dF fun e p => iK, dF fun e r => by unfold plusS1; dsimp only; split; rw [gE]; rfl; rfl, gE]
 · split
   · unfold dr
     dsimp only
     have h1 : ((be T false q).foldl (minusS1 T) e).tk = e.tk := dF fun e r => by
      unfold minusS1
      split
      · rfl
      · dsimp only
        split
        · rw [gE, lD, nt]
        · rw [lD, nt]
     rw [qU]
     split
     · rw [dF fun e p => by unfold gT; rw [nF]; rfl, h1]
     · exact h1
   · split
     · unfold gK
       exact dF fun e r => by unfold plusD1; dsimp only; split; rw [tl]; rfl; rfl
     · unfold fB
       exact dF fun e r => by unfold minusD1; split; rfl; rw [sM, nt]
theorem sy : (eD T F e).tk = e.tk + 1 := sF
end
section
variable {N : Nat} {S : Nat → Prop} {A : Ad} {T : Th} {F : List Int} {n : Nat} {e : Es} {tv : Value} {w w' : World}
theorem Eg.cells (h : Eg N S A T F n e w) (hk : ∀ (k : Nat) cs t fr, w.heap[k]? = some (Obj.cells cs t fr) → w'.heap[k]? = w.heap[k]?) (hS : ∀ k, S k → w'.heap[k]? = w.heap[k]?) (hs : w.heap.size ≤ w'.heap.size) : Eg N S A T F n e w' := by
 obtain ⟨tv, h⟩ := h
 exact ⟨tv, h.cells hk hS hs⟩
theorem Eg.put (h : Eg N S A T F n e w) {l : Nat} {o : Obj} (o' : Obj) (hl : ¬ S l) (ho : w.heap[l]? = some o) (hn : o.isCells = false) : Eg N S A T F n e (w.putObj l o') :=
 h.cells (fun k cs t fr hk => World.putObj_heap_other fun e2 => by subst e2; rw [ho] at hk; cases hk; cases hn) (fun k hk => World.putObj_heap_other fun e2 => hl (e2 ▸ hk)) (by simp)
structure Rgs (N : Nat) (S : Nat → Prop) (A : Ad) (T : Th) (F : List Int) (n : Nat) (Inv : Es → Prop) (w0 : World) (e e' : Es) (W : World) : Prop where
 eg : Eg N S A T F n e' W
 inv : Inv e
 fr : Fr (fun k => ¬ S k) w0 W
 kl : ∀ k, S k → k < w0.heap.size
theorem Rgs.alloc {Inv : Es → Prop} {w0 : World} {e e' : Es} {W : World} (h : Rgs N S A T F n Inv w0 e e' W) (o : Obj) : Rgs N S A T F n Inv w0 e e' (W.alloc o) := ⟨h.eg.go (aa W o), h.inv, h.fr.trans (Fr.of_below (aa W o)), h.kl⟩
theorem Rgs.put {Inv : Es → Prop} {w0 : World} {e e' : Es} {W : World} (h : Rgs N S A T F n Inv w0 e e' W) {l : Nat} {o : Obj} (o' : Obj) (hl : w0.heap.size ≤ l) (ho : W.heap[l]? = some o) (hn : o.isCells = false) : Rgs N S A T F n Inv w0 e e' (W.putObj l o') :=
 ⟨h.eg.put o' (fun hs => by have := h.kl l hs; omega) ho hn, h.inv, h.fr.trans ⟨rfl, rfl, rfl, by simp, fun k _ hz => World.putObj_heap_other fun e2 => by have := h.kl k (Classical.not_not.1 hz); omega⟩, h.kl⟩
def ic (K : Nat) : List Value := [.func (.func 36) #[ae K] #[], .func (.func 37) #[ae K] #[], .func (.func 38) #[ae K] #[], .func (.func 39) #[ae K] #[]]
abbrev rT (K db : Nat) (x : Int × Int) (b : Nat) : Act := { tmps := #[ae K, undef, .pointer (some ⟨db, 0, none⟩), .pointer (some ⟨b, 0, none⟩), ae K, .func (.func 36) #[ae K] #[], ae K, .func (.func 37) #[ae K] #[], ae K, .func (.func 38) #[ae K] #[], ae K, .func (.func 39) #[ae K] #[], .agg #[.func (.func 36) #[ae K] #[], .func (.func 37) #[ae K] #[], .func (.func 38) #[ae K] #[], .func (.func 39) #[ae K] #[]], ae K, .func (.func 40) #[ae K] #[], .agg #[.int .i64 x.1, .int .i64 x.2], undef, undef, undef, undef, undef, undef, undef, undef], defers := [] }
theorem sZ {q : Nat} {t : Int} (h : Eg N S A T F n e w) (hq : q < n) (ht : ax t) : ∃ f : Nat, (ic A.K)[(t - 1).toNat]? = some (.func (.func f) #[ae A.K] #[]) ∧ (∀ args w', (callFunc f args).run Tryz.prog w' = .ok (.enter f args) w') ∧
    Calls Tryz.prog f #[ae A.K, .int .i64 q] w fun o w' => o = .returned (.tuple #[]) ∧ Eg N S A T F n (ep T F e q t) w' ∧ Fr (fun k => ¬ S k) w w' := by
 rcases ht with rfl | rfl | rfl | rfl
 · exact ⟨_, rfl, enters_go Tryz.func36 (by kernel_rfl) (by kernel_rfl), pu h hq⟩
 · exact ⟨_, rfl, enters_go Tryz.func37 (by kernel_rfl) (by kernel_rfl), oS h hq⟩
 · exact ⟨_, rfl, enters_go Tryz.func38 (by kernel_rfl) (by kernel_rfl), qk h hq⟩
 · exact ⟨_, rfl, enters_go Tryz.func39 (by kernel_rfl) (by kernel_rfl), oW h hq⟩
theorem pB {P : Program} {f : FuncId} {fn : Func} (hf : P.funcs[f]? = some fn) (hn : (fn.name == "runtime.NumGoroutine") = false) (hb : fn.body.isNone = false) : ∀ args w, (callFunc f args).run P w = .ok (.enter f args) w := enters_go hf hn hb
theorem qY {Inv : Es → Prop} (h : Eg N S A T F n e w) (hi : Inv e) (hstep : ∀ e, Inv e → Tok n e → e.tk < e.td.length → Inv (eD T F e)) :
    Calls Tryz.prog 17 #[ae A.K] w fun o w' => o = .returned (.tuple #[]) ∧ ∃ e', Inv e' ∧ e'.tk = e'.td.length ∧ Eg N S A T F n e' w' ∧ Fr (fun k => ¬ S k) w w' := by
 have HI := hide hi
 have AM := hide hstep
 have At := hide h
 clear hi hstep
 refine callsIn_wide.1 (callsIn_of_wp_marks (n := 3) Tryz.func17 rfl trivial (wpIn_wide.2 ?_))
 simp only [Tryz.ntmps17, List.size_toArray, List.length_cons, List.length_nil, Nat.reduceAdd, Nat.reduceSub, Array.replicate_succ, Array.replicate_zero, List.push_toArray, List.append_toArray, List.nil_append, List.cons_append]
 go_wp2_with fail
 have Ay : Eg N (fun k => S k ∨ k = w.heap.size) A T F n e (w.alloc (.cells (ic A.K).toArray 72)) := by
  obtain ⟨tv, hE⟩ := h
  exact ⟨tv, hE.more _⟩
 have hD : Fx w.heap.size 72 (ic A.K) (w.alloc (.cells (ic A.K).toArray 72)) := heap_alloc_new w _
 have Ax := aa w (.cells (ic A.K).toArray 72)
 have Ac := hide Ax
 have Au := hide hD
 have Af := hide Ay
 clear h Ay hD Ax
 change Code.wp _ _ _ _ (w.alloc (.cells (ic A.K).toArray 72))
 generalize w.alloc (.cells (ic A.K).toArray 72) = w1 at *
 obtain ⟨db, Ak⟩ : ∃ db, w.heap.size = db := ⟨_, rfl⟩
 have AR := hide Ak
 rw [Ak] at Af Au ⊢
 clear Ak
 refine (wpIn_wide (n := 3)).1 ?_
 refine pS (N := N) (S := fun k => S k ∨ k = db) (A := A) (T := T) (F := F) (n := n) (p := 15) 3 (by omega) rfl (pB Tryz.func40 (by kernel_rfl) (by kernel_rfl))
  (fun e W => Rgs N (fun k => S k ∨ k = db) A T F n Inv w1 e e W) (fun e W => Rgs N (fun k => S k ∨ k = db) A T F n Inv w1 e (dA e) W)
  (fun e W d h => ⟨h.eg.go (au W d), h.inv, h.fr.trans (Fr.of_below (au W d)), h.kl⟩) (fun e W o h => h.alloc o) (fun e W l o o' h h1 h2 h3 => h.put o' h1 h2 h3) (fun e W o h => h.alloc o) (fun e W l o o' h h1 h2 h3 => h.put o' h1 h2 h3)
  (fun e W h => h.eg) (fun e W W' h h1 h2 h3 => ⟨h2, h.inv, h.fr.trans h3, h.kl⟩)
  (e0 := e) ⟨Af.out, HI.out, Fr.refl _ _, fun k hk => by obtain ⟨tv, h⟩ := Af.out; exact (h.kp k hk).1⟩ (rT A.K db) ?assign ?body ?done
 case assign =>
  intro l x W K hK
  gi_wp2
  exact hK
 case body =>
  intro l e x b W Aa hx Al AS
  have Ad : Tok n e := by
   obtain ⟨tv, h⟩ := Aa.eg
   have h2 := h.tok
   exact ⟨h2.inn, h2.nd, h2.by_, by have := (List.getElem?_eq_some_iff.1 hx).1; omega⟩
  obtain ⟨x0, x1, xt, -⟩ := Ad.inn x (List.mem_of_getElem? hx)
  obtain ⟨q, hq⟩ := Int.eq_ofNat_of_zero_le x0
  have AD : q < n := by omega
  have Av : e.tk < e.td.length := (List.getElem?_eq_some_iff.1 hx).1
  have Ae : Hid (eD T F e = ep T F (dA e) q x.2) := hide (by
   unfold eD
   rw [List.getD_eq_getElem?_getD, hx]
   simp only [Option.getD_some]
   rw [hq])
  have AA : Hid (Inv (eD T F e)) := hide (AM.out e Aa.inv Ad Av)
  have Ao : Fx db 72 (ic A.K) W := by
   obtain ⟨tv, h⟩ := Af.out
   exact Au.out.keep (h.stay Aa.fr db (.inr rfl))
  obtain ⟨tv, Ai⟩ := Aa.eg
  have HO := hide fun d : Nat => (Ai.others.drewN d)
  have Aj := fun d : Nat => sZ (⟨tv, HO.out d⟩ : Eg N _ A T F n _ _) AD xt
  obtain ⟨f, hf, AF, -⟩ := Aj 0
  have HC : Hid (∀ d, Calls Tryz.prog f #[ae A.K, .int .i64 q] (W.drewN d) fun o w' => o = .returned (.tuple #[]) ∧ Eg N (fun k => (S k ∨ k = db) ∨ ∃ o : Obj, W.heap[k]? = some o ∧ ∀ cs t fr, o ≠ .cells cs t fr) A T F n (ep T F (dA e) q x.2) w' ∧ Fr (fun k => ¬ ((S k ∨ k = db) ∨ ∃ o : Obj, W.heap[k]? = some o ∧ ∀ cs t fr, o ≠ .cells cs t fr)) (W.drewN d) w') := hide fun d => by
   obtain ⟨f2, Ap, -, hc⟩ := Aj d
   have : f2 = f := by
    rw [hf] at Ap
    cases Ap
    rfl
   subst this
   exact hc
  have Az := Al.get (i := 0) rfl
  have Ar := Al.get (i := 1) rfl
  have cf := Ao.get hf
  rw [hq] at Az
  have Ag := hide Aa
  have AH := hide Ai.ro
  have Ab := xt
  obtain ⟨t, ht⟩ : ∃ t, x.2 = t := ⟨_, rfl⟩
  rw [ht] at Ar cf HC Ab Ae
  obtain ⟨tm, Aw⟩ : ∃ tm : Nat, (t - 1).toNat = tm := ⟨_, rfl⟩
  have An : t - 1 = (tm : Int) ∧ tm < 4 := by rcases Ab with rfl | rfl | rfl | rfl <;> omega
  rw [Aw] at cf
  have AP : 1 ≤ t ∧ t ≤ 4 := by rcases Ab with rfl | rfl | rfl | rfl <;> omega
  have AQ : IntKind.i64.wrap (t - 1) = (tm : Int) := by rcases Ab with rfl | rfl | rfl | rfl <;> (have h1 := An.1; rw [← h1]; decide)
  have AN := An.2
  clear Aa hx Al Ao Ai Aj hf Ad x0 x1 xt Ab An Aw ht hq Av
  simp only [Nat.reduceSub]
  refine wpIn_block ?_
  unfold rT
  refine jT ?hq (by kernel_rfl) (by kernel_rfl) (by kernel_rfl) (by kernel_rfl) (by kernel_rfl) (by kernel_rfl) ?_
  case hq => rintro ⟨a, w, h⟩; exact h
  dsimp only [List.dropLast, List.getLast, List.cons_append, List.nil_append]
  repeat (go_big_quiet_step (fail))
  refine wpQuiet_nil ?_
  rintro _ ⟨nq, rfl⟩
  have HCd := hide (HC.out nq)
  clear HC Az Ar cf
  go_wp2_with (refine HCd.out.mono ?_; rintro _ w2 ⟨rfl, he, hf⟩; have AL := hide he; have AC := hide hf; clear he hf)
  have Ah : Fr (fun k => ¬ ((S k ∨ k = db) ∨ ∃ o : Obj, W.heap[k]? = some o ∧ ∀ cs t fr, o ≠ .cells cs t fr)) W w2 := (Fr.of_below (au W nq)).trans AC.out
  have hS : ∀ k, (S k ∨ k = db) → w2.heap[k]? = W.heap[k]? := fun k hk => Ah.block k (by have := Ag.out.kl k hk; have := Ag.out.fr.size; omega) fun hn => hn (.inl hk)
  refine ⟨⟨Ah.size, fun k o _ hk ho => (Ah.block k (aR hk) (fun h => h (.inr ⟨o, hk, fun cs t fr e => by rw [e] at ho; cases ho⟩))).trans hk⟩, eD T F e, ⟨?_, AA.out, Ag.out.fr.trans (Ah.mono fun k _ hz hk => hz (.inl hk)), Ag.out.kl⟩, sy⟩
  rw [Ae.out]
  obtain ⟨AJ, h2⟩ := AL.out
  exact ⟨AJ, h2.sub (fun k hk => .inl hk) (AH.out.keep hS)⟩
 case done =>
  intro D e2 W hD AK Aa Am
  go_wp2_with fail
  refine ⟨by simp, .inl ⟨_, _, rfl, run_takeDeferred Am, ?_⟩⟩
  have As : ¬ (S D ∨ D = db) := fun hs => by have := Aa.kl D hs; omega
  have AB := Aa.eg.put (.deferred none) As Am rfl
  have Aq : ∀ k, S k → (W.putObj D (.deferred none)).heap[k]? = w.heap[k]? := fun k hk => by
   have AE : k < w.heap.size := by obtain ⟨tv, h⟩ := At.out; exact (h.kp k hk).1
   rw [World.putObj_heap_other (show k ≠ D from fun e3 => As (.inl (e3 ▸ hk))), Aa.fr.block k (Aa.kl k (.inl hk)) (fun hn => hn (.inl hk)), Ac.out.block k AE]
  refine ⟨.tuple #[], by simp [results, go_sem], rfl, e2, Aa.inv, AK, ?_, ?_⟩
  · obtain ⟨AO, h0⟩ := At.out
    obtain ⟨AG, h3⟩ := AB
    exact ⟨AG, h3.sub (fun k hk => .inl hk) (h0.ro.keep Aq)⟩
  · have AI : w.heap.size ≤ (W.putObj D (.deferred none)).heap.size := by have := Ac.out.size; have := Aa.fr.size; simp; omega
    exact ⟨Aa.fr.os.trans Ac.out.os, Aa.fr.tape.trans Ac.out.tape, Aa.fr.output.trans Ac.out.output, AI, fun k _ hz => Aq k (Classical.not_not.1 hz)⟩
end
end Go.Proofs.YthifoamnmhlghaaGreat.Fa
