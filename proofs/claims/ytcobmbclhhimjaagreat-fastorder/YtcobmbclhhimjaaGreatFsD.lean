/- work. -/
import Derived.Test.YtcobmbclhhimjaaGreatRlr
import Derived.Laws.EntriesVeiled
namespace Go.Proofs.YtcobmbclhhimjaaGreat.Fa
open Go.RowKit Go.Shelf
attribute [local go_sem] Oper.semAt_some

section
variable {T : Th} {F : List Int} {e : Es}
theorem fold_tk {α : Type} {f : Es → α → Es} (h : ∀ e x, (f e x).tk = e.tk) : ∀ {l : List α} {e : Es}, (l.foldl f e).tk = e.tk
  | [], _ => rfl
  | x :: l, e => by rw [List.foldl_cons, fold_tk h, h]
theorem tell_tk {q t : Int} : (tell e q t).tk = e.tk := by unfold tell; split <;> rfl
theorem lose_tk {q : Int} : (loseE e q).tk = e.tk := by unfold loseE; split; exact tell_tk; rfl
theorem prove_tk {q : Int} : (proveE T e q).tk = e.tk := by unfold proveE; split; exact tell_tk; rfl
theorem dispr_tk {q : Int} : (disproveE T e q).tk = e.tk := by unfold disproveE; split; exact lose_tk; rfl
theorem cls_tk {b : Bool} {q : Int} : (clsE e b q).tk = e.tk := by unfold clsE; split <;> rfl
theorem ref_tk {b : Bool} {q : Int} : (refE e b q).tk = e.tk := by unfold refE; split <;> rfl
theorem defend_tk {r : Int} : (defendE T e r).tk = e.tk := fold_tk fun e s => by
  unfold beat1
  split
  · rfl
  · dsimp only; split <;> rfl
theorem with_tk {r : Int} : (withE T e r).tk = e.tk := fold_tk fun e s => by
  unfold with1
  dsimp only
  split
  · exact lose_tk
  · rfl
theorem use_tk {r : Int} : (useE T e r).tk = e.tk := by
  have h1 : ((rivalsL T (headOf T r)).foldl (use1 r) e).tk = e.tk := fold_tk fun e p => by unfold use1; split; exact lose_tk; rfl
  unfold useE
  dsimp only
  split
  · split
    · rw [tell_tk, defend_tk, h1]
    · rw [defend_tk, h1]
  · exact h1
theorem drop_tk {r : Int} : (dropE T e r).tk = e.tk := by
  have h1 : ((rivalsL T (headOf T r)).foldl (drop1 T r) e).tk = e.tk := fold_tk fun e p => by unfold drop1; split; rfl; rw [prove_tk]; rfl
  unfold dropE
  dsimp only
  split
  · split
    · rw [lose_tk, cls_tk, with_tk, h1]
    · rw [cls_tk, with_tk, h1]
  · exact h1
theorem does_tk {q t : Int} : (doesE T F e q t).tk = e.tk := by
  unfold doesE
  split
  · unfold plusSE
    rw [fold_tk fun e p => lose_tk, fold_tk fun e r => by unfold plusS1; dsimp only; split; rw [tell_tk]; rfl; rfl, tell_tk]
  · split
    · unfold minusSE
      dsimp only
      have h1 : ((usersL T false q).foldl (minusS1 T) e).tk = e.tk := fold_tk fun e r => by
        unfold minusS1
        split
        · rfl
        · dsimp only
          split
          · rw [tell_tk, cls_tk, ref_tk]
          · rw [cls_tk, ref_tk]
      rw [dispr_tk]
      split
      · rw [fold_tk fun e p => by unfold clr1; rw [prove_tk]; rfl, h1]
      · exact h1
    · split
      · unfold plusDE
        exact fold_tk fun e r => by unfold plusD1; dsimp only; split; rw [use_tk]; rfl; rfl
      · unfold minusDE
        exact fold_tk fun e r => by unfold minusD1; split; rfl; rw [drop_tk, ref_tk]
theorem step_tk : (stepE T F e).tk = e.tk + 1 := does_tk
end
section
variable {N : Nat} {S : Nat → Prop} {A : Ad} {T : Th} {F : List Int} {n : Nat} {e : Es} {tv : Value} {w w' : World}
theorem Eg.cells (h : Eg N S A T F n e w) (hk : ∀ (k : Nat) cs t fr, w.heap[k]? = some (Obj.cells cs t fr) → w'.heap[k]? = w.heap[k]?) (hS : ∀ k, S k → w'.heap[k]? = w.heap[k]?) (hs : w.heap.size ≤ w'.heap.size) : Eg N S A T F n e w' := by
  obtain ⟨tv, h⟩ := h
  exact ⟨tv, h.cells hk hS hs⟩
theorem Eg.put (h : Eg N S A T F n e w) {l : Nat} {o : Obj} (o' : Obj) (hl : ¬ S l) (ho : w.heap[l]? = some o) (hn : o.isCells = false) : Eg N S A T F n e (w.putObj l o') :=
  h.cells (fun k cs t fr hk => World.putObj_heap_other fun e2 => by subst e2; rw [ho] at hk; cases hk; cases hn) (fun k hk => World.putObj_heap_other fun e2 => hl (e2 ▸ hk)) (by simp)
/-- What the range keeps. -/
structure Rgs (N : Nat) (S : Nat → Prop) (A : Ad) (T : Th) (F : List Int) (n : Nat) (Inv : Es → Prop) (w0 : World) (e e' : Es) (W : World) : Prop where
  eg : Eg N S A T F n e' W
  inv : Inv e
  fr : Fr (fun k => ¬ S k) w0 W
  kl : ∀ k, S k → k < w0.heap.size
theorem Rgs.alloc {Inv : Es → Prop} {w0 : World} {e e' : Es} {W : World} (h : Rgs N S A T F n Inv w0 e e' W) (o : Obj) : Rgs N S A T F n Inv w0 e e' (W.alloc o) := ⟨h.eg.go (below_new W o), h.inv, h.fr.trans (Fr.of_below (below_new W o)), h.kl⟩
theorem Rgs.put {Inv : Es → Prop} {w0 : World} {e e' : Es} {W : World} (h : Rgs N S A T F n Inv w0 e e' W) {l : Nat} {o : Obj} (o' : Obj) (hl : w0.heap.size ≤ l) (ho : W.heap[l]? = some o) (hn : o.isCells = false) : Rgs N S A T F n Inv w0 e e' (W.putObj l o') :=
  ⟨h.eg.put o' (fun hs => by have := h.kl l hs; omega) ho hn, h.inv, h.fr.trans ⟨rfl, rfl, rfl, by simp, fun k _ hz => World.putObj_heap_other fun e2 => by have := h.kl k (Classical.not_not.1 hz); omega⟩, h.kl⟩
def doesV (K : Nat) : List Value := [.func (.func 73) #[ptr K] #[], .func (.func 74) #[ptr K] #[], .func (.func 75) #[ptr K] #[], .func (.func 76) #[ptr K] #[]]
abbrev workA (K db : Nat) (x : Int × Int) (b : Nat) : Act := { tmps := #[ptr K, undef, .pointer (some ⟨db, 0, none⟩), .pointer (some ⟨b, 0, none⟩), ptr K, .func (.func 73) #[ptr K] #[], ptr K, .func (.func 74) #[ptr K] #[], ptr K, .func (.func 75) #[ptr K] #[], ptr K, .func (.func 76) #[ptr K] #[], .agg #[.func (.func 73) #[ptr K] #[], .func (.func 74) #[ptr K] #[], .func (.func 75) #[ptr K] #[], .func (.func 76) #[ptr K] #[]], ptr K, .func (.func 77) #[ptr K] #[], .agg #[.int .i64 x.1, .int .i64 x.2], undef, undef, undef, undef, undef, undef, undef, undef], defers := [] }
/-- Any told tag does its own. -/
theorem does_fn {q : Nat} {t : Int} (h : Eg N S A T F n e w) (hq : q < n) (ht : isTag t) : ∃ f : Nat, (doesV A.K)[(t - 1).toNat]? = some (.func (.func f) #[ptr A.K] #[]) ∧ (∀ args w', (callFunc f args).run Tryz.prog w' = .ok (.enter f args) w') ∧
    Calls Tryz.prog f #[ptr A.K, .int .i64 q] w fun o w' => o = .returned (.tuple #[]) ∧ Eg N S A T F n (doesE T F e q t) w' ∧ Fr (fun k => ¬ S k) w w' := by
  rcases ht with rfl | rfl | rfl | rfl
  · exact ⟨_, rfl, enters_go Tryz.func73 (by kernel_rfl) (by kernel_rfl), plusS_any h hq⟩
  · exact ⟨_, rfl, enters_go Tryz.func74 (by kernel_rfl) (by kernel_rfl), minusS_any h hq⟩
  · exact ⟨_, rfl, enters_go Tryz.func75 (by kernel_rfl) (by kernel_rfl), plusD_any h hq⟩
  · exact ⟨_, rfl, enters_go Tryz.func76 (by kernel_rfl) (by kernel_rfl), minusD_any h hq⟩
theorem enters_of {P : Program} {f : FuncId} {fn : Func} (hf : P.funcs[f]? = some fn) (hn : (fn.name == "runtime.NumGoroutine") = false) (hb : fn.body.isNone = false) : ∀ args w, (callFunc f args).run P w = .ok (.enter f args) w := enters_go hf hn hb
set_option maxRecDepth 100000 in
set_option maxHeartbeats 12800000 in
theorem work_any {Inv : Es → Prop} (h : Eg N S A T F n e w) (hi : Inv e) (hstep : ∀ e, Inv e → Tok n e → e.tk < e.td.length → Inv (stepE T F e)) :
    Calls Tryz.prog 49 #[ptr A.K] w fun o w' => o = .returned (.tuple #[]) ∧ ∃ e', Inv e' ∧ e'.tk = e'.td.length ∧ Eg N S A T F n e' w' ∧ Fr (fun k => ¬ S k) w w' := by
  have HI := hide hi
  have HST := hide hstep
  have HE0 := hide h
  clear hi hstep
  refine callsIn_wide.1 (callsIn_of_wp_marks (n := 3) Tryz.func49 rfl trivial (wpIn_wide.2 ?_))
  simp only [Tryz.ntmps49, List.size_toArray, List.length_cons, List.length_nil, Nat.reduceAdd, Nat.reduceSub, Array.replicate_succ, Array.replicate_zero, List.push_toArray, List.append_toArray, List.nil_append, List.cons_append]
  go_wp2_with fail
  have hE1 : Eg N (fun k => S k ∨ k = w.heap.size) A T F n e (w.alloc (.cells (doesV A.K).toArray 112)) := by
    obtain ⟨tv, hE⟩ := h
    exact ⟨tv, hE.more _⟩
  have hD : Fx w.heap.size 112 (doesV A.K) (w.alloc (.cells (doesV A.K).toArray 112)) := heap_alloc_new w _
  have hB1 := below_new w (.cells (doesV A.K).toArray 112)
  have HW1 := hide hB1
  have HD1 := hide hD
  have HE1 := hide hE1
  clear h hE1 hD hB1
  change Code.wp _ _ _ _ (w.alloc (.cells (doesV A.K).toArray 112))
  generalize w.alloc (.cells (doesV A.K).toArray 112) = w1 at *
  obtain ⟨db, hdb⟩ : ∃ db, w.heap.size = db := ⟨_, rfl⟩
  have HDB := hide hdb
  rw [hdb] at HE1 HD1 ⊢
  clear hdb
  refine (wpIn_wide (n := 3)).1 ?_
  refine range_any (N := N) (S := fun k => S k ∨ k = db) (A := A) (T := T) (F := F) (n := n) (p := 15) 3 (by omega) rfl (enters_of Tryz.func77 (by kernel_rfl) (by kernel_rfl))
    (fun e W => Rgs N (fun k => S k ∨ k = db) A T F n Inv w1 e e W) (fun e W => Rgs N (fun k => S k ∨ k = db) A T F n Inv w1 e (takeE e) W)
    (fun e W d h => ⟨h.eg.go (below_drewN W d), h.inv, h.fr.trans (Fr.of_below (below_drewN W d)), h.kl⟩) (fun e W o h => h.alloc o) (fun e W l o o' h h1 h2 h3 => h.put o' h1 h2 h3) (fun e W o h => h.alloc o) (fun e W l o o' h h1 h2 h3 => h.put o' h1 h2 h3)
    (fun e W h => h.eg) (fun e W W' h h1 h2 h3 => ⟨h2, h.inv, h.fr.trans h3, h.kl⟩)
    (e0 := e) ⟨HE1.out, HI.out, Fr.refl _ _, fun k hk => by obtain ⟨tv, h⟩ := HE1.out; exact (h.kp k hk).1⟩ (workA A.K db) ?assign ?body ?done
  case assign =>
    intro l x W K hK
    gi_wp2
    exact hK
  case body =>
    intro l e x b W hrg hx hbx hbl
    have htok : Tok n e := by
      obtain ⟨tv, h⟩ := hrg.eg
      have h2 := h.tok
      exact ⟨h2.inn, h2.nd, h2.by_, by have := (List.getElem?_eq_some_iff.1 hx).1; omega⟩
    obtain ⟨x0, x1, xt, -⟩ := htok.inn x (List.mem_of_getElem? hx)
    obtain ⟨q, hq⟩ := Int.eq_ofNat_of_zero_le x0
    have hqn : q < n := by omega
    have hlt : e.tk < e.td.length := (List.getElem?_eq_some_iff.1 hx).1
    have HSTEP : Hid (stepE T F e = doesE T F (takeE e) q x.2) := hide (by
      unfold stepE
      rw [List.getD_eq_getElem?_getD, hx]
      simp only [Option.getD_some]
      rw [hq])
    have HINV : Hid (Inv (stepE T F e)) := hide (HST.out e hrg.inv htok hlt)
    have hdf : Fx db 112 (doesV A.K) W := by
      obtain ⟨tv, h⟩ := HE1.out
      exact HD1.out.keep (h.stay hrg.fr db (.inr rfl))
    obtain ⟨tv, hEn⟩ := hrg.eg
    have HO := hide fun d : Nat => (hEn.others.drewN d)
    have hfd := fun d : Nat => does_fn (⟨tv, HO.out d⟩ : Eg N _ A T F n _ _) hqn xt
    obtain ⟨f, hf, henter, -⟩ := hfd 0
    have HC : Hid (∀ d, Calls Tryz.prog f #[ptr A.K, .int .i64 q] (W.drewN d) fun o w' => o = .returned (.tuple #[]) ∧ Eg N (fun k => (S k ∨ k = db) ∨ ∃ o : Obj, W.heap[k]? = some o ∧ ∀ cs t fr, o ≠ .cells cs t fr) A T F n (doesE T F (takeE e) q x.2) w' ∧ Fr (fun k => ¬ ((S k ∨ k = db) ∨ ∃ o : Obj, W.heap[k]? = some o ∧ ∀ cs t fr, o ≠ .cells cs t fr)) (W.drewN d) w') := hide fun d => by
      obtain ⟨f2, hf2, -, hc⟩ := hfd d
      have : f2 = f := by
        rw [hf] at hf2
        cases hf2
        rfl
      subst this
      exact hc
    have cb0 := hbx.get (i := 0) rfl
    have cb1 := hbx.get (i := 1) rfl
    have cf := hdf.get hf
    rw [hq] at cb0
    have HRG := hide hrg
    have HRO := hide hEn.ro
    have hxt := xt
    obtain ⟨t, ht⟩ : ∃ t, x.2 = t := ⟨_, rfl⟩
    rw [ht] at cb1 cf HC hxt HSTEP
    obtain ⟨tm, htm⟩ : ∃ tm : Nat, (t - 1).toNat = tm := ⟨_, rfl⟩
    have ht1 : t - 1 = (tm : Int) ∧ tm < 4 := by rcases hxt with rfl | rfl | rfl | rfl <;> omega
    rw [htm] at cf
    have htb : 1 ≤ t ∧ t ≤ 4 := by rcases hxt with rfl | rfl | rfl | rfl <;> omega
    have hwt : IntKind.i64.wrap (t - 1) = (tm : Int) := by rcases hxt with rfl | rfl | rfl | rfl <;> (have h1 := ht1.1; rw [← h1]; decide)
    have htm4 := ht1.2
    clear hrg hx hbx hdf hEn hfd hf htok x0 x1 xt hxt ht1 htm ht hq hlt
    simp only [Nat.reduceSub]
    refine wpIn_block ?_
    unfold workA
    refine region_last_round ?hq (by kernel_rfl) (by kernel_rfl) (by kernel_rfl) (by kernel_rfl) (by kernel_rfl) (by kernel_rfl) ?_
    case hq => rintro ⟨a, w, h⟩; exact h
    dsimp only [List.dropLast, List.getLast, List.cons_append, List.nil_append]
    repeat (go_big_quiet_step (fail))
    refine wpQuiet_nil ?_
    rintro _ ⟨nq, rfl⟩
    have HCd := hide (HC.out nq)
    clear HC cb0 cb1 cf
    go_wp2_with (refine HCd.out.mono ?_; rintro _ w2 ⟨rfl, he, hf⟩; have HE2 := hide he; have HF2 := hide hf; clear he hf)
    have hF3 : Fr (fun k => ¬ ((S k ∨ k = db) ∨ ∃ o : Obj, W.heap[k]? = some o ∧ ∀ cs t fr, o ≠ .cells cs t fr)) W w2 := (Fr.of_below (below_drewN W nq)).trans HF2.out
    have hS : ∀ k, (S k ∨ k = db) → w2.heap[k]? = W.heap[k]? := fun k hk => hF3.block k (by have := HRG.out.kl k hk; have := HRG.out.fr.size; omega) fun hn => hn (.inl hk)
    refine ⟨⟨hF3.size, fun k o _ hk ho => (hF3.block k (loc_lt hk) (fun h => h (.inr ⟨o, hk, fun cs t fr e => by rw [e] at ho; cases ho⟩))).trans hk⟩, stepE T F e, ⟨?_, HINV.out, HRG.out.fr.trans (hF3.mono fun k _ hz hk => hz (.inl hk)), HRG.out.kl⟩, step_tk⟩
    rw [HSTEP.out]
    obtain ⟨tv2, h2⟩ := HE2.out
    exact ⟨tv2, h2.sub (fun k hk => .inl hk) (HRO.out.keep hS)⟩
  case done =>
    intro D e2 W hD he2 hrg hdef
    go_wp2_with fail
    refine ⟨by simp, .inl ⟨_, _, rfl, run_takeDeferred hdef, ?_⟩⟩
    have hnS : ¬ (S D ∨ D = db) := fun hs => by have := hrg.kl D hs; omega
    have hE3 := hrg.eg.put (.deferred none) hnS hdef rfl
    have hS0 : ∀ k, S k → (W.putObj D (.deferred none)).heap[k]? = w.heap[k]? := fun k hk => by
      have hk1 : k < w.heap.size := by obtain ⟨tv, h⟩ := HE0.out; exact (h.kp k hk).1
      rw [World.putObj_heap_other (show k ≠ D from fun e3 => hnS (.inl (e3 ▸ hk))), hrg.fr.block k (hrg.kl k (.inl hk)) (fun hn => hn (.inl hk)), HW1.out.block k hk1]
    refine ⟨.tuple #[], by simp [results, go_sem], rfl, e2, hrg.inv, he2, ?_, ?_⟩
    · obtain ⟨tv0, h0⟩ := HE0.out
      obtain ⟨tv3, h3⟩ := hE3
      exact ⟨tv3, h3.sub (fun k hk => .inl hk) (h0.ro.keep hS0)⟩
    · have hsz : w.heap.size ≤ (W.putObj D (.deferred none)).heap.size := by have := HW1.out.size; have := hrg.fr.size; simp; omega
      exact ⟨hrg.fr.os.trans HW1.out.os, hrg.fr.tape.trans HW1.out.tape, hrg.fr.output.trans HW1.out.output, hsz, fun k _ hz => hS0 k (Classical.not_not.1 hz)⟩
end
end Go.Proofs.YtcobmbclhhimjaaGreat.Fa
