/- waiting: the worklist, ranged over. -/
import Derived.Test.YtcobmbclhhimjaaGreatFs9
import Derived.RangeFuncNested
import Derived.RangeFuncBound
import Derived.RangeFuncCalls
import Derived.RangeFuncLeaves
import Derived.Shelf.Abstract
import Derived.Shelf.RegionOpen
import Derived.WalkKit
import Derived.OwnWalkIn
import Derived.TacticsInMore
import Derived.LoopNIn
import Derived.LoopIn
namespace Go.Proofs.YtcobmbclhhimjaaGreat.Fa
open Go.RowKit Go.Shelf
attribute [local go_sem] Oper.semAt_some

section
variable {N : Nat} {S : Nat → Prop} {A : Ad} {T : Th} {F : List Int} {n : Nat} {e : Es} {tv : Value} {w w' : World}
theorem En.cells (h : En N S A T F n e tv w) (hk : ∀ (k : Nat) cs t fr, w.heap[k]? = some (Obj.cells cs t fr) → w'.heap[k]? = w.heap[k]?) (hS : ∀ k, S k → w'.heap[k]? = w.heap[k]?) (hs : w.heap.size ≤ w'.heap.size) : En N S A T F n e tv w' := by
  have fx : ∀ {g T : Nat} {xs : List Value}, Fx g T xs w → Fx g T xs w' := fun hf => hf.keep (hk _ _ _ _ hf)
  refine ⟨h.pf, h.ro.keep hS, h.di, h.tok, fx h.bx, fun b => fx (h.ms b), fun b => fx (h.rf b), fun b => fx (h.op b), fun s hs => fx (h.cr s hs), fx h.ob, fx h.mq, owns_keep h.td fun g hg => ?_, fun k hk2 => ⟨Nat.lt_of_lt_of_le (h.kp k hk2).1 hs, (h.kp k hk2).2⟩⟩
  rcases h.td.2 with ⟨e, _⟩ | ⟨g', cap, cur, e, _, h3, _⟩
  · rw [e] at hg; cases hg
  · rw [e] at hg; cases hg; exact hk _ _ _ _ h3
/-- All that is no cells may stay. -/
theorem En.others (h : En N S A T F n e tv w) : En N (fun k => S k ∨ ∃ o : Obj, w.heap[k]? = some o ∧ ∀ cs t fr, o ≠ .cells cs t fr) A T F n e tv w := by
  refine { h with ro := h.ro.sub fun k hk => .inl hk, kp := fun k hk => ?_ }
  rcases hk with hk | ⟨o, ho, hn⟩
  · exact h.kp k hk
  · have ne : ∀ {g t : Nat} {xs : List Value}, Fx g t xs w → k ≠ g := fun hf e2 => by
      unfold Fx at hf
      rw [← e2, ho] at hf
      cases hf
      exact hn _ _ _ rfl
    refine ⟨loc_lt ho, ne h.bx, fun b => ⟨ne (h.ms b), ne (h.rf b), ne (h.op b)⟩, fun s hs => ne (h.cr s hs), ne h.ob, ne h.mq, fun e2 => ?_⟩
    rcases h.td.2 with ⟨e3, _⟩ | ⟨g, cap, cur, e3, _, h2, _⟩
    · rw [e3] at e2; cases e2
    · rw [e3] at e2; cases e2; rw [ho] at h2; cases h2; exact hn _ _ _ rfl
/-- How much is taken. -/
def takenOf (K : Nat) (w : World) : Nat := match w.cell? ⟨K, 20, none⟩ with
  | some v => (intOf v).toNat
  | none => 0
theorem Eg.taken (h : Eg N S A T F n e w) : takenOf A.K w = e.tk := by
  obtain ⟨tv, h⟩ := h
  unfold takenOf
  rw [h.bx.get (i := 20) rfl]
  simp [intOf]
def prV (x : Int × Int) : Value := .agg #[.int .i64 x.1, .int .i64 x.2]
set_option maxRecDepth 100000 in
set_option maxHeartbeats 6400000 in
/-- The iterator, against rounds that hand on a state. -/
theorem iter_any {m l : Nat} {J Jp : Es → World → Prop} (hJd : ∀ e W d, J e W → J e (W.drewN d)) (hE : ∀ e W, J e W → Eg N S A T F n e W)
    (hpop : ∀ e W W', J e W → e.tk < e.td.length → Eg N S A T F n (takeE e) W' → Fr (fun k => ¬ S k) W W' → (∀ (k : Nat) o, W.heap[k]? = some o → o.isCells = false → W'.heap[k]? = some o) → Jp e W')
    (hY : ∀ e W x, Jp e W → e.td[e.tk]? = some x → YieldAt Fence.wide (m - 1) Tryz.prog l #[.agg #[.int .i64 x.1, .int .i64 x.2]] W fun r W' => r = .returned (.bool true) ∧ ∃ e', J e' W' ∧ e'.tk = e.tk + 1)
    {e0 : Es} {W : World} (h0 : J e0 W) :
    CallsIn Fence.wide m Tryz.prog 77 #[ptr A.K, .func (.yield l) #[] #[]] W fun r W' => (∃ v, r = .returned v) ∧ ∃ e, e.tk = e.td.length ∧ J e W' := by
  have HJD := hide hJd
  have HE := hide hE
  have HPOP := hide hpop
  have HY := hide hY
  clear hE hpop hY hJd
  refine callsIn_of_wp Tryz.func77 rfl trivial ?_ rfl
  simp only [Tryz.ntmps77, List.size_toArray, List.length_cons, List.length_nil, Nat.reduceAdd, Nat.reduceSub, Array.replicate_succ, Array.replicate_zero, List.push_toArray, List.append_toArray, List.nil_append, List.cons_append]
  refine wpIn_wide.2 ?_
  have hfol : Tryz.prog.follows .mixedOrders = true := by kernel_rfl
  go_wp2_with fail
  go_loopw [5] (fun _ wr => ∃ e, J e wr) (fun _ wr => n * 4 - takenOf A.K wr)
  case atStart => exact ⟨e0, h0⟩
  case round =>
    obtain ⟨e, hJ⟩ := hrel
    have HJ := hide hJ
    obtain ⟨tv, hEn⟩ := HE.out e wr hJ
    have HEN := hide hEn
    have HTK := hide (HE.out e wr hJ).taken
    have c20 := hEn.bx.get (i := 20) rfl
    have c19 := hEn.bx.get (i := 19) rfl
    obtain ⟨ta, tc, htv⟩ := owns_slice hEn.td
    subst htv
    obtain ⟨ln, hln⟩ : ∃ ln, e.td.length = ln := ⟨_, rfl⟩
    obtain ⟨tk, htk⟩ : ∃ tk, e.tk = tk := ⟨_, rfl⟩
    have HLN := hide hln
    have HK := hide htk
    have hlen : ln ≤ 16384 := by have := hEn.tok.len; have := hEn.pf.n4; omega
    have HL4 : Hid (ln ≤ n * 4) := hide (by have := hEn.tok.len; omega)
    have htl : tk ≤ ln := by have := hEn.tok.tk; omega
    rw [hln] at c19
    rw [htk] at c20
    by_cases hlt : tk < ln
    · obtain ⟨x, hx⟩ := get_at (l := e.td) (i := tk) (by omega)
      have HX : Hid (e.td[e.tk]? = some x) := hide (by rw [htk]; exact hx)
      obtain ⟨g, hta, d0, d1⟩ : ∃ g : Nat, ta = some ⟨g, 0, none⟩ ∧ wr.cell? ⟨g, tk * 2, none⟩ = some (.int .i64 x.1) ∧ wr.cell? ⟨g, tk * 2 + 1, none⟩ = some (.int .i64 x.2) := by
        rcases hEn.td.2 with ⟨h1, h2⟩ | ⟨g, cap, cur, h1, -, -, -⟩
        · omega
        · cases h1
          have hc := hEn.td.cells (g := g) rfl
          have p := prs_at hx
          have q0 := hc _ _ p.1
          have q1 := hc _ _ p.2
          refine ⟨g, rfl, ?_, ?_⟩
          · rw [← q0]; congr 1; simp [Addr.add]
          · rw [← q1]; congr 1; simp [Addr.add]
      subst hta
      have hdl : decide ((tk : Int) < (ln : Int)) = true := decide_eq_true (by omega)
      clear hJ hEn hln htk hx
      obtain ⟨x1, x2⟩ := x
      go_upto_region 0 with fail
      go_quiet (fail)
      rename Nat => dq
      have HEd := hide (HEN.out.drewN dq)
      have HFd : Hid (Fr (fun k => ¬ S k) wr (wr.drewN dq) ∧ ∀ (k : Nat) o, wr.heap[k]? = some o → o.isCells = false → (wr.drewN dq).heap[k]? = some o) := hide ⟨Fr.of_below (below_drewN wr dq), fun k o h _ => h⟩
      have c20' : (wr.drewN dq).cell? ⟨A.K, 20, none⟩ = some (.int .i64 tk) := c20
      have c19' : (wr.drewN dq).cell? ⟨A.K, 19, none⟩ = some (.slice (some ⟨g, 0, none⟩) ln tc) := c19
      have d0' : (wr.drewN dq).cell? ⟨g, tk * 2, none⟩ = some (.int .i64 x1) := d0
      have d1' : (wr.drewN dq).cell? ⟨g, tk * 2 + 1, none⟩ = some (.int .i64 x2) := d1
      clear c20 c19 d0 d1 HEN
      generalize wr.drewN dq = wd at *
      have old : ∀ {a : Addr} {v : Value}, wd.cell? a = some v → (wd.alloc (.cells #[.int .i64 0, .int .i64 0] 92)).cell? a = some v := fun hc => (World.cell?_of_block ((below_new wd _).block _ (World.block_lt_of_cell? wd _ hc))).trans hc
      have e20 := old c20'
      have e19 := old c19'
      have f0 := old d0'
      have f1 := old d1'
      have hN : Fx wd.heap.size 92 [.int .i64 0, .int .i64 0] (wd.alloc (.cells #[.int .i64 0, .int .i64 0] 92)) := heap_alloc_new wd _
      have n0 := hN.get (i := 0) rfl
      have n1 := hN.frz 0
      have hN2 := hN.set 0 (.int .i64 x1)
      have n2 := hN2.get (i := 1) rfl
      have n3 := hN2.frz 1
      have HN3 := hide (hN2.set 1 (.int .i64 x2))
      clear old hN hN2
      go_upto_region 1 with fail
      go_region
      clear n0 n1 n2 n3 f0 f1 e19 e20 c20' c19' d0' d1' HN3
      have hBz : Below wd.heap.size wd (wd.alloc (.cells #[.int .i64 x1, .int .i64 x2] 92)).drew := (below_new wd _).drew
      have HEz := hide (HEd.out.go hBz)
      have HFz : Hid (Fr (fun k => ¬ S k) wr (wd.alloc (.cells #[.int .i64 x1, .int .i64 x2] 92)).drew ∧ ∀ (k : Nat) o, wr.heap[k]? = some o → o.isCells = false → (wd.alloc (.cells #[.int .i64 x1, .int .i64 x2] 92)).drew.heap[k]? = some o) := hide ⟨HFd.out.1.trans (Fr.of_below hBz), fun k o h1 h2 => by have := HFd.out.2 k o h1 h2; rw [hBz.block k (loc_lt this)]; exact this⟩
      have HBX : Hid (Fx wd.heap.size 92 [.int .i64 x1, .int .i64 x2] (wd.alloc (.cells #[.int .i64 x1, .int .i64 x2] 92)).drew) := hide (heap_alloc_new wd _)
      have HBL : Hid (wd.heap.size ≠ A.K) := hide fun e2 => by have := HEd.out.bx.lt; omega
      clear HEd HFd hBz
      generalize (wd.alloc (.cells #[.int .i64 x1, .int .i64 x2] 92)).drew = wz at *
      obtain ⟨bb, hbb⟩ : ∃ bb, wd.heap.size = bb := ⟨_, rfl⟩
      rw [hbb] at HBX HBL ⊢
      clear hbb
      have c20 : wz.cell? ⟨A.K, 20, none⟩ = some (.int .i64 tk) := by rw [← HK.out]; exact HEz.out.bx.get (i := 20) rfl
      go_upto_region 2 with fail
      refine region_last (by assumption) (by kernel_rfl) (by kernel_rfl) (by kernel_rfl) (by kernel_rfl) ?_
      dsimp only [List.dropLast, List.getLast, List.cons_append, List.nil_append]
      repeat (go_big_quiet_step (fail))
      refine wpQuiet_nil ?_
      rintro _ ⟨nq, rfl⟩
      have ec : ((tk + 1 : Nat) : Int) = (tk : Int) + 1 := by omega
      have hE2 := HEz.out.drewN nq
      have h1 := hE2.setTk (k := tk + 1) (by rw [HLN.out]; omega)
      have h2 := h1.1.setUp (inc e.up)
      rw [ec] at h1 h2
      have CS := hide (setI_any (K := A.K) (v := (tk : Int) + 1) (hE2.bx.get (i := 20) rfl) (hE2.bx.frz 20) (h1.1.bx.get (i := 21) rfl) (h1.1.bx.frz 21))
      have HN : Hid (En N S A T F n (takeE e) (.slice (some ⟨g, 0, none⟩) e.td.length tc) (((wz.drewN nq).setCell ⟨A.K, 20, none⟩ (.int .i64 ((tk : Int) + 1))).setCell ⟨A.K, 21, none⟩ (.int .i64 (inc e.up)))) := hide (by
        unfold takeE
        rw [HK.out]
        exact h2.1)
      have HF2 := hide (HFz.out.1.trans ((Fr.of_below (below_drewN wz nq)).trans (h1.2.trans h2.2)))
      have HC2 : Hid (∀ (k : Nat) o, wr.heap[k]? = some o → o.isCells = false → (((wz.drewN nq).setCell ⟨A.K, 20, none⟩ (.int .i64 ((tk : Int) + 1))).setCell ⟨A.K, 21, none⟩ (.int .i64 (inc e.up))).heap[k]? = some o) := hide fun k o a1 a2 => (KeepsOthers.setCell _ _ _).same _ _ ((KeepsOthers.setCell _ _ _).same _ _ (HFz.out.2 k o a1 a2) a2) a2
      have HB2 : Hid (Fx bb 92 [.int .i64 x1, .int .i64 x2] (((wz.drewN nq).setCell ⟨A.K, 20, none⟩ (.int .i64 ((tk : Int) + 1))).setCell ⟨A.K, 21, none⟩ (.int .i64 (inc e.up)))) := hide (((HBX.out.keep rfl : Fx bb _ _ (wz.drewN nq)).keep (other_set HBL.out)).keep (other_set HBL.out))
      clear hE2 h1 h2 c20
      go_upto_region 3 with (go_at_call 108; refine CS.out.mono ?_; rintro _ w2 ⟨rfl, rfl⟩)
      have hp := HPOP.out e wr _ HJ.out (by rw [HLN.out, HK.out]; exact hlt) ⟨_, HN.out⟩ HF2.out HC2.out
      clear HN HF2 HC2 CS HEz HFz HBX
      generalize ((wz.drewN nq).setCell ⟨A.K, 20, none⟩ (.int .i64 ((tk : Int) + 1))).setCell ⟨A.K, 21, none⟩ (.int .i64 (inc e.up)) = w3 at *
      have b0 := HB2.out.get (i := 0) rfl
      have b1 := HB2.out.get (i := 1) rfl
      have HYY := HY.out e w3 (x1, x2) hp HX.out
      obtain ⟨fn, tmps, assign, body, hy, hR⟩ := HYY
      clear hp
      refine (wpIn_wide (n := m)).1 ?_
      gi_wp2
      refine ⟨fun h => (by cases h), ?_⟩
      refine hR.mono ?_
      rintro r W3 ⟨rfl, e', hJ3, hm3⟩
      gi_wp2
      go_wp2_with fail
      go_roundw
      case rel => exact ⟨e', hJ3⟩
      case measure => rw [(HE.out e' _ hJ3).taken, HTK.out, hm3]; have := HL4.out; have := HK.out; omega
    · have htn : tk = ln := by omega
      have HEQ : Hid (e.tk = e.td.length) := hide (by rw [HK.out, HLN.out]; exact htn)
      have hdl : decide ((tk : Int) < (ln : Int)) = false := decide_eq_false (by omega)
      have hB := HE.out
      clear hJ hEn hln htk htn hB
      go_upto_region 0 with fail
      go_quiet (fail)
      rename Nat => dq
      go_wp2_with fail
      go_end0
      exact ⟨⟨_, rfl⟩, e, HEQ.out, HJD.out _ _ _ HJ.out⟩
/-- How the body of a round may be left. -/
def roundQ (B : Nat) (I : Es → World → Prop) (e : Es) (W : World) : Exit → Act → World → Prop
  | .normal, _, W' => KeepsFrom B W W' ∧ ∃ e', I e' W' ∧ e'.tk = e.tk + 1
  | _, _, _ => False
theorem range_any {g : Operand} {p : Tmp} {assign body : Code} {Q : Exit → Act → World → Prop} {a : Act} {w : World} (m : Nat) (hm : 1 ≤ m) (hg : a.eval g = .func (.func 77) #[ptr A.K] #[]) (eg : ∀ args w, (callFunc 77 args).run Tryz.prog w = .ok (.enter 77 args) w)
    (I Ip : Es → World → Prop)
    (hId : ∀ e W d, I e W → I e (W.drewN d)) (hIa : ∀ e W o, I e W → I e (W.alloc o)) (hIo : ∀ e W l o o', I e W → w.heap.size ≤ l → W.heap[l]? = some o → o.isCells = false → I e (W.putObj l o'))
    (hPa : ∀ e W o, Ip e W → Ip e (W.alloc o)) (hPo : ∀ e W l o o', Ip e W → w.heap.size ≤ l → W.heap[l]? = some o → o.isCells = false → Ip e (W.putObj l o'))
    (hE : ∀ e W, I e W → Eg N S A T F n e W)
    (hpop : ∀ e W W', I e W → e.tk < e.td.length → Eg N S A T F n (takeE e) W' → Fr (fun k => ¬ S k) W W' → Ip e W')
    {e0 : Es} (h0 : I e0 w) (a₁ : Int × Int → Nat → Act)
    (hassign : ∀ (l : Nat) (x : Int × Int) (W : World) (K : Act → World → Prop), K (a₁ x W.heap.size) (W.alloc (.cells #[.int .i64 x.1, .int .i64 x.2] 92)) → assign.wpIn (Fence.wide.inRound l) (m - 1 - 1) Tryz.prog (Exit.then K (fun _ _ _ => False)) { tmps := a.tmps.setIfInBounds p (.agg #[.int .i64 x.1, .int .i64 x.2]), defers := [] } W)
    (hbody : ∀ (l : Nat) (e : Es) (x : Int × Int) (b : Nat) (W : World), Ip e W → e.td[e.tk]? = some x → Fx b 92 [.int .i64 x.1, .int .i64 x.2] W → w.heap.size ≤ b → body.wpIn (Fence.wide.inRound l) (m - 1 - 1) Tryz.prog (roundQ w.heap.size I e W) (a₁ x b) W)
    (hdone : ∀ (D : Nat) (e : Es) (W : World), w.heap.size ≤ D → e.tk = e.td.length → I e W → W.heap[D]? = some (.deferred (some [])) → Q .normal { a with defers := { target := .collected D, args := #[] } :: a.defers } W) :
    (Code.rangeFunc g #[p] assign body).wpIn Fence.wide m Tryz.prog Q a w := by
  refine wpIn_rangeFunc ?_
  intro fn hfn
  rw [show Fence.wide.round = none from rfl]
  obtain ⟨rec, hrec⟩ : ∃ rec : LoopState → Option Code → Loop, rec = fun st pe => { state := st, pending := pe, fn, tmps := a.tmps, params := #[p], assign, body, defers := w.heap.size } := ⟨_, rfl⟩
  obtain ⟨W1, hW1⟩ : ∃ W1, (w.alloc (.deferred (some []))).alloc (.loop (rec .ready none)) = W1 := ⟨_, rfl⟩
  have hL1 : W1.heap[w.heap.size + 1]? = some (.loop (rec .ready none)) := by
    rw [← hW1]; have := World.alloc_heap_new (w.alloc (.deferred (some []))) (.loop (rec .ready none)); rwa [World.size_alloc] at this
  have hK1 : W1.heap[w.heap.size]? = some (.deferred (some [])) := by
    rw [← hW1]; exact (Below.heap_alloc _ _ _ (by simp)).trans (World.alloc_heap_new w _)
  have hI1 : I e0 W1 := by rw [← hW1]; exact hIa _ _ _ (hIa _ _ _ h0)
  refine ⟨w.heap.size + 1, [{ target := .collected w.heap.size, args := #[] }], W1, { target := .fn (.func 77) #[], args := #[ptr A.K] ++ #[.func (.yield (w.heap.size + 1)) #[] #[]] }, W1, 77,
    #[ptr A.K, .func (.yield (w.heap.size + 1)) #[] #[]], W1, ?_, ?_, ?_, ?_, fun _ => hm, ?_⟩
  · rw [← hW1, hrec]; exact run_enterLoop_outer _ _ _ _ _
  · simp only [resolve, hg]
    simp [go_sem]
  · intro f' hf'; trivial
  · simp [invoke, go_sem, eg]
  · refine (iter_any (S := S) (A := A) (m := m - 1) (l := w.heap.size + 1)
      (J := fun e W => I e W ∧ W.heap[w.heap.size + 1]? = some (.loop (rec .ready none)) ∧ W.heap[w.heap.size]? = some (.deferred (some [])))
      (Jp := fun e W => Ip e W ∧ W.heap[w.heap.size + 1]? = some (.loop (rec .ready none)) ∧ W.heap[w.heap.size]? = some (.deferred (some [])))
      (fun e W d h => ⟨hId e W d h.1, h.2⟩) (fun e W h => hE e W h.1)
      (fun e W W' h h1 h2 h3 h4 => ⟨hpop e W W' h.1 h1 h2 h3, h4 _ _ h.2.1 rfl, h4 _ _ h.2.2 rfl⟩)
      ?_ ⟨hI1, hL1, hK1⟩).mono ?_
    · rintro e W x ⟨hi, hl, hk⟩ hx
      have hlt : w.heap.size + 1 < W.heap.size := (Array.getElem?_eq_some_iff.1 hl).1
      have hy := run_yield (P := Tryz.prog) (args := #[.agg #[.int .i64 x.1, .int .i64 x.2]]) hl (by rw [hrec]; rfl)
      have hfold : (#[p].zip #[Value.agg #[.int .i64 x.1, .int .i64 x.2]]).foldl (fun tmps (t, a) => tmps.setIfInBounds t a) a.tmps = a.tmps.setIfInBounds p (.agg #[.int .i64 x.1, .int .i64 x.2]) := by simp [Array.zip]
      rw [hrec] at hy
      dsimp only at hy
      rw [hfold] at hy
      refine ⟨fn, _, assign, body, hy, ?_⟩
      refine roundIn_of_wpIn hfn ?_
      refine hassign (w.heap.size + 1) x W _ ?_
      have hlA : (W.alloc (.cells #[.int .i64 x.1, .int .i64 x.2] 92)).heap[w.heap.size + 1]? = some (.loop (rec .ready none)) := (Below.heap_alloc W _ _ hlt).trans hl
      have hkA : (W.alloc (.cells #[.int .i64 x.1, .int .i64 x.2] 92)).heap[w.heap.size]? = some (.deferred (some [])) := (Below.heap_alloc W _ _ (by omega)).trans hk
      have hfA : Fx W.heap.size 92 [.int .i64 x.1, .int .i64 x.2] (W.alloc (.cells #[.int .i64 x.1, .int .i64 x.2] 92)) := heap_alloc_new W _
      have hiA := hPa _ _ (.cells #[.int .i64 x.1, .int .i64 x.2] 92) hi
      have hltA : w.heap.size + 1 < (W.alloc (.cells #[.int .i64 x.1, .int .i64 x.2] 92)).heap.size := (Array.getElem?_eq_some_iff.1 hlA).1
      generalize hWA : W.alloc (.cells #[.int .i64 x.1, .int .i64 x.2] 92) = WA at *
      refine ⟨_, run_beginRound hlA (by rw [hrec]), ?_⟩
      have hl2 : (WA.putObj (w.heap.size + 1) (.loop { rec .ready none with state := .busy })).heap[w.heap.size + 1]? = some (.loop { rec .ready none with state := .busy }) := World.putObj_heap_same hltA
      have hk2 : (WA.putObj (w.heap.size + 1) (.loop { rec .ready none with state := .busy })).heap[w.heap.size]? = some (.deferred (some [])) := (World.putObj_heap_other (by omega)).trans hkA
      refine wpIn_mono (hbody _ e x W.heap.size _ (hPo _ _ _ _ _ hiA (by omega) hlA rfl) hx (hfA.keep (World.putObj_heap_other (by omega))) (by omega)) ?_
      rintro e2 a3 W3 hp
      cases e2 with
      | normal =>
        obtain ⟨hk3, e', hi3, hm3⟩ := hp
        have hl3 := hk3.same _ _ (by omega) hl2 rfl
        have hr := run_endRound (P := Tryz.prog) none hl3
        have hk4 := hk3.same _ _ (Nat.le_refl _) hk2 rfl
        refine ⟨_, _, hr, rfl, e', ⟨hIo _ _ _ _ _ hi3 (by omega) hl3 rfl, ?_, (World.putObj_heap_other (by omega)).trans hk4⟩, hm3⟩
        rw [World.putObj_heap_same (Array.getElem?_eq_some_iff.1 hl3).1]
        rw [hrec]
        rfl
      | ret => exact hp.elim
      | exit id => exact hp.elim
      | goto t => exact hp.elim
      | panic ch => exact hp.elim
      | outgrown => exact hp.elim
    · rintro r W2 ⟨⟨v, rfl⟩, e, hsq, hi, hl, hk⟩
      exact ⟨none, _, by have := run_endLoop (P := Tryz.prog) hl (by rw [hrec]; simp); rw [hrec] at this; exact this, hdone _ e _ (Nat.le_refl _) hsq (hIo _ _ _ _ _ hi (by omega) hl rfl) ((World.putObj_heap_other (by omega)).trans hk)⟩
end
end Go.Proofs.YtcobmbclhhimjaaGreat.Fa
