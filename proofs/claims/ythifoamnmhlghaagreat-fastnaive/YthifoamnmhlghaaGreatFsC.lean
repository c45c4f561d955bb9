import Derived.Test.YthifoamnmhlghaaGreatFs9
import Derived.RangeFuncNested
import Derived.RangeFuncBound
import Derived.RangeFuncCalls
import Derived.RangeFuncLeaves
import Derived.Shelf.Abstract
import Derived.Shelf.RegionOpen
import Derived.WalkKit
import Derived.OwnWalkIn
import Derived.TacticsInMore
import Derived.LoopNIn
import Derived.LoopIn
set_option maxRecDepth 100000
set_option maxHeartbeats 6400000
namespace Go.Proofs.YthifoamnmhlghaaGreat.Fa
open Go.RowKit Go.Shelf
attribute [local go_sem] Oper.semAt_some
section
variable {N : Nat} {S : Nat → Prop} {A : Ad} {T : Th} {F : List Int} {n : Nat} {e : Es} {tv : Value} {w w' : World}
theorem En.cells (h : En N S A T F n e tv w) (hk : ∀ (k : Nat) cs t fr, w.heap[k]? = some (Obj.cells cs t fr) → w'.heap[k]? = w.heap[k]?) (hS : ∀ k, S k → w'.heap[k]? = w.heap[k]?) (hs : w.heap.size ≤ w'.heap.size) : En N S A T F n e tv w' := by
 have fx : ∀ {g T : Nat} {xs : List Value}, Fx g T xs w → Fx g T xs w' := fun hf => hf.keep (hk _ _ _ _ hf)
 refine ⟨h.pf, h.ro.keep hS, h.di, h.tok, fx h.bx, fun b => fx (h.ms b), fun b => fx (h.rf b), fun b => fx (h.op b), fun s hs => fx (h.cr s hs), fx h.ob, fx h.mq, owns_keep h.td fun g hg => ?_, fun k hk2 => ⟨Nat.lt_of_lt_of_le (h.kp k hk2).1 hs, (h.kp k hk2).2⟩⟩
 rcases h.td.2 with ⟨e, _⟩ | ⟨g', Aa, Ab, e, _, h3, _⟩
 · rw [e] at hg; cases hg
 · rw [e] at hg; cases hg; exact hk _ _ _ _ h3
theorem En.others (h : En N S A T F n e tv w) : En N (fun k => S k ∨ ∃ o : Obj, w.heap[k]? = some o ∧ ∀ cs t fr, o ≠ .cells cs t fr) A T F n e tv w := by
 refine { h with ro := h.ro.sub fun k hk => .inl hk, kp := fun k hk => ?_ }
 rcases hk with hk | ⟨o, ho, hn⟩
 · exact h.kp k hk
 · have ne : ∀ {g t : Nat} {xs : List Value}, Fx g t xs w → k ≠ g := fun hf e2 => by
    unfold Fx at hf
    rw [← e2, ho] at hf
    cases hf
    exact hn _ _ _ rfl
   refine ⟨aR ho, ne h.bx, fun b => ⟨ne (h.ms b), ne (h.rf b), ne (h.op b)⟩, fun s hs => ne (h.cr s hs), ne h.ob, ne h.mq, fun e2 => ?_⟩
   rcases h.td.2 with ⟨e3, _⟩ | ⟨g, Aa, Ab, e3, _, h2, _⟩
   · rw [e3] at e2; cases e2
   · rw [e3] at e2; cases e2; rw [ho] at h2; cases h2; exact hn _ _ _ rfl
def lN (K : Nat) (w : World) : Nat := match w.cell? ⟨K, 20, none⟩ with
 | some v => (intOf v).toNat
 | none => 0
theorem Eg.taken (h : Eg N S A T F n e w) : lN A.K w = e.tk := by
 obtain ⟨tv, h⟩ := h
 unfold lN
 rw [h.bx.get (i := 20) rfl]
 simp [intOf]
def uF (x : Int × Int) : Value := .agg #[.int .i64 x.1, .int .i64 x.2]
theorem rp {m l : Nat} {J Jp : Es → World → Prop} (hJd : ∀ e W d, J e W → J e (W.drewN d)) (hE : ∀ e W, J e W → Eg N S A T F n e W)
    (hpop : ∀ e W W', J e W → e.tk < e.td.length → Eg N S A T F n (dA e) W' → Fr (fun k => ¬ S k) W W' → (∀ (k : Nat) o, W.heap[k]? = some o → o.isCells = false → W'.heap[k]? = some o) → Jp e W')
    (hY : ∀ e W x, Jp e W → e.td[e.tk]? = some x → YieldAt Fence.wide (m - 1) Tryz.prog l #[.agg #[.int .i64 x.1, .int .i64 x.2]] W fun r W' => r = .returned (.bool true) ∧ ∃ e', J e' W' ∧ e'.tk = e.tk + 1)
    {e0 : Es} {W : World} (h0 : J e0 W) :
    CallsIn Fence.wide m Tryz.prog 40 #[ae A.K, .func (.yield l) #[] #[]] W fun r W' => (∃ v, r = .returned v) ∧ ∃ e, e.tk = e.td.length ∧ J e W' := by
 have Ay := hide hJd
 have HE := hide hE
 have Au := hide hpop
 have HY := hide hY
 clear hE hpop hY hJd
 refine callsIn_of_wp Tryz.func40 rfl trivial ?_ rfl
 simp only [Tryz.ntmps40, List.size_toArray, List.length_cons, List.length_nil, Nat.reduceAdd, Nat.reduceSub, Array.replicate_succ, Array.replicate_zero, List.push_toArray, List.append_toArray, List.nil_append, List.cons_append]
 refine wpIn_wide.2 ?_
 have AJ : Tryz.prog.follows .mixedOrders = true := by kernel_rfl
 go_wp2_with fail
 go_loopw [5] (fun _ wr => ∃ e, J e wr) (fun _ wr => n * 4 - lN A.K wr)
 case atStart => exact ⟨e0, h0⟩
 case round =>
  obtain ⟨e, hJ⟩ := hrel
  have HJ := hide hJ
  obtain ⟨tv, Aa⟩ := HE.out e wr hJ
  have Ar := hide Aa
  have AC := hide (HE.out e wr hJ).taken
  have Ad := Aa.bx.get (i := 20) rfl
  have Al := Aa.bx.get (i := 19) rfl
  obtain ⟨ta, tc, Av⟩ := bg Aa.td
  subst Av
  obtain ⟨ln, Ae⟩ : ∃ ln, e.td.length = ln := ⟨_, rfl⟩
  obtain ⟨tk, Ac⟩ : ∃ tk, e.tk = tk := ⟨_, rfl⟩
  have Ai := hide Ae
  have HK := hide Ac
  have AI : ln ≤ 16384 := by have := Aa.tok.len; have := Aa.pf.n4; omega
  have AE : Hid (ln ≤ n * 4) := hide (by have := Aa.tok.len; omega)
  have AL : tk ≤ ln := by have := Aa.tok.tk; omega
  rw [Ae] at Al
  rw [Ac] at Ad
  by_cases hlt : tk < ln
  · obtain ⟨x, hx⟩ := ap (l := e.td) (i := tk) (by omega)
    have HX : Hid (e.td[e.tk]? = some x) := hide (by rw [Ac]; exact hx)
    obtain ⟨g, Ax, d0, d1⟩ : ∃ g : Nat, ta = some ⟨g, 0, none⟩ ∧ wr.cell? ⟨g, tk * 2, none⟩ = some (.int .i64 x.1) ∧ wr.cell? ⟨g, tk * 2 + 1, none⟩ = some (.int .i64 x.2) := by
     rcases Aa.td.2 with ⟨h1, h2⟩ | ⟨g, AM, AN, h1, -, -, -⟩
     · omega
     · cases h1
       have hc := Aa.td.cells (g := g) rfl
       have p := ti hx
       have q0 := hc _ _ p.1
       have q1 := hc _ _ p.2
       refine ⟨g, rfl, ?_, ?_⟩
       · rw [← q0]; congr 1; simp [Addr.add]
       · rw [← q1]; congr 1; simp [Addr.add]
    subst Ax
    have AG : decide ((tk : Int) < (ln : Int)) = true := decide_eq_true (by omega)
    clear hJ Aa Ae Ac hx
    obtain ⟨x1, x2⟩ := x
    go_upto_region 0 with fail
    go_quiet (fail)
    rename Nat => dq
    have HEd := hide (Ar.out.drewN dq)
    have HFd : Hid (Fr (fun k => ¬ S k) wr (wr.drewN dq) ∧ ∀ (k : Nat) o, wr.heap[k]? = some o → o.isCells = false → (wr.drewN dq).heap[k]? = some o) := hide ⟨Fr.of_below (au wr dq), fun k o h _ => h⟩
    have c20' : (wr.drewN dq).cell? ⟨A.K, 20, none⟩ = some (.int .i64 tk) := Ad
    have c19' : (wr.drewN dq).cell? ⟨A.K, 19, none⟩ = some (.slice (some ⟨g, 0, none⟩) ln tc) := Al
    have d0' : (wr.drewN dq).cell? ⟨g, tk * 2, none⟩ = some (.int .i64 x1) := d0
    have d1' : (wr.drewN dq).cell? ⟨g, tk * 2 + 1, none⟩ = some (.int .i64 x2) := d1
    clear Ad Al d0 d1 Ar
    generalize wr.drewN dq = wd at *
    have Ab : ∀ {a : Addr} {v : Value}, wd.cell? a = some v → (wd.alloc (.cells #[.int .i64 0, .int .i64 0] 75)).cell? a = some v := fun hc => (World.cell?_of_block ((aa wd _).block _ (World.block_lt_of_cell? wd _ hc))).trans hc
    have Aw := Ab c20'
    have AD := Ab c19'
    have f0 := Ab d0'
    have f1 := Ab d1'
    have hN : Fx wd.heap.size 75 [.int .i64 0, .int .i64 0] (wd.alloc (.cells #[.int .i64 0, .int .i64 0] 75)) := heap_alloc_new wd _
    have n0 := hN.get (i := 0) rfl
    have n1 := hN.frz 0
    have Ag := hN.set 0 (.int .i64 x1)
    have n2 := Ag.get (i := 1) rfl
    have n3 := Ag.frz 1
    have Az := hide (Ag.set 1 (.int .i64 x2))
    clear Ab hN Ag
    go_upto_region 1 with fail
    go_region
    clear n0 n1 n2 n3 f0 f1 AD Aw c20' c19' d0' d1' Az
    have Ah : Below wd.heap.size wd (wd.alloc (.cells #[.int .i64 x1, .int .i64 x2] 75)).drew := (aa wd _).drew
    have HEz := hide (HEd.out.go Ah)
    have HFz : Hid (Fr (fun k => ¬ S k) wr (wd.alloc (.cells #[.int .i64 x1, .int .i64 x2] 75)).drew ∧ ∀ (k : Nat) o, wr.heap[k]? = some o → o.isCells = false → (wd.alloc (.cells #[.int .i64 x1, .int .i64 x2] 75)).drew.heap[k]? = some o) := hide ⟨HFd.out.1.trans (Fr.of_below Ah), fun k o h1 h2 => by have := HFd.out.2 k o h1 h2; rw [Ah.block k (aR this)]; exact this⟩
    have Ak : Hid (Fx wd.heap.size 75 [.int .i64 x1, .int .i64 x2] (wd.alloc (.cells #[.int .i64 x1, .int .i64 x2] 75)).drew) := hide (heap_alloc_new wd _)
    have Aj : Hid (wd.heap.size ≠ A.K) := hide fun e2 => by have := HEd.out.bx.lt; omega
    clear HEd HFd Ah
    generalize (wd.alloc (.cells #[.int .i64 x1, .int .i64 x2] 75)).drew = wz at *
    obtain ⟨bb, Aq⟩ : ∃ bb, wd.heap.size = bb := ⟨_, rfl⟩
    rw [Aq] at Ak Aj ⊢
    clear Aq
    have Ad : wz.cell? ⟨A.K, 20, none⟩ = some (.int .i64 tk) := by rw [← HK.out]; exact HEz.out.bx.get (i := 20) rfl
    go_upto_region 2 with fail
    refine aY (by assumption) (by kernel_rfl) (by kernel_rfl) (by kernel_rfl) (by kernel_rfl) ?_
    dsimp only [List.dropLast, List.getLast, List.cons_append, List.nil_append]
    repeat (go_big_quiet_step (fail))
    refine wpQuiet_nil ?_
    rintro _ ⟨nq, rfl⟩
    have ec : ((tk + 1 : Nat) : Int) = (tk : Int) + 1 := by omega
    have Af := HEz.out.drewN nq
    have h1 := Af.setTk (k := tk + 1) (by rw [Ai.out]; omega)
    have h2 := h1.1.setUp (aE e.up)
    rw [ec] at h1 h2
    have CS := hide (eF (K := A.K) (v := (tk : Int) + 1) (Af.bx.get (i := 20) rfl) (Af.bx.frz 20) (h1.1.bx.get (i := 21) rfl) (h1.1.bx.frz 21))
    have HN : Hid (En N S A T F n (dA e) (.slice (some ⟨g, 0, none⟩) e.td.length tc) (((wz.drewN nq).setCell ⟨A.K, 20, none⟩ (.int .i64 ((tk : Int) + 1))).setCell ⟨A.K, 21, none⟩ (.int .i64 (aE e.up)))) := hide (by
     unfold dA
     rw [HK.out]
     exact h2.1)
    have Am := hide (HFz.out.1.trans ((Fr.of_below (au wz nq)).trans (h1.2.trans h2.2)))
    have Ap : Hid (∀ (k : Nat) o, wr.heap[k]? = some o → o.isCells = false → (((wz.drewN nq).setCell ⟨A.K, 20, none⟩ (.int .i64 ((tk : Int) + 1))).setCell ⟨A.K, 21, none⟩ (.int .i64 (aE e.up))).heap[k]? = some o) := hide fun k o a1 a2 => (KeepsOthers.setCell _ _ _).same _ _ ((KeepsOthers.setCell _ _ _).same _ _ (HFz.out.2 k o a1 a2) a2) a2
    have Ao : Hid (Fx bb 75 [.int .i64 x1, .int .i64 x2] (((wz.drewN nq).setCell ⟨A.K, 20, none⟩ (.int .i64 ((tk : Int) + 1))).setCell ⟨A.K, 21, none⟩ (.int .i64 (aE e.up)))) := hide (((Ak.out.keep rfl : Fx bb _ _ (wz.drewN nq)).keep (other_set Aj.out)).keep (other_set Aj.out))
    clear Af h1 h2 Ad
    go_upto_region 3 with (go_at_call 66; refine CS.out.mono ?_; rintro _ w2 ⟨rfl, rfl⟩)
    have hp := Au.out e wr _ HJ.out (by rw [Ai.out, HK.out]; exact hlt) ⟨_, HN.out⟩ Am.out Ap.out
    clear HN Am Ap CS HEz HFz Ak
    generalize ((wz.drewN nq).setCell ⟨A.K, 20, none⟩ (.int .i64 ((tk : Int) + 1))).setCell ⟨A.K, 21, none⟩ (.int .i64 (aE e.up)) = w3 at *
    have b0 := Ao.out.get (i := 0) rfl
    have b1 := Ao.out.get (i := 1) rfl
    have AB := HY.out e w3 (x1, x2) hp HX.out
    obtain ⟨fn, AK, AH, At, hy, hR⟩ := AB
    clear hp
    refine (wpIn_wide (n := m)).1 ?_
    gi_wp2
    refine ⟨fun h => (by cases h), ?_⟩
    refine hR.mono ?_
    rintro r W3 ⟨rfl, e', As, AA⟩
    gi_wp2
    go_wp2_with fail
    go_roundw
    case rel => exact ⟨e', As⟩
    case measure => rw [(HE.out e' _ As).taken, AC.out, AA]; have := AE.out; have := HK.out; omega
  · have An : tk = ln := by omega
    have AF : Hid (e.tk = e.td.length) := hide (by rw [HK.out, Ai.out]; exact An)
    have AG : decide ((tk : Int) < (ln : Int)) = false := decide_eq_false (by omega)
    have hB := HE.out
    clear hJ Aa Ae Ac An hB
    go_upto_region 0 with fail
    go_quiet (fail)
    rename Nat => dq
    go_wp2_with fail
    go_end0
    exact ⟨⟨_, rfl⟩, e, AF.out, Ay.out _ _ _ HJ.out⟩
def tC (B : Nat) (I : Es → World → Prop) (e : Es) (W : World) : Exit → Act → World → Prop
 | .normal, _, W' => KeepsFrom B W W' ∧ ∃ e', I e' W' ∧ e'.tk = e.tk + 1
 | _, _, _ => False
theorem pS {g : Operand} {p : Tmp} {assign body : Code} {Q : Exit → Act → World → Prop} {a : Act} {w : World} (m : Nat) (hm : 1 ≤ m) (hg : a.eval g = .func (.func 40) #[ae A.K] #[]) (eg : ∀ args w, (callFunc 40 args).run Tryz.prog w = .ok (.enter 40 args) w)
    (I Ip : Es → World → Prop)
    (hId : ∀ e W d, I e W → I e (W.drewN d)) (hIa : ∀ e W o, I e W → I e (W.alloc o)) (hIo : ∀ e W l o o', I e W → w.heap.size ≤ l → W.heap[l]? = some o → o.isCells = false → I e (W.putObj l o'))
    (hPa : ∀ e W o, Ip e W → Ip e (W.alloc o)) (hPo : ∀ e W l o o', Ip e W → w.heap.size ≤ l → W.heap[l]? = some o → o.isCells = false → Ip e (W.putObj l o'))
    (hE : ∀ e W, I e W → Eg N S A T F n e W)
    (hpop : ∀ e W W', I e W → e.tk < e.td.length → Eg N S A T F n (dA e) W' → Fr (fun k => ¬ S k) W W' → Ip e W')
    {e0 : Es} (h0 : I e0 w) (a₁ : Int × Int → Nat → Act)
    (hassign : ∀ (l : Nat) (x : Int × Int) (W : World) (K : Act → World → Prop), K (a₁ x W.heap.size) (W.alloc (.cells #[.int .i64 x.1, .int .i64 x.2] 75)) → assign.wpIn (Fence.wide.inRound l) (m - 1 - 1) Tryz.prog (Exit.then K (fun _ _ _ => False)) { tmps := a.tmps.setIfInBounds p (.agg #[.int .i64 x.1, .int .i64 x.2]), defers := [] } W)
    (hbody : ∀ (l : Nat) (e : Es) (x : Int × Int) (b : Nat) (W : World), Ip e W → e.td[e.tk]? = some x → Fx b 75 [.int .i64 x.1, .int .i64 x.2] W → w.heap.size ≤ b → body.wpIn (Fence.wide.inRound l) (m - 1 - 1) Tryz.prog (tC w.heap.size I e W) (a₁ x b) W)
    (hdone : ∀ (D : Nat) (e : Es) (W : World), w.heap.size ≤ D → e.tk = e.td.length → I e W → W.heap[D]? = some (.deferred (some [])) → Q .normal { a with defers := { target := .collected D, args := #[] } :: a.defers } W) :
    (Code.rangeFunc g #[p] assign body).wpIn Fence.wide m Tryz.prog Q a w := by
 refine wpIn_rangeFunc ?_
 intro fn Ai
 rw [show Fence.wide.round = none from rfl]
 obtain ⟨Aa, Ab⟩ : ∃ Aa : LoopState → Option Code → Loop, Aa = fun st pe => { state := st, pending := pe, fn, tmps := a.tmps, params := #[p], assign, body, defers := w.heap.size } := ⟨_, rfl⟩
 obtain ⟨W1, Ac⟩ : ∃ W1, (w.alloc (.deferred (some []))).alloc (.loop (Aa .ready none)) = W1 := ⟨_, rfl⟩
 have Ao : W1.heap[w.heap.size + 1]? = some (.loop (Aa .ready none)) := by
  rw [← Ac]; have := World.alloc_heap_new (w.alloc (.deferred (some []))) (.loop (Aa .ready none)); rwa [World.size_alloc] at this
 have Ap : W1.heap[w.heap.size]? = some (.deferred (some [])) := by
  rw [← Ac]; exact (Below.heap_alloc _ _ _ (by simp)).trans (World.alloc_heap_new w _)
 have Aq : I e0 W1 := by rw [← Ac]; exact hIa _ _ _ (hIa _ _ _ h0)
 refine ⟨w.heap.size + 1, [{ target := .collected w.heap.size, args := #[] }], W1, { target := .fn (.func 40) #[], args := #[ae A.K] ++ #[.func (.yield (w.heap.size + 1)) #[] #[]] }, W1, 40,
  #[ae A.K, .func (.yield (w.heap.size + 1)) #[] #[]], W1, ?_, ?_, ?_, ?_, fun _ => hm, ?_⟩
 · rw [← Ac, Ab]; exact run_enterLoop_outer _ _ _ _ _
 · simp only [resolve, hg]
   simp [go_sem]
 · intro f' Aw; trivial
 · simp [invoke, go_sem, eg]
 · refine (rp (S := S) (A := A) (m := m - 1) (l := w.heap.size + 1)
    (J := fun e W => I e W ∧ W.heap[w.heap.size + 1]? = some (.loop (Aa .ready none)) ∧ W.heap[w.heap.size]? = some (.deferred (some [])))
    (Jp := fun e W => Ip e W ∧ W.heap[w.heap.size + 1]? = some (.loop (Aa .ready none)) ∧ W.heap[w.heap.size]? = some (.deferred (some [])))
    (fun e W d h => ⟨hId e W d h.1, h.2⟩) (fun e W h => hE e W h.1)
    (fun e W W' h h1 h2 h3 h4 => ⟨hpop e W W' h.1 h1 h2 h3, h4 _ _ h.2.1 rfl, h4 _ _ h.2.2 rfl⟩)
    ?_ ⟨Aq, Ao, Ap⟩).mono ?_
   · rintro e W x ⟨hi, hl, hk⟩ hx
     have Au : w.heap.size + 1 < W.heap.size := (Array.getElem?_eq_some_iff.1 hl).1
     have hy := run_yield (P := Tryz.prog) (args := #[.agg #[.int .i64 x.1, .int .i64 x.2]]) hl (by rw [Ab]; rfl)
     have Af : (#[p].zip #[Value.agg #[.int .i64 x.1, .int .i64 x.2]]).foldl (fun tmps (t, a) => tmps.setIfInBounds t a) a.tmps = a.tmps.setIfInBounds p (.agg #[.int .i64 x.1, .int .i64 x.2]) := by simp [Array.zip]
     rw [Ab] at hy
     dsimp only at hy
     rw [Af] at hy
     refine ⟨fn, _, assign, body, hy, ?_⟩
     refine roundIn_of_wpIn Ai ?_
     refine hassign (w.heap.size + 1) x W _ ?_
     have Ae : (W.alloc (.cells #[.int .i64 x.1, .int .i64 x.2] 75)).heap[w.heap.size + 1]? = some (.loop (Aa .ready none)) := (Below.heap_alloc W _ _ Au).trans hl
     have As : (W.alloc (.cells #[.int .i64 x.1, .int .i64 x.2] 75)).heap[w.heap.size]? = some (.deferred (some [])) := (Below.heap_alloc W _ _ (by omega)).trans hk
     have Al : Fx W.heap.size 75 [.int .i64 x.1, .int .i64 x.2] (W.alloc (.cells #[.int .i64 x.1, .int .i64 x.2] 75)) := heap_alloc_new W _
     have Ak := hPa _ _ (.cells #[.int .i64 x.1, .int .i64 x.2] 75) hi
     have Ah : w.heap.size + 1 < (W.alloc (.cells #[.int .i64 x.1, .int .i64 x.2] 75)).heap.size := (Array.getElem?_eq_some_iff.1 Ae).1
     generalize hWA : W.alloc (.cells #[.int .i64 x.1, .int .i64 x.2] 75) = WA at *
     refine ⟨_, run_beginRound Ae (by rw [Ab]), ?_⟩
     have Ar : (WA.putObj (w.heap.size + 1) (.loop { Aa .ready none with state := .busy })).heap[w.heap.size + 1]? = some (.loop { Aa .ready none with state := .busy }) := World.putObj_heap_same Ah
     have At : (WA.putObj (w.heap.size + 1) (.loop { Aa .ready none with state := .busy })).heap[w.heap.size]? = some (.deferred (some [])) := (World.putObj_heap_other (by omega)).trans As
     refine wpIn_mono (hbody _ e x W.heap.size _ (hPo _ _ _ _ _ Ak (by omega) Ae rfl) hx (Al.keep (World.putObj_heap_other (by omega))) (by omega)) ?_
     rintro e2 a3 W3 hp
     cases e2 with
     | normal =>
      obtain ⟨Ag, e', Aj, An⟩ := hp
      have Ad := Ag.same _ _ (by omega) Ar rfl
      have hr := run_endRound (P := Tryz.prog) none Ad
      have Av := Ag.same _ _ (Nat.le_refl _) At rfl
      refine ⟨_, _, hr, rfl, e', ⟨hIo _ _ _ _ _ Aj (by omega) Ad rfl, ?_, (World.putObj_heap_other (by omega)).trans Av⟩, An⟩
      rw [World.putObj_heap_same (Array.getElem?_eq_some_iff.1 Ad).1]
      rw [Ab]
      rfl
     | ret => exact hp.elim
     | exit id => exact hp.elim
     | goto t => exact hp.elim
     | panic ch => exact hp.elim
     | outgrown => exact hp.elim
   · rintro r W2 ⟨⟨v, rfl⟩, e, Am, hi, hl, hk⟩
     exact ⟨none, _, by have := run_endLoop (P := Tryz.prog) hl (by rw [Ab]; simp); rw [Ab] at this; exact this, hdone _ e _ (Nat.le_refl _) Am (hIo _ _ _ _ _ hi (by omega) hl rfl) ((World.putObj_heap_other (by omega)).trans hk)⟩
end
end Go.Proofs.YthifoamnmhlghaaGreat.Fa
