import Derived.Test.YtmlhcncagdfjfaaGreatFs9
import Derived.RangeFuncNested
import Derived.RangeFuncBound
import Derived.RangeFuncCalls
import Derived.RangeFuncLeaves
import Derived.Shelf.Abstract
import Derived.Shelf.RegionOpen
import Derived.WalkKit
import Derived.OwnWalkIn
import Derived.TacticsInMore
import Derived.LoopNIn
import Derived.LoopIn
import Derived.Laws.EntriesVeiled
import Derived.Test.YtmlhcncagdfjfaaGreatLyp
set_option maxRecDepth 100000
set_option maxHeartbeats 6400000
namespace Go.Proofs.YtmlhcncagdfjfaaGreat.Fa
open Go.RowKit Go.Shelf
attribute [local go_sem] Oper.semAt_some
section
variable {N : Nat} {S : Nat → Prop} {A : Ad} {T : Th} {F : List Int} {n : Nat} {e : Es} {tv : Value} {w w' : World}
theorem En.cells (h : En N S A T F n e tv w) (hk : ∀ (k : Nat) cs t fr, w.heap[k]? = some (Obj.cells cs t fr) → w'.heap[k]? = w.heap[k]?) (hS : ∀ k, S k → w'.heap[k]? = w.heap[k]?) (hs : w.heap.size ≤ w'.heap.size) : En N S A T F n e tv w' := by
 have fx : ∀ {g T : Nat} {xs : List Value}, Fx g T xs w → Fx g T xs w' := fun hf => hf.keep (hk _ _ _ _ hf)
 refine ⟨h.pf, h.ro.keep hS, h.di, h.tok, fx h.bx, fun b => fx (h.ms b), fun b => fx (h.rf b), fun b => fx (h.op b), fun s hs => fx (h.cr s hs), fx h.ob, fx h.mq, owns_keep h.td fun g hg => ?_, fun k hk2 => ⟨Nat.lt_of_lt_of_le (h.kp k hk2).1 hs, (h.kp k hk2).2⟩⟩
 rcases h.td.2 with ⟨e, _⟩ | ⟨g', cap, Aa, e, _, h3, _⟩
 ·rw [e] at hg; cases hg
 rw [e] at hg; cases hg; exact hk _ _ _ _ h3
theorem En.others (h : En N S A T F n e tv w) : En N (fun k => S k ∨ ∃ o : Obj, w.heap[k]? = some o ∧ ∀ cs t fr, o ≠ .cells cs t fr) A T F n e tv w := by
 refine { h with ro := h.ro.sub fun k hk => .inl hk, kp := fun k hk => ?_ }
 rcases hk with hk | ⟨o, ho, hn⟩
 ·exact h.kp k hk
 have ne : ∀ {g t : Nat} {xs : List Value}, Fx g t xs w → k ≠ g := fun hf e2 => by
  unfold Fx at hf
  rw [← e2, ho] at hf
  cases hf
  exact hn _ _ _ rfl
 refine ⟨aD ho, ne h.bx, fun b => ⟨ne (h.ms b), ne (h.rf b), ne (h.op b)⟩, fun s hs => ne (h.cr s hs), ne h.ob, ne h.mq, fun e2 => ?_⟩
 rcases h.td.2 with ⟨e3, _⟩ | ⟨g, cap, Aa, e3, _, h2, _⟩
 ·rw [e3] at e2; cases e2
 rw [e3] at e2; cases e2; rw [ho] at h2; cases h2; exact hn _ _ _ rfl
def oz (K : Nat) (w : World) : Nat := match w.cell? ⟨K, 20, none⟩ with
 | some v => (intOf v).toNat
 | none => 0
theorem Eg.taken (h : Eg N S A T F n e w) : oz A.K w = e.tk := by
 obtain ⟨tv, h⟩ := h
 unfold oz
 rw [h.bx.get (i := 20) rfl]
 simp [intOf]
def E8 (x : Int × Int) : Value := .agg #[.int .i64 x.1, .int .i64 x.2]
theorem we {m l : Nat} {J Jp : Es → World → Prop} (hJd : ∀ e W d, J e W → J e (W.drewN d)) (hE : ∀ e W, J e W → Eg N S A T F n e W)
    (hpop : ∀ e W W', J e W → e.tk < e.td.length → Eg N S A T F n (iQ e) W' → Fr (fun k => ¬ S k) W W' → (∀ (k : Nat) o, W.heap[k]? = some o → o.isCells = false → W'.heap[k]? = some o) → Jp e W')
    (hY : ∀ e W x, Jp e W → e.td[e.tk]? = some x → YieldAt Fence.wide (m - 1) Tryz.prog l #[.agg #[.int .i64 x.1, .int .i64 x.2]] W fun r W' => r = .returned (.bool true) ∧ ∃ e', J e' W' ∧ e'.tk = e.tk + 1)
    {e0 : Es} {W : World} (h0 : J e0 W) :
    CallsIn Fence.wide m Tryz.prog 185 #[aa A.K, .func (.yield l) #[] #[]] W fun r W' => (∃ v, r = .returned v) ∧ ∃ e, e.tk = e.td.length ∧ J e W' := by
 have Ax := hide hJd
 have HE := hide hE
 have As := hide hpop
 have HY := hide hY
 clear hE hpop hY hJd
 refine callsIn_of_wp Tryz.func185 rfl trivial ?_ rfl
 simp only [Tryz.ntmps185, List.size_toArray, List.length_cons, List.length_nil, Nat.reduceAdd, Nat.reduceSub, Array.replicate_succ, Array.replicate_zero, List.push_toArray, List.append_toArray, List.nil_append, List.cons_append]
 refine wpIn_wide.2 ?_
 have AG : Tryz.prog.follows .mixedOrders = true := by kernel_rfl
 go_wp2_with fail
 go_loopw [5] (fun _ wr => ∃ e, J e wr) (fun _ wr => n * 4 - oz A.K wr)
 case atStart => exact ⟨e0, h0⟩
 obtain ⟨e, hJ⟩ := hrel
 have HJ := hide hJ
 obtain ⟨tv, Aa⟩ := HE.out e wr hJ
 have Ao := hide Aa
 have AF := hide (HE.out e wr hJ).taken
 have Ac := Aa.bx.get (i := 20) rfl
 have Aj := Aa.bx.get (i := 19) rfl
 obtain ⟨ta, tc, AE⟩ := bf Aa.td
 subst AE
 obtain ⟨ln, Ae⟩ : ∃ ln, e.td.length = ln := ⟨_, rfl⟩
 obtain ⟨tk, Ab⟩ : ∃ tk, e.tk = tk := ⟨_, rfl⟩
 have Ah := hide Ae
 have HK := hide Ab
 have AH : ln ≤ 16384 := by have := Aa.tok.len; have := Aa.pf.n4; omega
 have Az : Hid (ln ≤ n * 4) := hide (by have := Aa.tok.len; omega)
 have AJ : tk ≤ ln := by have := Aa.tok.tk; omega
 rw [Ae] at Aj
 rw [Ab] at Ac
 by_cases hlt : tk < ln
 ·obtain ⟨x, hx⟩ := am (l := e.td) (i := tk) (by omega)
  have HX : Hid (e.td[e.tk]? = some x) := hide (by rw [Ab]; exact hx)
  obtain ⟨g, AD, d0, d1⟩ : ∃ g : Nat, ta = some ⟨g, 0, none⟩ ∧ wr.cell? ⟨g, tk * 2, none⟩ = some (.int .i64 x.1) ∧ wr.cell? ⟨g, tk * 2 + 1, none⟩ = some (.int .i64 x.2) := by
   rcases Aa.td.2 with ⟨h1, h2⟩ | ⟨g, cap, AK, h1, -, -, -⟩
   ·omega
   cases h1
   have hc := Aa.td.cells (g := g) rfl
   have p := nV hx
   have q0 := hc _ _ p.1
   have q1 := hc _ _ p.2
   refine ⟨g, rfl, ?_, ?_⟩
   ·rw [← q0]; congr 1; simp [Addr.add]
   rw [← q1]; congr 1; simp [Addr.add]
  subst AD
  have At : decide ((tk : Int) < (ln : Int)) = true := decide_eq_true (by omega)
  clear hJ Aa Ae Ab hx
  obtain ⟨x1, x2⟩ := x
  go_upto_region 0 with fail
  go_quiet (fail)
  rename Nat => dq
  have HEd := hide (Ao.out.drewN dq)
  have HFd : Hid (Fr (fun k => ¬ S k) wr (wr.drewN dq) ∧ ∀ (k : Nat) o, wr.heap[k]? = some o → o.isCells = false → (wr.drewN dq).heap[k]? = some o) := hide ⟨Fr.of_below (ah wr dq), fun k o h _ => h⟩
  have c20' : (wr.drewN dq).cell? ⟨A.K, 20, none⟩ = some (.int .i64 tk) := Ac
  have c19' : (wr.drewN dq).cell? ⟨A.K, 19, none⟩ = some (.slice (some ⟨g, 0, none⟩) ln tc) := Aj
  have d0' : (wr.drewN dq).cell? ⟨g, tk * 2, none⟩ = some (.int .i64 x1) := d0
  have d1' : (wr.drewN dq).cell? ⟨g, tk * 2 + 1, none⟩ = some (.int .i64 x2) := d1
  clear Ac Aj d0 d1 Ao
  generalize wr.drewN dq = wd at *
  have old : ∀ {a : Addr} {v : Value}, wd.cell? a = some v → (wd.alloc (.cells #[.int .i64 0, .int .i64 0] 85)).cell? a = some v := fun hc => (World.cell?_of_block ((ae wd _).block _ (World.block_lt_of_cell? wd _ hc))).trans hc
  have Aw := old c20'
  have Au := old c19'
  have f0 := old d0'
  have f1 := old d1'
  have hN : Fx wd.heap.size 85 [.int .i64 0, .int .i64 0] (wd.alloc (.cells #[.int .i64 0, .int .i64 0] 85)) := heap_alloc_new wd _
  have n0 := hN.get (i := 0) rfl
  have n1 := hN.frz 0
  have Af := hN.set 0 (.int .i64 x1)
  have n2 := Af.get (i := 1) rfl
  have n3 := Af.frz 1
  have AB := hide (Af.set 1 (.int .i64 x2))
  clear old hN Af
  go_upto_region 1 with fail
  go_region
  clear n0 n1 n2 n3 f0 f1 Au Aw c20' c19' d0' d1' AB
  have Ag : Below wd.heap.size wd (wd.alloc (.cells #[.int .i64 x1, .int .i64 x2] 85)).drew := (ae wd _).drew
  have HEz := hide (HEd.out.go Ag)
  have HFz : Hid (Fr (fun k => ¬ S k) wr (wd.alloc (.cells #[.int .i64 x1, .int .i64 x2] 85)).drew ∧ ∀ (k : Nat) o, wr.heap[k]? = some o → o.isCells = false → (wd.alloc (.cells #[.int .i64 x1, .int .i64 x2] 85)).drew.heap[k]? = some o) := hide ⟨HFd.out.1.trans (Fr.of_below Ag), fun k o h1 h2 => by have := HFd.out.2 k o h1 h2; rw [Ag.block k (aD this)]; exact this⟩
  have Ak : Hid (Fx wd.heap.size 85 [.int .i64 x1, .int .i64 x2] (wd.alloc (.cells #[.int .i64 x1, .int .i64 x2] 85)).drew) := hide (heap_alloc_new wd _)
  have Ai : Hid (wd.heap.size ≠ A.K) := hide fun e2 => by have := HEd.out.bx.lt; omega
  clear HEd HFd Ag
  generalize (wd.alloc (.cells #[.int .i64 x1, .int .i64 x2] 85)).drew = wz at *
  obtain ⟨bb, An⟩ : ∃ bb, wd.heap.size = bb := ⟨_, rfl⟩
  rw [An] at Ak Ai ⊢
  clear An
  have Ac : wz.cell? ⟨A.K, 20, none⟩ = some (.int .i64 tk) := by rw [← HK.out]; exact HEz.out.bx.get (i := 20) rfl
  go_upto_region 2 with fail
  refine aK (by assumption) (by kernel_rfl) (by kernel_rfl) (by kernel_rfl) (by kernel_rfl) ?_
  dsimp only [List.dropLast, List.getLast, List.cons_append, List.nil_append]
  repeat (go_big_quiet_step (fail))
  refine wpQuiet_nil ?_
  rintro _ ⟨nq, rfl⟩
  have ec : ((tk + 1 : Nat) : Int) = (tk : Int) + 1 := by omega
  have Ad := HEz.out.drewN nq
  have h1 := Ad.setTk (k := tk + 1) (by rw [Ah.out]; omega)
  have h2 := h1.1.setUp (aE e.up)
  rw [ec] at h1 h2
  have CS := hide (fE (K := A.K) (v := (tk : Int) + 1) (Ad.bx.get (i := 20) rfl) (Ad.bx.frz 20) (h1.1.bx.get (i := 21) rfl) (h1.1.bx.frz 21))
  have HN : Hid (En N S A T F n (iQ e) (.slice (some ⟨g, 0, none⟩) e.td.length tc) (((wz.drewN nq).setCell ⟨A.K, 20, none⟩ (.int .i64 ((tk : Int) + 1))).setCell ⟨A.K, 21, none⟩ (.int .i64 (aE e.up)))) := hide (by
   unfold iQ
   rw [HK.out]
   exact h2.1)
  have Ar := hide (HFz.out.1.trans ((Fr.of_below (ah wz nq)).trans (h1.2.trans h2.2)))
  have Aq : Hid (∀ (k : Nat) o, wr.heap[k]? = some o → o.isCells = false → (((wz.drewN nq).setCell ⟨A.K, 20, none⟩ (.int .i64 ((tk : Int) + 1))).setCell ⟨A.K, 21, none⟩ (.int .i64 (aE e.up))).heap[k]? = some o) := hide fun k o a1 a2 => (KeepsOthers.setCell _ _ _).same _ _ ((KeepsOthers.setCell _ _ _).same _ _ (HFz.out.2 k o a1 a2) a2) a2
  have Ap : Hid (Fx bb 85 [.int .i64 x1, .int .i64 x2] (((wz.drewN nq).setCell ⟨A.K, 20, none⟩ (.int .i64 ((tk : Int) + 1))).setCell ⟨A.K, 21, none⟩ (.int .i64 (aE e.up)))) := hide (((Ak.out.keep rfl : Fx bb _ _ (wz.drewN nq)).keep (other_set Ai.out)).keep (other_set Ai.out))
  clear Ad h1 h2 Ac
  go_upto_region 3 with (go_at_call 223; refine CS.out.mono ?_; rintro _ w2 ⟨rfl, rfl⟩)
  have hp := As.out e wr _ HJ.out (by rw [Ah.out, HK.out]; exact hlt) ⟨_, HN.out⟩ Ar.out Aq.out
  clear HN Ar Aq CS HEz HFz Ak
  generalize ((wz.drewN nq).setCell ⟨A.K, 20, none⟩ (.int .i64 ((tk : Int) + 1))).setCell ⟨A.K, 21, none⟩ (.int .i64 (aE e.up)) = w3 at *
  have b0 := Ap.out.get (i := 0) rfl
  have b1 := Ap.out.get (i := 1) rfl
  have AC := HY.out e w3 (x1, x2) hp HX.out
  obtain ⟨fn, AI, Av, body, hy, hR⟩ := AC
  clear hp
  refine (wpIn_wide (n := m)).1 ?_
  gi_wp2
  refine ⟨fun h => (by cases h), ?_⟩
  refine hR.mono ?_
  rintro r W3 ⟨rfl, e', Am, Ay⟩
  gi_wp2
  go_wp2_with fail
  go_roundw
  case rel => exact ⟨e', Am⟩
  case measure => rw [(HE.out e' _ Am).taken, AF.out, Ay]; have := Az.out; have := HK.out; omega
 have Al : tk = ln := by omega
 have AA : Hid (e.tk = e.td.length) := hide (by rw [HK.out, Ah.out]; exact Al)
 have At : decide ((tk : Int) < (ln : Int)) = false := decide_eq_false (by omega)
 have hB := HE.out
 clear hJ Aa Ae Ab Al hB
 go_upto_region 0 with fail
 go_quiet (fail)
 rename Nat => dq
 go_wp2_with fail
 go_end0
 exact ⟨⟨_, rfl⟩, e, AA.out, Ax.out _ _ _ HJ.out⟩
def zk (B : Nat) (I : Es → World → Prop) (e : Es) (W : World) : Exit → Act → World → Prop
 | .normal, _, W' => KeepsFrom B W W' ∧ ∃ e', I e' W' ∧ e'.tk = e.tk + 1
 | _, _, _ => False
theorem ug {g : Operand} {p : Tmp} {assign body : Code} {Q : Exit → Act → World → Prop} {a : Act} {w : World} (m : Nat) (hm : 1 ≤ m) (hg : a.eval g = .func (.func 185) #[aa A.K] #[]) (eg : ∀ args w, (callFunc 185 args).run Tryz.prog w = .ok (.enter 185 args) w)
    (I Ip : Es → World → Prop)
    (hId : ∀ e W d, I e W → I e (W.drewN d)) (hIa : ∀ e W o, I e W → I e (W.alloc o)) (hIo : ∀ e W l o o', I e W → w.heap.size ≤ l → W.heap[l]? = some o → o.isCells = false → I e (W.putObj l o'))
    (hPa : ∀ e W o, Ip e W → Ip e (W.alloc o)) (hPo : ∀ e W l o o', Ip e W → w.heap.size ≤ l → W.heap[l]? = some o → o.isCells = false → Ip e (W.putObj l o'))
    (hE : ∀ e W, I e W → Eg N S A T F n e W)
    (hpop : ∀ e W W', I e W → e.tk < e.td.length → Eg N S A T F n (iQ e) W' → Fr (fun k => ¬ S k) W W' → Ip e W')
    {e0 : Es} (h0 : I e0 w) (a₁ : Int × Int → Nat → Act)
    (hassign : ∀ (l : Nat) (x : Int × Int) (W : World) (K : Act → World → Prop), K (a₁ x W.heap.size) (W.alloc (.cells #[.int .i64 x.1, .int .i64 x.2] 85)) → assign.wpIn (Fence.wide.inRound l) (m - 1 - 1) Tryz.prog (Exit.then K (fun _ _ _ => False)) { tmps := a.tmps.setIfInBounds p (.agg #[.int .i64 x.1, .int .i64 x.2]), defers := [] } W)
    (hbody : ∀ (l : Nat) (e : Es) (x : Int × Int) (b : Nat) (W : World), Ip e W → e.td[e.tk]? = some x → Fx b 85 [.int .i64 x.1, .int .i64 x.2] W → w.heap.size ≤ b → body.wpIn (Fence.wide.inRound l) (m - 1 - 1) Tryz.prog (zk w.heap.size I e W) (a₁ x b) W)
    (hdone : ∀ (D : Nat) (e : Es) (W : World), w.heap.size ≤ D → e.tk = e.td.length → I e W → W.heap[D]? = some (.deferred (some [])) → Q .normal { a with defers := { target := .collected D, args := #[] } :: a.defers } W) :
    (Code.rangeFunc g #[p] assign body).wpIn Fence.wide m Tryz.prog Q a w := by
 refine wpIn_rangeFunc ?_
 intro fn Ar
 rw [show Fence.wide.round = none from rfl]
 obtain ⟨Aa, Ab⟩ : ∃ Aa : LoopState → Option Code → Loop, Aa = fun st pe => { state := st, pending := pe, fn, tmps := a.tmps, params := #[p], assign, body, defers := w.heap.size } := ⟨_, rfl⟩
 obtain ⟨W1, Ac⟩ : ∃ W1, (w.alloc (.deferred (some []))).alloc (.loop (Aa .ready none)) = W1 := ⟨_, rfl⟩
 have Ak : W1.heap[w.heap.size + 1]? = some (.loop (Aa .ready none)) := by
  rw [← Ac]; have := World.alloc_heap_new (w.alloc (.deferred (some []))) (.loop (Aa .ready none)); rwa [World.size_alloc] at this
 have Al : W1.heap[w.heap.size]? = some (.deferred (some [])) := by
  rw [← Ac]; exact (Below.heap_alloc _ _ _ (by simp)).trans (World.alloc_heap_new w _)
 have Av : I e0 W1 := by rw [← Ac]; exact hIa _ _ _ (hIa _ _ _ h0)
 refine ⟨w.heap.size + 1, [{ target := .collected w.heap.size, args := #[] }], W1, { target := .fn (.func 185) #[], args := #[aa A.K] ++ #[.func (.yield (w.heap.size + 1)) #[] #[]] }, W1, 185,
  #[aa A.K, .func (.yield (w.heap.size + 1)) #[] #[]], W1, ?_, ?_, ?_, ?_, fun _ => hm, ?_⟩
 ·rw [← Ac, Ab]; exact run_enterLoop_outer _ _ _ _ _
 ·simp only [resolve, hg]
  simp [go_sem]
 ·intro f' Aw; trivial
 ·simp [invoke, go_sem, eg]
 refine (we (S := S) (A := A) (m := m - 1) (l := w.heap.size + 1)
  (J := fun e W => I e W ∧ W.heap[w.heap.size + 1]? = some (.loop (Aa .ready none)) ∧ W.heap[w.heap.size]? = some (.deferred (some [])))
  (Jp := fun e W => Ip e W ∧ W.heap[w.heap.size + 1]? = some (.loop (Aa .ready none)) ∧ W.heap[w.heap.size]? = some (.deferred (some [])))
  (fun e W d h => ⟨hId e W d h.1, h.2⟩) (fun e W h => hE e W h.1)
  (fun e W W' h h1 h2 h3 h4 => ⟨hpop e W W' h.1 h1 h2 h3, h4 _ _ h.2.1 rfl, h4 _ _ h.2.2 rfl⟩)
  ?_ ⟨Av, Ak, Al⟩).mono ?_
 ·rintro e W x ⟨hi, hl, hk⟩ hx
  have Ap : w.heap.size + 1 < W.heap.size := (Array.getElem?_eq_some_iff.1 hl).1
  have hy := run_yield (P := Tryz.prog) (args := #[.agg #[.int .i64 x.1, .int .i64 x.2]]) hl (by rw [Ab]; rfl)
  have Af : (#[p].zip #[Value.agg #[.int .i64 x.1, .int .i64 x.2]]).foldl (fun tmps (t, a) => tmps.setIfInBounds t a) a.tmps = a.tmps.setIfInBounds p (.agg #[.int .i64 x.1, .int .i64 x.2]) := by simp [Array.zip]
  rw [Ab] at hy
  dsimp only at hy
  rw [Af] at hy
  refine ⟨fn, _, assign, body, hy, ?_⟩
  refine roundIn_of_wpIn Ar ?_
  refine hassign (w.heap.size + 1) x W _ ?_
  have Ae : (W.alloc (.cells #[.int .i64 x.1, .int .i64 x.2] 85)).heap[w.heap.size + 1]? = some (.loop (Aa .ready none)) := (Below.heap_alloc W _ _ Ap).trans hl
  have Ao : (W.alloc (.cells #[.int .i64 x.1, .int .i64 x.2] 85)).heap[w.heap.size]? = some (.deferred (some [])) := (Below.heap_alloc W _ _ (by omega)).trans hk
  have Ai : Fx W.heap.size 85 [.int .i64 x.1, .int .i64 x.2] (W.alloc (.cells #[.int .i64 x.1, .int .i64 x.2] 85)) := heap_alloc_new W _
  have As := hPa _ _ (.cells #[.int .i64 x.1, .int .i64 x.2] 85) hi
  have Ah : w.heap.size + 1 < (W.alloc (.cells #[.int .i64 x.1, .int .i64 x.2] 85)).heap.size := (Array.getElem?_eq_some_iff.1 Ae).1
  generalize hWA : W.alloc (.cells #[.int .i64 x.1, .int .i64 x.2] 85) = WA at *
  refine ⟨_, run_beginRound Ae (by rw [Ab]), ?_⟩
  have At : (WA.putObj (w.heap.size + 1) (.loop { Aa .ready none with state := .busy })).heap[w.heap.size + 1]? = some (.loop { Aa .ready none with state := .busy }) := World.putObj_heap_same Ah
  have An : (WA.putObj (w.heap.size + 1) (.loop { Aa .ready none with state := .busy })).heap[w.heap.size]? = some (.deferred (some [])) := (World.putObj_heap_other (by omega)).trans Ao
  refine wpIn_mono (hbody _ e x W.heap.size _ (hPo _ _ _ _ _ As (by omega) Ae rfl) hx (Ai.keep (World.putObj_heap_other (by omega))) (by omega)) ?_
  rintro e2 a3 W3 hp
  cases e2 with
  | normal =>
   obtain ⟨Ag, e', Au, Aq⟩ := hp
   have Ad := Ag.same _ _ (by omega) At rfl
   have hr := run_endRound (P := Tryz.prog) none Ad
   have Aj := Ag.same _ _ (Nat.le_refl _) An rfl
   refine ⟨_, _, hr, rfl, e', ⟨hIo _ _ _ _ _ Au (by omega) Ad rfl, ?_, (World.putObj_heap_other (by omega)).trans Aj⟩, Aq⟩
   rw [World.putObj_heap_same (Array.getElem?_eq_some_iff.1 Ad).1]
   rw [Ab]
   rfl
  | ret => exact hp.elim
  | exit id => exact hp.elim
  | goto t => exact hp.elim
  | panic ch => exact hp.elim
  | outgrown => exact hp.elim
 rintro r W2 ⟨⟨v, rfl⟩, e, Am, hi, hl, hk⟩
 exact ⟨none, _, by have := run_endLoop (P := Tryz.prog) hl (by rw [Ab]; simp); rw [Ab] at this; exact this, hdone _ e _ (Nat.le_refl _) Am (hIo _ _ _ _ _ hi (by omega) hl rfl) ((World.putObj_heap_other (by omega)).trans hk)⟩
end
end Go.Proofs.YtmlhcncagdfjfaaGreat.Fa
namespace Go.Proofs.YtmlhcncagdfjfaaGreat.Fa
open Go.RowKit Go.Shelf
def rM (L : List Oper) : Bool := L.all fun o => match o.op with
 | .defer _ => false
 | _ => true
theorem ym {P : Program} {n l : Nat} {o : Oper} {a : Act} {w : World} {K : Act → World → Prop} {Q : Exit → Act → World → Prop} (hd : ∀ c, o.op ≠ .defer c) (h : o.wp P a w K Q) : o.wpIn (Fence.wide.inRound l) n P a w K Q := by
 unfold Oper.wp at h
 unfold Oper.wpIn
 refine ⟨fun f _ => trivial, ?_⟩
 rw [Oper.semAt_eq _ _ _ hd]
 generalize (execOp a.eval o).run P w = r at *
 cases r with
 | ok x w' =>
  cases x
  case value v => exact h
  case skip => exact h
  case defer d => exact h
  case enter f args => exact ⟨fun h => (by cases h), CallsIn.inRound l (callsIn_wide.2 h)⟩
  case row row args =>
   refine ⟨fun h => (by cases h), fun c cs _ => ?_⟩
   obtain ⟨v, w2, r, s⟩ := h c cs
   exact ⟨v, w2, r, stepsIn_wide.2 s⟩
  all_goals exact h.elim
 | halt x w' => cases x <;> exact h
theorem kV {P : Program} {n l : Nat} {ops : Array Oper} {Q : Exit → Act → World → Prop} (hd : ∀ (i : Nat) o, ops[i]? = some o → ∀ c, o.op ≠ .defer c) (hQ : ¬ LetsOut Q) : ∀ (fuel : Nat) (listed : Array Bool) (a : Act) (w : World), wpAny P .any ops Q fuel listed a w → wpAnyIn (Fence.wide.inRound l) n P .any ops Q fuel listed a w
 | 0, _, _, _, h => h
 | fuel + 1, listed, a, w, h => by
  refine ⟨h.1, fun i hi => ?_⟩
  have h2 := h.2 i hi
  unfold wpOp at h2
  unfold wpOpIn
  cases ho : ops[i]? with
  | none =>
   rw [ho] at h2
   exact kV hd hQ fuel _ _ _ h2
  | some o =>
   rw [ho] at h2
   simp only at h2 ⊢
   split
   ·rename_i hw
    rw [if_pos hw] at h2
    rcases h2 with h2 | h2
    ·exact Oper.wpIn_mono (fun a w hk => kV hd hQ fuel _ a w hk) (ym (hd i o ho) h2)
    exact absurd h2.2 hQ
   rename_i hw
   rw [if_neg hw] at h2
   exact ⟨fun f _ => trivial, kV hd hQ fuel _ _ _ h2⟩
theorem lL {P : Program} {n l id : Nat} {Q : Exit → Act → World → Prop} {a : Act} {w : World} {x : Oper} {L : List Oper} (hQ : ¬ LetsOut Q) (hd : rM (x :: L) = true) (hm : P.follows .mixedOrders = true) (hp : gO (x :: L) = true) (hc : fP .any (x :: L).toArray = true) (hk : nD .any (x :: L).toArray = true)
    (hB : Region.lexB .any ((x :: L).dropLast ++ [bj ((x :: L).getLast (List.cons_ne_nil _ _))]).toArray = true)
    (h : wpQuiet P ((x :: L).dropLast ++ [bj ((x :: L).getLast (List.cons_ne_nil _ _))]).toArray (fun w' => ∃ n, w' = w.drewN n) (fun a' => ∀ w', (∃ n, w' = w.drewN n) → wpList P #[(x :: L).getLast (List.cons_ne_nil _ _)] Q [(x :: L).getLast (List.cons_ne_nil _ _)] a' w') (x :: L).dropLast a) : (Code.region id (x :: L).toArray true).wpIn (Fence.wide.inRound l) n P Q a w := by
 have e := List.dropLast_concat_getLast (List.cons_ne_nil x L)
 refine wpIn_region_any hm (kV (fun i o hi c e => ?_) hQ _ _ _ _ ?_)
 ·have hi' : (x :: L)[i]? = some o := by simpa using hi
  have := List.all_eq_true.1 hd o (List.mem_of_getElem? hi')
  rw [e] at this
  cases this
 generalize hl : (x :: L).dropLast = ll at *
 generalize ho : (x :: L).getLast (List.cons_ne_nil _ _) = o at *
 rw [← e] at hp hc hk ⊢
 have Aa := hB
 simp only [Region.lexB, Bool.and_eq_true] at Aa
 have hq : wpQuiet P (ll ++ [bj o]).toArray (fun w' => ∃ n, w' = w.drewN n) (fun a' => ∀ w', (∃ n, w' = w.drewN n) → wpList P #[o] Q [o] a' w') (ll ++ [bj o]) a := by
  have key : ∀ (k : List Oper) (a : Act), wpQuiet P (ll ++ [bj o]).toArray (fun w' => ∃ n, w' = w.drewN n) (fun a' => ∀ w', (∃ n, w' = w.drewN n) → wpList P #[o] Q [o] a' w') k a → wpQuiet P (ll ++ [bj o]).toArray (fun w' => ∃ n, w' = w.drewN n) (fun a' => ∀ w', (∃ n, w' = w.drewN n) → wpList P #[o] Q [o] a' w') (k ++ [bj o]) a := by
   intro k
   induction k with
   | nil =>
    intro a hq
    have hg : o.guard = none := jZ hp
    show wpQuiet P _ _ _ (bj o :: []) a
    unfold wpQuiet
    rw [if_pos (ft (show (bj o).guard = none from hg))]
    exact ⟨undef, fun _ _ => ⟨rfl, rfl⟩, hq⟩
   | cons x k ihk =>
    intro a hq
    show wpQuiet P _ _ _ (x :: (k ++ [bj o])) a
    unfold wpQuiet at hq ⊢
    by_cases hw : Region.wanted x (yielded (ll ++ [bj o]).toArray a.tmps) = true
    ·rw [if_pos hw] at hq ⊢
     exact Oper.quiet_mono (fun a' h' => ihk a' h') hq
    rw [if_neg hw] at hq ⊢
    exact ihk _ hq
  exact key ll a h
 have Ab := wpAnyQ_lex (P := P) (C := fun w' => ∃ n, w' = w.drewN n) (md := .any) Aa.1 (ll ++ [bj o]) 0 (Array.replicate (ll ++ [bj o]).toArray.size false) a (by simp) (by simpa using Aa.2) hq
 have Ac : (ll ++ [o]).toArray.size = ll.length + 1 := by simp
 have := nm (Q := Q) hp hc hk (ll.length + 1) (Array.replicate (ll.length + 1) false) a { w with drawn := w.drawn + 1 } (C := fun w' => ∃ n, w' = w.drewN n) ⟨1, rfl⟩ (by simp) (fun j x hx hl => by
  exfalso
  by_cases hj : j < ll.length + 1
  ·simp [hj] at hl
  simp [hj] at hl) (by simp) (by simpa using Ab)
 rw [Ac]
 exact this
end Go.Proofs.YtmlhcncagdfjfaaGreat.Fa
set_option maxRecDepth 100000
set_option maxHeartbeats 12800000
namespace Go.Proofs.YtmlhcncagdfjfaaGreat.Fa
open Go.RowKit Go.Shelf
attribute [local go_sem] Oper.semAt_some
section
variable {T : Th} {F : List Int} {e : Es}
theorem dP {α : Type} {f : Es → α → Es} (h : ∀ e x, (f e x).tk = e.tk) : ∀ {l : List α} {e : Es}, (l.foldl f e).tk = e.tk
 | [], _ => rfl
 | x :: l, e => by rw [List.foldl_cons, dP h, h]
theorem hG {q t : Int} : (tell e q t).tk = e.tk := by unfold tell; split <;> rfl
theorem jk {q : Int} : (bJ e q).tk = e.tk := by unfold bJ; split; exact hG; rfl
theorem qp {q : Int} : (dl T e q).tk = e.tk := by unfold dl; split; exact hG; rfl
theorem vh {q : Int} : (aW T e q).tk = e.tk := by unfold aW; split; exact jk; rfl
theorem mU {b : Bool} {q : Int} : (cu e b q).tk = e.tk := by unfold cu; split <;> rfl
theorem qJ {b : Bool} {q : Int} : (refE e b q).tk = e.tk := by unfold refE; split <;> rfl
theorem oZ {r : Int} : (defendE T e r).tk = e.tk := dP fun e s => by
 unfold eG
 split
 ·rfl
 dsimp only; split <;> rfl
theorem rO {r : Int} : (withE T e r).tk = e.tk := dP fun e s => by
 unfold fg
 dsimp only
 split
 ·exact jk
 rfl
theorem yF {r : Int} : (ik T e r).tk = e.tk := by
 have h1 : ((ao T (aj T r)).foldl (eW r) e).tk = e.tk := dP fun e p => by unfold eW; split; exact jk; rfl
 unfold ik
 dsimp only
 split
 ·split
  ·rw [hG, oZ, h1]
  rw [oZ, h1]
 exact h1
theorem xA {r : Int} : (fO T e r).tk = e.tk := by
 have h1 : ((ao T (aj T r)).foldl (dC T r) e).tk = e.tk := dP fun e p => by unfold dC; split; rfl; rw [qp]; rfl
 unfold fO
 dsimp only
 split
 ·split
  ·rw [jk, mU, rO, h1]
  rw [mU, rO, h1]
 exact h1
theorem xz {q t : Int} : (lG T F e q t).tk = e.tk := by
 unfold lG
 split
 ·unfold kQ
  rw [dP fun e p => jk, dP fun e r => by unfold dQ; dsimp only; split; rw [hG]; rfl; rfl, hG]
 split
 ·unfold gp
  dsimp only
  have h1 : ((iE T false q).foldl (bX T) e).tk = e.tk := dP fun e r => by
   unfold bX
   split
   ·rfl
   dsimp only
   split
   ·rw [hG, mU, qJ]
   rw [mU, qJ]
  rw [vh]
  split
  ·rw [dP fun e p => by unfold lY; rw [qp]; rfl, h1]
  exact h1
 split
 ·unfold kO
  exact dP fun e r => by unfold d7; dsimp only; split; rw [yF]; rfl; rfl
 unfold jv
 exact dP fun e r => by unfold dv; split; rfl; rw [xA, qJ]
theorem xI : (gV T F e).tk = e.tk + 1 := xz
end
section
variable {N : Nat} {S : Nat → Prop} {A : Ad} {T : Th} {F : List Int} {n : Nat} {e : Es} {tv : Value} {w w' : World}
theorem Eg.cells (h : Eg N S A T F n e w) (hk : ∀ (k : Nat) cs t fr, w.heap[k]? = some (Obj.cells cs t fr) → w'.heap[k]? = w.heap[k]?) (hS : ∀ k, S k → w'.heap[k]? = w.heap[k]?) (hs : w.heap.size ≤ w'.heap.size) : Eg N S A T F n e w' := by
 obtain ⟨tv, h⟩ := h
 exact ⟨tv, h.cells hk hS hs⟩
theorem Eg.put (h : Eg N S A T F n e w) {l : Nat} {o : Obj} (o' : Obj) (hl : ¬ S l) (ho : w.heap[l]? = some o) (hn : o.isCells = false) : Eg N S A T F n e (w.putObj l o') :=
 h.cells (fun k cs t fr hk => World.putObj_heap_other fun e2 => by subst e2; rw [ho] at hk; cases hk; cases hn) (fun k hk => World.putObj_heap_other fun e2 => hl (e2 ▸ hk)) (by simp)
structure Rgs (N : Nat) (S : Nat → Prop) (A : Ad) (T : Th) (F : List Int) (n : Nat) (Inv : Es → Prop) (w0 : World) (e e' : Es) (W : World) : Prop where
 eg : Eg N S A T F n e' W
 inv : Inv e
 fr : Fr (fun k => ¬ S k) w0 W
 kl : ∀ k, S k → k < w0.heap.size
theorem Rgs.alloc {Inv : Es → Prop} {w0 : World} {e e' : Es} {W : World} (h : Rgs N S A T F n Inv w0 e e' W) (o : Obj) : Rgs N S A T F n Inv w0 e e' (W.alloc o) := ⟨h.eg.go (ae W o), h.inv, h.fr.trans (Fr.of_below (ae W o)), h.kl⟩
theorem Rgs.put {Inv : Es → Prop} {w0 : World} {e e' : Es} {W : World} (h : Rgs N S A T F n Inv w0 e e' W) {l : Nat} {o : Obj} (o' : Obj) (hl : w0.heap.size ≤ l) (ho : W.heap[l]? = some o) (hn : o.isCells = false) : Rgs N S A T F n Inv w0 e e' (W.putObj l o') :=
 ⟨h.eg.put o' (fun hs => by have := h.kl l hs; omega) ho hn, h.inv, h.fr.trans ⟨rfl, rfl, rfl, by simp, fun k _ hz => World.putObj_heap_other fun e2 => by have := h.kl k (Classical.not_not.1 hz); omega⟩, h.kl⟩
def iV (K : Nat) : List Value := [.func (.func 181) #[aa K] #[], .func (.func 182) #[aa K] #[], .func (.func 183) #[aa K] #[], .func (.func 184) #[aa K] #[]]
abbrev wI (K db : Nat) (x : Int × Int) (b : Nat) : Act := { tmps := #[aa K, undef, .pointer (some ⟨db, 0, none⟩), .pointer (some ⟨b, 0, none⟩), aa K, .func (.func 181) #[aa K] #[], aa K, .func (.func 182) #[aa K] #[], aa K, .func (.func 183) #[aa K] #[], aa K, .func (.func 184) #[aa K] #[], .agg #[.func (.func 181) #[aa K] #[], .func (.func 182) #[aa K] #[], .func (.func 183) #[aa K] #[], .func (.func 184) #[aa K] #[]], aa K, .func (.func 185) #[aa K] #[], .agg #[.int .i64 x.1, .int .i64 x.2], undef, undef, undef, undef, undef, undef, undef, undef], defers := [] }
theorem xH {q : Nat} {t : Int} (h : Eg N S A T F n e w) (hq : q < n) (ht : aw t) : ∃ f : Nat, (iV A.K)[(t - 1).toNat]? = some (.func (.func f) #[aa A.K] #[]) ∧ (∀ args w', (callFunc f args).run Tryz.prog w' = .ok (.enter f args) w') ∧
    Calls Tryz.prog f #[aa A.K, .int .i64 q] w fun o w' => o = .returned (.tuple #[]) ∧ Eg N S A T F n (lG T F e q t) w' ∧ Fr (fun k => ¬ S k) w w' := by
 rcases ht with rfl | rfl | rfl | rfl
 ·exact ⟨_, rfl, enters_go Tryz.func181 (by kernel_rfl) (by kernel_rfl), tL h hq⟩
 ·exact ⟨_, rfl, enters_go Tryz.func182 (by kernel_rfl) (by kernel_rfl), te h hq⟩
 ·exact ⟨_, rfl, enters_go Tryz.func183 (by kernel_rfl) (by kernel_rfl), ud h hq⟩
 exact ⟨_, rfl, enters_go Tryz.func184 (by kernel_rfl) (by kernel_rfl), sy h hq⟩
theorem ul {P : Program} {f : FuncId} {fn : Func} (hf : P.funcs[f]? = some fn) (hn : (fn.name == "runtime.NumGoroutine") = false) (hb : fn.body.isNone = false) : ∀ args w, (callFunc f args).run P w = .ok (.enter f args) w := enters_go hf hn hb
theorem uX {Inv : Es → Prop} (h : Eg N S A T F n e w) (hi : Inv e) (hstep : ∀ e, Inv e → Tok n e → e.tk < e.td.length → Inv (gV T F e)) :
    Calls Tryz.prog 157 #[aa A.K] w fun o w' => o = .returned (.tuple #[]) ∧ ∃ e', Inv e' ∧ e'.tk = e'.td.length ∧ Eg N S A T F n e' w' ∧ Fr (fun k => ¬ S k) w w' := by
 have HI := hide hi
 have AE := hide hstep
 have Av := hide h
 clear hi hstep
 refine callsIn_wide.1 (callsIn_of_wp_marks (n := 3) Tryz.func157 rfl trivial (wpIn_wide.2 ?_))
 simp only [Tryz.ntmps157, List.size_toArray, List.length_cons, List.length_nil, Nat.reduceAdd, Nat.reduceSub, Array.replicate_succ, Array.replicate_zero, List.push_toArray, List.append_toArray, List.nil_append, List.cons_append]
 go_wp2_with fail
 have Ap : Eg N (fun k => S k ∨ k = w.heap.size) A T F n e (w.alloc (.cells (iV A.K).toArray 221)) := by
  obtain ⟨tv, hE⟩ := h
  exact ⟨tv, hE.more _⟩
 have hD : Fx w.heap.size 221 (iV A.K) (w.alloc (.cells (iV A.K).toArray 221)) := heap_alloc_new w _
 have Ao := ae w (.cells (iV A.K).toArray 221)
 have Ab := hide Ao
 have Ar := hide hD
 have Ae := hide Ap
 clear h Ap hD Ao
 change Code.wp _ _ _ _ (w.alloc (.cells (iV A.K).toArray 221))
 generalize w.alloc (.cells (iV A.K).toArray 221) = w1 at *
 obtain ⟨db, Ak⟩ : ∃ db, w.heap.size = db := ⟨_, rfl⟩
 have AR := hide Ak
 rw [Ak] at Ae Ar ⊢
 clear Ak
 refine (wpIn_wide (n := 3)).1 ?_
 refine ug (N := N) (S := fun k => S k ∨ k = db) (A := A) (T := T) (F := F) (n := n) (p := 15) 3 (by omega) rfl (ul Tryz.func185 (by kernel_rfl) (by kernel_rfl))
  (fun e W => Rgs N (fun k => S k ∨ k = db) A T F n Inv w1 e e W) (fun e W => Rgs N (fun k => S k ∨ k = db) A T F n Inv w1 e (iQ e) W)
  (fun e W d h => ⟨h.eg.go (ah W d), h.inv, h.fr.trans (Fr.of_below (ah W d)), h.kl⟩) (fun e W o h => h.alloc o) (fun e W l o o' h h1 h2 h3 => h.put o' h1 h2 h3) (fun e W o h => h.alloc o) (fun e W l o o' h h1 h2 h3 => h.put o' h1 h2 h3)
  (fun e W h => h.eg) (fun e W W' h h1 h2 h3 => ⟨h2, h.inv, h.fr.trans h3, h.kl⟩)
  (e0 := e) ⟨Ae.out, HI.out, Fr.refl _ _, fun k hk => by obtain ⟨tv, h⟩ := Ae.out; exact (h.kp k hk).1⟩ (wI A.K db) ?assign ?body ?done
 case assign =>
  intro l x W K hK
  gi_wp2
  exact hK
 case body =>
  intro l e x b W Aa hx Al AP
  have Ad : Tok n e := by
   obtain ⟨tv, h⟩ := Aa.eg
   have h2 := h.tok
   exact ⟨h2.inn, h2.nd, h2.by_, by have := (List.getElem?_eq_some_iff.1 hx).1; omega⟩
  obtain ⟨x0, x1, xt, -⟩ := Ad.inn x (List.mem_of_getElem? hx)
  obtain ⟨q, hq⟩ := Int.eq_ofNat_of_zero_le x0
  have AL : q < n := by omega
  have Aw : e.tk < e.td.length := (List.getElem?_eq_some_iff.1 hx).1
  have Ah : Hid (gV T F e = lG T F (iQ e) q x.2) := hide (by
   unfold gV
   rw [List.getD_eq_getElem?_getD, hx]
   simp only [Option.getD_some]
   rw [hq])
  have AA : Hid (Inv (gV T F e)) := hide (AE.out e Aa.inv Ad Aw)
  have As : Fx db 221 (iV A.K) W := by
   obtain ⟨tv, h⟩ := Ae.out
   exact Ar.out.keep (h.stay Aa.fr db (.inr rfl))
  obtain ⟨tv, Aj⟩ := Aa.eg
  have HO := hide fun d : Nat => (Aj.others.drewN d)
  have Am := fun d : Nat => xH (⟨tv, HO.out d⟩ : Eg N _ A T F n _ _) AL xt
  obtain ⟨f, hf, AM, -⟩ := Am 0
  have HC : Hid (∀ d, Calls Tryz.prog f #[aa A.K, .int .i64 q] (W.drewN d) fun o w' => o = .returned (.tuple #[]) ∧ Eg N (fun k => (S k ∨ k = db) ∨ ∃ o : Obj, W.heap[k]? = some o ∧ ∀ cs t fr, o ≠ .cells cs t fr) A T F n (lG T F (iQ e) q x.2) w' ∧ Fr (fun k => ¬ ((S k ∨ k = db) ∨ ∃ o : Obj, W.heap[k]? = some o ∧ ∀ cs t fr, o ≠ .cells cs t fr)) (W.drewN d) w') := hide fun d => by
   obtain ⟨f2, Ay, -, hc⟩ := Am d
   have : f2 = f := by
    rw [hf] at Ay
    cases Ay
    rfl
   subst this
   exact hc
  have Au := Al.get (i := 0) rfl
  have Az := Al.get (i := 1) rfl
  have cf := As.get hf
  rw [hq] at Au
  have Ag := hide Aa
  have AF := hide Aj.ro
  have Ac := xt
  obtain ⟨t, ht⟩ : ∃ t, x.2 = t := ⟨_, rfl⟩
  rw [ht] at Az cf HC Ac Ah
  obtain ⟨tm, Aq⟩ : ∃ tm : Nat, (t - 1).toNat = tm := ⟨_, rfl⟩
  have Ai : t - 1 = (tm : Int) ∧ tm < 4 := by rcases Ac with rfl | rfl | rfl | rfl <;> omega
  rw [Aq] at cf
  have AO : 1 ≤ t ∧ t ≤ 4 := by rcases Ac with rfl | rfl | rfl | rfl <;> omega
  have AQ : IntKind.i64.wrap (t - 1) = (tm : Int) := by rcases Ac with rfl | rfl | rfl | rfl <;> (have h1 := Ai.1; rw [← h1]; decide)
  have AN := Ai.2
  clear Aa hx Al As Aj Am hf Ad x0 x1 xt Ac Ai Aq ht hq Aw
  simp only [Nat.reduceSub]
  refine wpIn_block ?_
  unfold wI
  refine lL ?hq (by kernel_rfl) (by kernel_rfl) (by kernel_rfl) (by kernel_rfl) (by kernel_rfl) (by kernel_rfl) ?_
  case hq => rintro ⟨a, w, h⟩; exact h
  dsimp only [List.dropLast, List.getLast, List.cons_append, List.nil_append]
  repeat (go_big_quiet_step (fail))
  refine wpQuiet_nil ?_
  rintro _ ⟨nq, rfl⟩
  have HCd := hide (HC.out nq)
  clear HC Au Az cf
  go_wp2_with (refine HCd.out.mono ?_; rintro _ w2 ⟨rfl, he, hf⟩; have AK := hide he; have AD := hide hf; clear he hf)
  have Af : Fr (fun k => ¬ ((S k ∨ k = db) ∨ ∃ o : Obj, W.heap[k]? = some o ∧ ∀ cs t fr, o ≠ .cells cs t fr)) W w2 := (Fr.of_below (ah W nq)).trans AD.out
  have hS : ∀ k, (S k ∨ k = db) → w2.heap[k]? = W.heap[k]? := fun k hk => Af.block k (by have := Ag.out.kl k hk; have := Ag.out.fr.size; omega) fun hn => hn (.inl hk)
  refine ⟨⟨Af.size, fun k o _ hk ho => (Af.block k (aD hk) (fun h => h (.inr ⟨o, hk, fun cs t fr e => by rw [e] at ho; cases ho⟩))).trans hk⟩, gV T F e, ⟨?_, AA.out, Ag.out.fr.trans (Af.mono fun k _ hz hk => hz (.inl hk)), Ag.out.kl⟩, xI⟩
  rw [Ah.out]
  obtain ⟨AH, h2⟩ := AK.out
  exact ⟨AH, h2.sub (fun k hk => .inl hk) (AF.out.keep hS)⟩
 intro D e2 W hD AJ Aa An
 go_wp2_with fail
 refine ⟨by simp, .inl ⟨_, _, rfl, run_takeDeferred An, ?_⟩⟩
 have At : ¬ (S D ∨ D = db) := fun hs => by have := Aa.kl D hs; omega
 have AI := Aa.eg.put (.deferred none) At An rfl
 have Ax : ∀ k, S k → (W.putObj D (.deferred none)).heap[k]? = w.heap[k]? := fun k hk => by
  have AB : k < w.heap.size := by obtain ⟨tv, h⟩ := Av.out; exact (h.kp k hk).1
  rw [World.putObj_heap_other (show k ≠ D from fun e3 => At (.inl (e3 ▸ hk))), Aa.fr.block k (Aa.kl k (.inl hk)) (fun hn => hn (.inl hk)), Ab.out.block k AB]
 refine ⟨.tuple #[], by simp [results, go_sem], rfl, e2, Aa.inv, AJ, ?_, ?_⟩
 ·obtain ⟨AS, h0⟩ := Av.out
  obtain ⟨AC, h3⟩ := AI
  exact ⟨AC, h3.sub (fun k hk => .inl hk) (h0.ro.keep Ax)⟩
 have AG : w.heap.size ≤ (W.putObj D (.deferred none)).heap.size := by have := Ab.out.size; have := Aa.fr.size; simp; omega
 exact ⟨Aa.fr.os.trans Ab.out.os, Aa.fr.tape.trans Ab.out.tape, Aa.fr.output.trans Ab.out.output, AG, fun k _ hz => Ax k (Classical.not_not.1 hz)⟩
end
end Go.Proofs.YtmlhcncagdfjfaaGreat.Fa
set_option maxRecDepth 100000
set_option maxHeartbeats 3200000
namespace Go.Proofs.YtmlhcncagdfjfaaGreat.Fa
open Go.RowKit
theorem xx {w : World} {T : Th} {F : List Int} {n : Nat} {fa ra ba ea : Option Addr} {fc rc bc ec : Nat} {Inv : Es → Prop} (h : TA w.heap.size w T fa fc ra rc ba bc) (hF : Ints w.heap.size w F (.slice ea F.length ec)) (hp : Pf T F n) (hso : jp T F n) (hi : Inv (oR T F n)) (hstep : ∀ e, Inv e → Tok n e → e.tk < e.td.length → Inv (gV T F e)) :
    Calls Tryz.prog 131 #[tv T fa fc ra rc ba bc, .slice ea F.length ec] w fun o w' => ∃ A S N e', o = .returned (aa A.K) ∧ w.heap.size ≤ N ∧ Eg N S A T F n e' w' ∧ Inv e' ∧ e'.tk = e'.td.length ∧ Below w.heap.size w w' := by
 have Ab := ae w (.cells #[.int .i64 T.lits, .slice fa T.foes.length fc, .slice ra T.rules.length rc, .slice ba T.beats.length bc] 25)
 have Aa : Fx w.heap.size 25 [.int .i64 T.lits, .slice fa T.foes.length fc, .slice ra T.rules.length rc, .slice ba T.beats.length bc] (w.alloc (.cells #[.int .i64 T.lits, .slice fa T.foes.length fc, .slice ra T.rules.length rc, .slice ba T.beats.length bc] 25)) := heap_alloc_new w _
 have CL := hide (xT (TR.go Ab h) (Ints.go Ab hF) hp hso)
 have HB := hide Ab
 have HI := hide hi
 have HS := hide hstep
 have t0 := Aa.get (i := 0) rfl
 have t1 := Aa.get (i := 1) rfl
 have t2 := Aa.get (i := 2) rfl
 have t3 := Aa.get (i := 3) rfl
 clear h hF hp hso hi hstep Ab Aa
 go_enter Tryz.func131, Tryz.ntmps131
 go_wp2_with (first | (go_at_call 156; refine CL.out.mono ?_; rintro _ w1 ⟨A, S, rfl, he, hb⟩; have HE := hide he; have Ag := hide hb; have CW := hide (uX he HI.out HS.out); clear he hb) | (go_at_call 157; refine CW.out.mono ?_; rintro _ w2 ⟨rfl, e', Ae, Af, Ac, Ad⟩; have Ah := hide Ac; have Aj := hide Ae; have Al := hide Af; have Ai := hide Ad; clear Ac Ae Af Ad))
 go_ret
 obtain ⟨Am, h1⟩ := HE.out
 have Ak := Ai.out.below (n := (w.alloc (.cells #[.int .i64 T.lits, .slice fa T.foes.length fc, .slice ra T.rules.length rc, .slice ba T.beats.length bc] 25)).heap.size) fun k hk => ⟨(h1.kp k (h1.ro.n0 k hk)).1, fun hn => hn (h1.ro.n0 k hk)⟩
 exact ⟨A, S, _, e', rfl, HB.out.size, Ah.out, Aj.out, Al.out, HB.out.trans ((Ag.out.trans Ak).mono HB.out.size)⟩
end Go.Proofs.YtmlhcncagdfjfaaGreat.Fa
