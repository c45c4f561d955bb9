/- A range over the worklist: the iterator keeps its queue in a box that the body writes too. -/
import Derived.Test.YtdholifacnnjcaaSay
import Derived.RangeFuncNested
import Derived.RangeFuncBound
import Derived.RangeFuncCalls
import Derived.RangeFuncLeaves
import Derived.Shelf.Abstract
import Derived.Shelf.RegionOpen
import Derived.WalkKit
import Derived.OwnWalkIn
import Derived.TacticsInMore
import Derived.LoopNIn
import Derived.LoopIn
namespace Go.Proofs.Ytdholifacnnjcaa
open Go.RowKit Go.Shelf
attribute [local go_sem] Oper.semAt_some

/-- The first is taken off, wherever the rest begins. -/
theorem Ck.pop2 {K : Nat → Prop} {a : Adr} {n R : Nat} {s : Cs} {H : List (List Int)} {vs : List Value} {qv : Value} {w : World} (h : Ck K a n R s H vs qv w) {q : List Int} {g off m c off2 c2 : Nat} (he : qv = .slice (some ⟨g, off, none⟩) m c) (ht : Qr 0 w (.slice (some ⟨g, off2, none⟩) q.length c2) q) : Ck K a n R { s with qu := q } H vs (.slice (some ⟨g, off2, none⟩) q.length c2) (w.setCell ⟨a.qb, 0, none⟩ (.slice (some ⟨g, off2, none⟩) q.length c2)) ∧ Fr (fun k => ¬ K k) w (w.setCell ⟨a.qb, 0, none⟩ (.slice (some ⟨g, off2, none⟩) q.length c2)) := by
  subst he
  refine ⟨⟨h.cbx.keep (other_set (fx_ne h.cbx h.qbx (by decide))), h.crw.keep (other_set (fx_ne h.crw h.qbx (by decide))), h.qbx.set 0 _, h.sbx.keep (other_set (fx_ne h.sbx h.qbx (by decide))), h.srw.keep (other_set (fx_ne h.srw h.qbx (by decide))), h.rrw.keep (other_set (fx_ne h.rrw h.qbx (by decide))), h.pbx.keep (other_set (fx_ne h.pbx h.qbx (by decide))), h.kbx.keep (other_set (fx_ne h.kbx h.qbx (by decide))), h.mrw.keep (other_set (fx_ne h.mrw h.qbx (by decide))), h.frw.keep (other_set (fx_ne h.frw h.qbx (by decide))), h.orw.keep (other_set (fx_ne h.orw h.qbx (by decide))), h.us.rep (other_set (Ne.symm h.n5)) (fun i v g hv hg => other_set fun e => by obtain ⟨_, ho⟩ := h.us.own_at hv; exact own_fx ho h.qbx (by decide) (e ▸ hg)), ht.keep fun g hg => other_set fun e => h.qrw.ne h.qbx (by decide) (e ▸ hg), h.n1, h.n2, h.n3, h.n4, h.n5, h.nq, h.nu, fun k hk => ⟨by simpa using (h.kp k hk).1, (h.kp k hk).2⟩⟩, Fr.setCell _ _ fun hk => (h.kp _ hk).2.2.1 rfl⟩
/-- The iterator, against rounds that hand on a state. -/
theorem iter_any {n l qb : Nat} {mw : World → Nat} {J : Cs → World → Prop} {Jp : Cs → Int → List Int → World → Prop} {ms : Cs → Nat}
    (hmu : ∀ s W, J s W → mw W = ms s) (hq : ∀ s W, J s W → ∃ qv, W.cell? ⟨qb, 0, none⟩ = some qv ∧ W.frozen? ⟨qb, 0, none⟩ = false ∧ Qr 0 W qv s.qu ∧ s.qu.length ≤ 1000000)
    (hpop : ∀ s W x q g off c off2 c2, J s W → s.qu = x :: q → W.cell? ⟨qb, 0, none⟩ = some (.slice (some ⟨g, off, none⟩) (q.length + 1) c) → Qr 0 W (.slice (some ⟨g, off2, none⟩) q.length c2) q → Jp s x q (W.setCell ⟨qb, 0, none⟩ (.slice (some ⟨g, off2, none⟩) q.length c2)))
    (hY : ∀ s x q W, Jp s x q W → s.qu = x :: q → YieldAt Fence.wide (n - 1) Try.prog l #[.int .i64 x] W fun e W' => e = .returned (.bool true) ∧ ∃ s', J s' W' ∧ ms s' < ms s)
    {s0 : Cs} {W : World} (h0 : J s0 W) :
    CallsIn Fence.wide n Try.prog 42 #[.func (.yield l) #[] #[], ptr qb] W fun e W' => (∃ v, e = .returned v) ∧ ∃ s, s.qu = [] ∧ J s W' := by
  have HMU := hide hmu
  have HQ := hide hq
  have HPOP := hide hpop
  have HY := hide hY
  clear hmu hq hpop hY
  refine callsIn_of_wp Try.func42 rfl trivial ?_ rfl
  simp only [Try.ntmps42, List.size_toArray, List.length_cons, List.length_nil, Nat.reduceAdd, Nat.reduceSub, Array.replicate_succ, Array.replicate_zero, List.push_toArray, List.append_toArray, List.nil_append, List.cons_append]
  gi_wp2
  gi_loopw [3] (fun _ wr => ∃ s, J s wr) (fun _ wr => mw wr)
  case atStart => exact ⟨s0, h0⟩
  case round =>
    obtain ⟨s, hs⟩ := hrel
    have HM := hide (HMU.out s wr hs)
    have HJ := hide hs
    obtain ⟨qv, c0, f0, hqr, hln⟩ := HQ.out s wr hs
    have HS := hide hs
    cases hsq : s.qu with
    | nil =>
      rw [hsq] at hqr
      obtain ⟨qa, qc, rfl⟩ := hqr.form
      have HE := hide hsq
      clear hqr hsq hln hs
      simp only [List.length_nil] at c0
      gi_wp2
      go_end0
      exact ⟨⟨_, rfl⟩, s, HE.out, HS.out⟩
    | cons x q =>
      rw [hsq] at hqr hln
      obtain ⟨g, off, c, rfl, hqc, hqm, cx⟩ := hqr.head
      have hln2 : q.length + 1 ≤ 1000000 := by simpa using hln
      by_cases hc1 : c = 1
      · subst hc1
        have hq0 : q = [] := List.eq_nil_of_length_eq_zero (by omega)
        have ht : Qr 0 wr (.slice (some ⟨g, off, none⟩) q.length 0) q := by
          subst hq0
          rcases hqr with ⟨e, _⟩ | ⟨g2, off2, cap, cur, e, h1, h2, h3, h4, h5, h6⟩
          · cases e
          · cases e
            exact .inr ⟨g, off, 0, cur, rfl, Nat.zero_le _, h2, Nat.le_refl _, by unfold maxLen; omega, by omega, fun i x hi => by simp at hi⟩
        have hp := HPOP.out s wr x q g off 1 off 0 hs hsq c0 ht
        have HYY := HY.out s x q _ hp hsq
        subst hq0
        simp only [List.length_nil] at c0 HYY
        clear hqr hsq hs hp ht hln hln2 hqc hqm
        obtain ⟨fn, tmps, assign, body, hy, hR⟩ := HYY
        gi_wp2
        refine ⟨fun h => (by cases h), ?_⟩
        refine hR.mono ?_
        rintro e W3 ⟨rfl, s', hJ3, hm3⟩
        gi_wp2
        go_roundw
        case rel => exact ⟨s', hJ3⟩
        case measure => rw [HMU.out s' _ hJ3, HM.out]; exact hm3
      · have ht := hqr.tail
        have hp := HPOP.out s wr x q g off c (off + 1) (c - 1) hs hsq c0 ht
        have HYY := HY.out s x q _ hp hsq
        obtain ⟨k, hk⟩ : ∃ k, q.length = k := ⟨_, rfl⟩
        rw [hk] at c0 HYY hqc hln2
        clear hk hqr hsq hs hp ht hln
        obtain ⟨fn, tmps, assign, body, hy, hR⟩ := HYY
        gi_wp2
        refine ⟨fun h => (by cases h), ?_⟩
        refine hR.mono ?_
        rintro e W3 ⟨rfl, s', hJ3, hm3⟩
        gi_wp2
        go_roundw
        case rel => exact ⟨s', hJ3⟩
        case measure => rw [HMU.out s' _ hJ3, HM.out]; exact hm3
/-- How the body of a round may be left. -/
def roundQ (B : Nat) (I : Cs → World → Prop) (ms : Cs → Nat) (s : Cs) (W : World) : Exit → Act → World → Prop
  | .normal, _, W' => KeepsFrom B W W' ∧ ∃ s', I s' W' ∧ ms s' < ms s
  | _, _, _ => False
theorem range_any {g : Operand} {p : Tmp} {assign body : Code} {Q : Exit → Act → World → Prop} {a : Act} {w : World} {qb : Nat} (n : Nat) (hn : 1 ≤ n) (hg : a.eval g = .func (.func 42) #[] #[ptr qb]) (eg : ∀ args w, (callFunc 42 args).run Try.prog w = .ok (.enter 42 args) w)
    (mw : World → Nat) (ms : Cs → Nat) (I : Cs → World → Prop) (Ip : Cs → Int → List Int → World → Prop)
    (hIa : ∀ s W o, I s W → I s (W.alloc o)) (hIo : ∀ s W l o o', I s W → w.heap.size ≤ l → W.heap[l]? = some o → o.isCells = false → I s (W.putObj l o'))
    (hPo : ∀ s x q W l o o', Ip s x q W → w.heap.size ≤ l → W.heap[l]? = some o → o.isCells = false → Ip s x q (W.putObj l o'))
    (hmu : ∀ s W, I s W → mw W = ms s) (hq : ∀ s W, I s W → ∃ qv, W.cell? ⟨qb, 0, none⟩ = some qv ∧ W.frozen? ⟨qb, 0, none⟩ = false ∧ Qr 0 W qv s.qu ∧ s.qu.length ≤ 1000000)
    (hpop : ∀ s W x q g off c off2 c2, I s W → s.qu = x :: q → W.cell? ⟨qb, 0, none⟩ = some (.slice (some ⟨g, off, none⟩) (q.length + 1) c) → Qr 0 W (.slice (some ⟨g, off2, none⟩) q.length c2) q → Ip s x q (W.setCell ⟨qb, 0, none⟩ (.slice (some ⟨g, off2, none⟩) q.length c2)))
    {s0 : Cs} (h0 : I s0 w) (a₁ : Int → Act)
    (hassign : ∀ (l : Nat) (x : Int) (W : World) (K : Act → World → Prop), K (a₁ x) W → assign.wpIn (Fence.wide.inRound l) (n - 1 - 1) Try.prog (Exit.then K (fun _ _ _ => False)) { tmps := a.tmps.setIfInBounds p (.int .i64 x), defers := [] } W)
    (hbody : ∀ (l : Nat) (s : Cs) (x : Int) (q : List Int) (W : World), Ip s x q W → s.qu = x :: q → body.wpIn (Fence.wide.inRound l) (n - 1 - 1) Try.prog (roundQ w.heap.size I ms s W) (a₁ x) W)
    (hdone : ∀ (D : Nat) (s : Cs) (W : World), w.heap.size ≤ D → s.qu = [] → I s W → W.heap[D]? = some (.deferred (some [])) → Q .normal { a with defers := { target := .collected D, args := #[] } :: a.defers } W) :
    (Code.rangeFunc g #[p] assign body).wpIn Fence.wide n Try.prog Q a w := by
  refine wpIn_rangeFunc ?_
  intro fn hfn
  rw [show Fence.wide.round = none from rfl]
  obtain ⟨rec, hrec⟩ : ∃ rec : LoopState → Option Code → Loop, rec = fun st pe => { state := st, pending := pe, fn, tmps := a.tmps, params := #[p], assign, body, defers := w.heap.size } := ⟨_, rfl⟩
  obtain ⟨W1, hW1⟩ : ∃ W1, (w.alloc (.deferred (some []))).alloc (.loop (rec .ready none)) = W1 := ⟨_, rfl⟩
  have hL1 : W1.heap[w.heap.size + 1]? = some (.loop (rec .ready none)) := by
    rw [← hW1]; have := World.alloc_heap_new (w.alloc (.deferred (some []))) (.loop (rec .ready none)); rwa [World.size_alloc] at this
  have hK1 : W1.heap[w.heap.size]? = some (.deferred (some [])) := by
    rw [← hW1]; exact (Below.heap_alloc _ _ _ (by simp)).trans (World.alloc_heap_new w _)
  have hI1 : I s0 W1 := by rw [← hW1]; exact hIa _ _ _ (hIa _ _ _ h0)
  refine ⟨w.heap.size + 1, [{ target := .collected w.heap.size, args := #[] }], W1, { target := .fn (.func 42) #[ptr qb], args := #[.func (.yield (w.heap.size + 1)) #[] #[]] }, W1, 42,
    #[.func (.yield (w.heap.size + 1)) #[] #[]] ++ #[ptr qb], W1, ?_, ?_, ?_, ?_, fun _ => hn, ?_⟩
  · rw [← hW1, hrec]; exact run_enterLoop_outer _ _ _ _ _
  · simp only [resolve, hg]
    simp [go_sem]
  · intro f' hf'; trivial
  · simp [invoke, go_sem, eg]
  · refine (iter_any (n := n - 1) (l := w.heap.size + 1) (qb := qb) (mw := mw) (ms := ms)
      (J := fun s W => I s W ∧ W.heap[w.heap.size + 1]? = some (.loop (rec .ready none)) ∧ W.heap[w.heap.size]? = some (.deferred (some [])))
      (Jp := fun s x q W => Ip s x q W ∧ W.heap[w.heap.size + 1]? = some (.loop (rec .ready none)) ∧ W.heap[w.heap.size]? = some (.deferred (some [])))
      (fun s W h => hmu s W h.1) (fun s W h => hq s W h.1)
      (fun s W x q g off c off2 c2 h h2 h3 h4 => ⟨hpop s W x q g off c off2 c2 h.1 h2 h3 h4, (KeepsOthers.setCell W _ _).same _ _ h.2.1 rfl, (KeepsOthers.setCell W _ _).same _ _ h.2.2 rfl⟩)
      ?_ ⟨hI1, hL1, hK1⟩).mono ?_
    · rintro s x q W ⟨hi, hl, hk⟩ hsq
      have hlt : w.heap.size + 1 < W.heap.size := (Array.getElem?_eq_some_iff.1 hl).1
      have hy := run_yield (P := Try.prog) (args := #[.int .i64 x]) hl (by rw [hrec]; rfl)
      have hfold : (#[p].zip #[Value.int .i64 x]).foldl (fun tmps (t, a) => tmps.setIfInBounds t a) a.tmps = a.tmps.setIfInBounds p (.int .i64 x) := by simp [Array.zip]
      rw [hrec] at hy
      dsimp only at hy
      rw [hfold] at hy
      refine ⟨fn, _, assign, body, hy, ?_⟩
      refine roundIn_of_wpIn hfn ?_
      refine hassign (w.heap.size + 1) x W _ ?_
      refine ⟨_, run_beginRound hl (by rw [hrec]), ?_⟩
      have hl2 : (W.putObj (w.heap.size + 1) (.loop { rec .ready none with state := .busy })).heap[w.heap.size + 1]? = some (.loop { rec .ready none with state := .busy }) := World.putObj_heap_same hlt
      have hk2 : (W.putObj (w.heap.size + 1) (.loop { rec .ready none with state := .busy })).heap[w.heap.size]? = some (.deferred (some [])) := (World.putObj_heap_other (by omega)).trans hk
      refine wpIn_mono (hbody _ s x q _ (hPo _ _ _ _ _ _ _ hi (by omega) hl rfl) hsq) ?_
      rintro e a3 W3 hp
      cases e with
      | normal =>
        obtain ⟨hk3, s', hi3, hm3⟩ := hp
        have hl3 := hk3.same _ _ (by omega) hl2 rfl
        have hr := run_endRound (P := Try.prog) none hl3
        have hk4 := hk3.same _ _ (Nat.le_refl _) hk2 rfl
        refine ⟨_, _, hr, rfl, s', ⟨hIo _ _ _ _ _ hi3 (by omega) hl3 rfl, ?_, (World.putObj_heap_other (by omega)).trans hk4⟩, hm3⟩
        rw [World.putObj_heap_same (Array.getElem?_eq_some_iff.1 hl3).1]
        rw [hrec]
        rfl
      | ret => exact hp.elim
      | exit id => exact hp.elim
      | goto t => exact hp.elim
      | panic ch => exact hp.elim
      | outgrown => exact hp.elim
    · rintro e W2 ⟨⟨v, rfl⟩, s, hsq, hi, hl, hk⟩
      exact ⟨none, _, by have := run_endLoop (P := Try.prog) hl (by rw [hrec]; simp); rw [hrec] at this; exact this, hdone _ s _ (Nat.le_refl _) hsq (hIo _ _ _ _ _ hi (by omega) hl rfl) ((World.putObj_heap_other (by omega)).trans hk)⟩
end Go.Proofs.Ytdholifacnnjcaa
