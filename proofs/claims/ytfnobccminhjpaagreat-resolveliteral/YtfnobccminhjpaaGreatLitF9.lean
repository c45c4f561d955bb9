/- Literal's own asking, and the first fault beside it. -/
import Derived.Test.YtfnobccminhjpaaGreatLitG9
import Derived.Test.YtfnobccminhjpaaGreatCheck8
namespace Go.Proofs.YtfnobccminhjpaaGreat
open Go.RowKit Go.Shelf Go.Maps Go.WideMaps
section
variable {R : Nat} {S : StatM} {st : St9} {mp : Mp8} {it : Nat} {seen : List Bytes} {w w' : World}
/-- The zero literal. -/
abbrev zl : Obj := .cells #[.bool false, .int .i64 0, .slice none 0 0, .int .i64 0, .int .i64 0] 64 (0, 0)
/-- What Literal's box holds in the end. -/
def Lb (S : StatM) (l : LitM) (lb B : Nat) (w' : World) (ms : List Nat) : Prop := ∃ a c, w'.heap[lb]? = some (.cells #[.bool l.neg, .int .i64 (posB S.ctx.names l.pred), .slice a ms.length c, .int .i64 l.value, .int .i64 0] 64 (0, 0)) ∧ w'.ownsRow B 3 1 (.slice a ms.length c) ms.length (nats ms)
def Ek (S : StatM) (l : LitM) (lb : Nat) (w : World) (it : Int) (o : Er (List Nat)) (e : Ending) (w' : World) : Prop := Fr (fun k => k = lb) w w' ∧ match o with
  | .ok ms => e = .returned (.tuple #[]) ∧ Lb S l lb w.heap.size w' ms
  | .error c => e = .panicked [fl c it] ∧ w'.heap[lb]? = some zl
set_option maxRecDepth 100000 in
set_option maxHeartbeats 6400000 in
theorem lit1_any (h : Res R S st mp it seen w) (hp4 : ∀ p ∈ S.preds, p.kinds.length ≤ 4) (l : LitM) {tb lb : Nat} {aa : Option Addr} {ac : Nat} (htt : w.heap[tb]? = some (.cells (litV l aa ac) 59 (0, 0))) (hpr : l.pred.length ≤ maxLen) (hl : Strs w.heap.size w l.args (.slice aa l.args.length ac)) (hlb : w.heap[lb]? = some zl) :
    Calls Tryz.prog 89 #[ptr R, ptr tb, ptr lb] w fun e w' => Ek S l lb w it (literalGM S.ctx l) e w' := by
  have hA : Below w.heap.size w (w.alloc (.cells #[ptr R] 87)) := (Below.refl _ _).alloc (Nat.le_refl _) _
  have hmf : ∀ (fn : Fn) (first cap : Array Value) (w : World), (Instr.makeFunc fn first cap).run Tryz.prog w = .ok (.func fn first cap) w := fun _ _ _ _ => rfl
  have CL := hide (litL_any (h.below hA) (rb := w.heap.size) (cell_of_row _ _ 0 _ _ _ (heap_alloc_new w _)) hp4 l (aa := aa) (ac := ac) hpr (Strs.mono hA.size (hl.keep fun g hg => hA.block g hg)))
  have ht2 := (hA.block tb (loc_lt htt)).trans htt
  have t0 := cell_of_row _ tb 0 _ _ _ ht2
  have t1 := cell_of_row _ tb 1 _ _ _ ht2
  have t2 := cell_of_row _ tb 2 _ _ _ ht2
  have t3 := cell_of_row _ tb 3 _ _ _ ht2
  have t4 := cell_of_row _ tb 4 _ _ _ ht2
  simp only [litV, List.getElem?_toArray, List.getElem?_cons_zero, List.getElem?_cons_succ] at t0 t1 t2 t3 t4
  have HLB := hide hlb
  have HA := hide hA
  have hll := loc_lt hlb
  obtain ⟨o, ho⟩ : ∃ o, literalGM S.ctx l = o := ⟨_, rfl⟩
  rw [ho]
  rw [ho] at CL
  simp only [litV] at CL
  clear h hp4 ht2 htt hl hlb ho hA
  go_enter Tryz.func89, Tryz.ntmps89
  go_wp2_with fail
  refine CL.out.mono ?_
  intro e w2 hE
  rcases hE.no with ⟨c1, h3, rfl, hf⟩ | ⟨ms, v2, h3, rfl, hrow0, hf⟩
  · subst h3
    refine on_panic rfl ⟨.of_below (HA.out.trans (hf.mono HA.out.size)), rfl, ?_⟩
    exact ((HA.out.trans (hf.mono HA.out.size)).block lb hll).trans HLB.out
  subst h3
  obtain ⟨xa, xc, rfl, hrow⟩ := hrow0
  have HF := hide (HA.out.trans (hf.mono HA.out.size))
  have hb2 := (HF.out.block lb hll).trans HLB.out
  have z0 := cell_of_row w2 lb 0 _ _ _ hb2
  have z1 := cell_of_row w2 lb 1 _ _ _ hb2
  have z2 := cell_of_row w2 lb 2 _ _ _ hb2
  have z3 := cell_of_row w2 lb 3 _ _ _ hb2
  have z4 := cell_of_row w2 lb 4 _ _ _ hb2
  have zf := fun i => frozen_of_row w2 lb i _ _ hb2
  simp only [List.getElem?_toArray, List.getElem?_cons_zero, List.getElem?_cons_succ] at z0 z1 z2 z3 z4
  have HROW := hide hrow
  have HB2 := hide hb2
  have hsz : w.heap.size < (w.alloc (.cells #[ptr R] 87)).heap.size := by simp
  clear hE CL hf hrow t0 t1 t2 t3 t4 hb2 hmf
  go_wp2_with fail
  go_end0
  refine ⟨?_, rfl, xa, xc, ?_, owns_down' (owns_keep HROW.out fun g hg => ?_) (Nat.le_of_lt hsz)⟩
  · exact ((((((Fr.of_below (Z := fun k => k = lb) HF.out).trans (.setCell ⟨lb, 0, none⟩ _ rfl)).trans (.setCell ⟨lb, 1, none⟩ _ rfl)).trans (.setCell ⟨lb, 2, none⟩ _ rfl)).trans (.setCell ⟨lb, 3, none⟩ _ rfl)).trans (.setCell ⟨lb, 4, none⟩ _ rfl))
  · have s4 := loc_set (i := 4) (v := .int .i64 0) (loc_set (i := 3) (v := .int .i64 l.value) (loc_set (i := 2) (v := .slice xa ms.length xc) (loc_set (i := 1) (v := .int .i64 (posB S.ctx.names l.pred)) (loc_set (i := 0) (v := .bool l.neg) HB2.out))))
    simp only [List.setIfInBounds_toArray, List.set_cons_zero, List.set_cons_succ] at s4
    exact s4
  · have hgb : g ≠ lb := by have := (HROW.out.lt g hg).1; omega
    rw [heap_setCell_other _ _ g _ hgb, heap_setCell_other _ _ g _ hgb, heap_setCell_other _ _ g _ hgb, heap_setCell_other _ _ g _ hgb, heap_setCell_other _ _ g _ hgb]
end
section
variable {S : StatM} {st : St9} {w w' : World}
/-- How the first fault is told when a literal is asked besides. -/
def El9 (S : StatM) (l : LitM) (lb : Nat) (w : World) (c : Int) (n : Nat) (o : Er (List Nat)) (e : Ending) (w' : World) : Prop := Fr (fun k => k = lb) w w' ∧ ((c ≠ 0 ∧ e = .returned (.agg #[.int .i64 c, .int .i64 n]) ∧ w'.heap[lb]? = some zl) ∨ (c = 0 ∧ ∃ d, o = .error d ∧ e = .returned (.agg #[.int .i64 d, .int .i64 n]) ∧ w'.heap[lb]? = some zl) ∨ (c = 0 ∧ ∃ ms, o = .ok ms ∧ e = .returned (.agg #[.int .i64 0, .int .i64 n]) ∧ Lb S l lb w.heap.size w' ms))
set_option maxRecDepth 100000 in
set_option maxHeartbeats 12800000 in
theorem firstL_any (h : SR w.heap.size w S st) (l : LitM) {tb vb : Nat} {aa : Option Addr} {ac : Nat} (htt : w.heap[tb]? = some (.cells (litV l aa ac) 59 (0, 0))) (hpr : l.pred.length ≤ maxLen) (hll : Strs w.heap.size w l.args (.slice aa l.args.length ac)) (hvv : w.heap[vb]? = some zl) : Calls Tryz.prog 49 #[st.agg, .func (.func 89) #[] #[ptr tb, ptr vb]] w fun e w' => El9 S l vb w (checkM S).1 (checkM S).2 (literalGM S.ctx l) e w' := by
  obtain ⟨c0, n0, hck⟩ : ∃ c n, checkM S = (c, n) := ⟨_, _, rfl⟩
  rw [hck]
  have HCK := hide hck
  have HTT := hide htt
  have HLL := hide hll
  have HVV := hide hvv
  have hlk := loc_lt htt
  have hlv := loc_lt hvv
  clear hck
  obtain ⟨tt, ht⟩ := h.title
  obtain ⟨a1, b1, f1, _, l1⟩ := h.kinds.form
  obtain ⟨a2, b2, f2, _, l2⟩ := h.members.form
  obtain ⟨a3, b3, f3, _, l3⟩ := h.preds.form
  obtain ⟨a4, b4, f4, _, l4⟩ := h.classes.form
  obtain ⟨a5, b5, f5, _, l5⟩ := h.sources.form
  obtain ⟨a6, b6, f6, _, l6⟩ := h.rules.form
  obtain ⟨a7, b7, f7, _, l7⟩ := h.excepts.form
  obtain ⟨a8, b8, f8, _, l8⟩ := h.totals.form
  obtain ⟨s0, s1, s2, s3, s4, s5, s6, s7, s8⟩ := st
  simp only at ht f1 f2 f3 f4 f5 f6 f7 f8
  subst ht f1 f2 f3 f4 f5 f6 f7 f8
  clear htt hll hvv
  have hmf : ∀ (fn : Fn) (first cap : Array Value) (w : World), (Instr.makeFunc fn first cap).run Tryz.prog w = .ok (.func fn first cap) w := fun _ _ _ _ => rfl
  have hA : Below w.heap.size w (((w.alloc (.cells #[.string tt, .slice a1 S.kinds.length b1, .slice a2 S.members.length b2, .slice a3 S.preds.length b3, .slice a4 S.classes.length b4, .slice a5 S.sources.length b5, .slice a6 S.rules.length b6, .slice a7 S.excepts.length b7, .slice a8 S.totals.length b8] 31)).alloc (.cells #[.int .i64 0, .int .i64 0] 85)).alloc (.cells #[.string tt, .slice a1 S.kinds.length b1, .slice a2 S.members.length b2, .slice a3 S.preds.length b3, .slice a4 S.classes.length b4, .slice a5 S.sources.length b5, .slice a6 S.rules.length b6, .slice a7 S.excepts.length b7, .slice a8 S.totals.length b8, .int .i64 0, .map none, .map none, .map none, .map none, .map none, .map none, .map none, .map none] 165)) := (((Below.refl _ w).alloc (Nat.le_refl _) _).alloc (by simp) _).alloc (by simp; omega) _
  have hRaw : Raw (w.heap.size + 1 + 1) S ⟨.string tt, .slice a1 S.kinds.length b1, .slice a2 S.members.length b2, .slice a3 S.preds.length b3, .slice a4 S.classes.length b4, .slice a5 S.sources.length b5, .slice a6 S.rules.length b6, .slice a7 S.excepts.length b7, .slice a8 S.totals.length b8⟩ (((w.alloc (.cells #[.string tt, .slice a1 S.kinds.length b1, .slice a2 S.members.length b2, .slice a3 S.preds.length b3, .slice a4 S.classes.length b4, .slice a5 S.sources.length b5, .slice a6 S.rules.length b6, .slice a7 S.excepts.length b7, .slice a8 S.totals.length b8] 31)).alloc (.cells #[.int .i64 0, .int .i64 0] 85)).alloc (.cells #[.string tt, .slice a1 S.kinds.length b1, .slice a2 S.members.length b2, .slice a3 S.preds.length b3, .slice a4 S.classes.length b4, .slice a5 S.sources.length b5, .slice a6 S.rules.length b6, .slice a7 S.excepts.length b7, .slice a8 S.totals.length b8, .int .i64 0, .map none, .map none, .map none, .map none, .map none, .map none, .map none, .map none] 165)) := by
    refine ⟨?_, SR.mono (by omega) (h.keep fun g hg => hA.block g hg)⟩
    have := heap_alloc_new ((w.alloc (.cells #[.string tt, .slice a1 S.kinds.length b1, .slice a2 S.members.length b2, .slice a3 S.preds.length b3, .slice a4 S.classes.length b4, .slice a5 S.sources.length b5, .slice a6 S.rules.length b6, .slice a7 S.excepts.length b7, .slice a8 S.totals.length b8] 31)).alloc (.cells #[.int .i64 0, .int .i64 0] 85)) (.cells #[.string tt, .slice a1 S.kinds.length b1, .slice a2 S.members.length b2, .slice a3 S.preds.length b3, .slice a4 S.classes.length b4, .slice a5 S.sources.length b5, .slice a6 S.rules.length b6, .slice a7 S.excepts.length b7, .slice a8 S.totals.length b8, .int .i64 0, .map none, .map none, .map none, .map none, .map none, .map none, .map none, .map none] 165)
    simpa using this
  have hq : (((w.alloc (.cells #[.string tt, .slice a1 S.kinds.length b1, .slice a2 S.members.length b2, .slice a3 S.preds.length b3, .slice a4 S.classes.length b4, .slice a5 S.sources.length b5, .slice a6 S.rules.length b6, .slice a7 S.excepts.length b7, .slice a8 S.totals.length b8] 31)).alloc (.cells #[.int .i64 0, .int .i64 0] 85)).alloc (.cells #[.string tt, .slice a1 S.kinds.length b1, .slice a2 S.members.length b2, .slice a3 S.preds.length b3, .slice a4 S.classes.length b4, .slice a5 S.sources.length b5, .slice a6 S.rules.length b6, .slice a7 S.excepts.length b7, .slice a8 S.totals.length b8, .int .i64 0, .map none, .map none, .map none, .map none, .map none, .map none, .map none, .map none] 165)).heap[w.heap.size + 1]? = some (.cells #[.int .i64 0, .int .i64 0] 85 (0, 0)) := by
    have := heap_alloc_new (w.alloc (.cells #[.string tt, .slice a1 S.kinds.length b1, .slice a2 S.members.length b2, .slice a3 S.preds.length b3, .slice a4 S.classes.length b4, .slice a5 S.sources.length b5, .slice a6 S.rules.length b6, .slice a7 S.excepts.length b7, .slice a8 S.totals.length b8] 31)) (.cells #[.int .i64 0, .int .i64 0] 85)
    rw [Below.heap_alloc _ _ _ (by simp)]
    simpa using this
  have CC := hide (counts_any hRaw)
  have HRaw := hide hRaw
  have HQ := hide hq
  have HA := hide hA
  clear h hRaw hq hA
  unfold St9.agg
  simp only
  go_enter_defers Tryz.func49, Tryz.ntmps49
  go_wp2_with fail
  refine CC.out.mono ?_
  intro e X1 hE
  cases hfit : S.fitsB with
  | false =>
    have hck : (c0, n0) = ((3 : Int), 0) := by rw [← HCK.out]; unfold checkM; rw [hfit]; rfl
    cases hck
    rcases hE.no with ⟨c1, h3, rfl, hf⟩ | ⟨_, v, h3, rfl, hrv, hf⟩
    · rw [counts_not hfit] at h3
      cases h3
      have HQ1 := hide ((hf.block _ (loc_lt HQ.out)).trans HQ.out)
      have HB1 := hide (HA.out.trans (hf.mono HA.out.size))
      clear hE hf CC HRaw HQ HA
      go_wp2_with fail
      refine leaves_cons (f := 101) (args := #[.pointer (some ⟨w.heap.size + 1, 0, none⟩)]) (by simp) (by simp [go_sem]) ?_
      refine (catch_fault _ _ _ _ _ _ _ HQ1.out).mono ?_
      rintro e u' w5 ⟨rfl, rfl, hq5, hf5⟩
      have z0 := cell_of_row w5 (w.heap.size + 1) 0 _ _ _ hq5
      have z1 := cell_of_row w5 (w.heap.size + 1) 1 _ _ _ hq5
      simp only [List.getElem?_toArray, List.getElem?_cons_zero, List.getElem?_cons_succ] at z0 z1
      have zf : ∀ i, w5.frozen? ⟨w.heap.size + 1, i, none⟩ = false := fun i => frozen_of_row w5 _ i _ _ hq5
      refine ⟨.agg #[.int .i64 (3), .int .i64 (((0 : Nat) : Int))], ?_, (Fr.of_below (HB1.out.trans (hf5.below fun k hk => ⟨Nat.lt_of_lt_of_le hk HB1.out.size, by show ¬ k = w.heap.size + 1; omega⟩))), .inl ⟨by decide, rfl, ((HB1.out.trans (hf5.below fun k hk => ⟨Nat.lt_of_lt_of_le hk HB1.out.size, by show ¬ k = w.heap.size + 1; omega⟩)).block vb hlv).trans HVV.out⟩⟩
      simp [results, Tryz.results49, go_sem, z0, z1]
    · rw [counts_not hfit] at h3
      cases h3
  | true =>
  rcases hE.no with ⟨c1, h3, rfl, hf⟩ | ⟨_, v, h3, rfl, hrv, hf⟩
  · rw [counts_fits hfit] at h3
    cases h3
  have HQ1 := hide ((hf.block _ (loc_lt HQ.out)).trans HQ.out)
  have HB1 := hide (HA.out.trans (hf.mono HA.out.size))
  have CN := hide (number_any (HRaw.out.below hf) hfit)
  have hHC : firstE 0 S.items = (c0, n0) := by rw [← HCK.out]; unfold checkM; rw [hfit]; rfl
  have HC := hide hHC
  clear hE hf h3 hrv CC HRaw HQ HA hHC HCK
  go_wp2_with fail
  refine CN.out.mono ?_
  rintro _ X2 ⟨rfl, hf2, mp, hR2⟩
  have HQ2 := hide ((hf2.block _ (loc_lt HQ1.out) (by show ¬ w.heap.size + 1 = w.heap.size + 1 + 1; omega)).trans HQ1.out)
  have HB2 := hide (HB1.out.trans (hf2.below fun k hk => ⟨Nat.lt_of_lt_of_le hk HB1.out.size, by show ¬ k = w.heap.size + 1 + 1; omega⟩))
  have CI := hide (items_any hR2)
  have hne := hR2.ne.2.2.2.2.2.2.2
  clear CN hf2 hR2 HQ1 HB1
  go_wp2_with fail
  refine CI.out.mono ?_
  rintro _ X3 ⟨hf3, ⟨rfl, ha, hr⟩ | ⟨n, c, hbad, rfl⟩⟩
  rotate_left
  · have hcn := HC.out
    rw [firstE_bad hbad 0] at hcn
    cases hcn
    have HQ3 := hide ((hf3.block _ (loc_lt HQ2.out) (by rintro (a | a) <;> omega)).trans HQ2.out)
    have HB3 := hide (HB2.out.trans (hf3.below fun k hk => ⟨Nat.lt_of_lt_of_le hk HB2.out.size, by rintro (a | a) <;> omega⟩))
    have HNZ : c0 ≠ 0 := nz_items S _ (List.mem_of_getElem? hbad.2) c0 rfl
    clear hf3 CI HQ2 HB2 hbad HC
    go_wp2_with fail
    refine leaves_cons (f := 101) (args := #[.pointer (some ⟨w.heap.size + 1, 0, none⟩)]) (by simp) (by simp [go_sem]) ?_
    refine (catch_fault _ _ _ _ _ _ _ HQ3.out).mono ?_
    rintro e u' w5 ⟨rfl, rfl, hq5, hf5⟩
    have z0 := cell_of_row w5 (w.heap.size + 1) 0 _ _ _ hq5
    have z1 := cell_of_row w5 (w.heap.size + 1) 1 _ _ _ hq5
    simp only [List.getElem?_toArray, List.getElem?_cons_zero, List.getElem?_cons_succ] at z0 z1
    have zf : ∀ i, w5.frozen? ⟨w.heap.size + 1, i, none⟩ = false := fun i => frozen_of_row w5 _ i _ _ hq5
    refine ⟨.agg #[.int .i64 c0, .int .i64 (((0 + n : Nat) : Int))], ?_, (Fr.of_below (HB3.out.trans (hf5.below fun k hk => ⟨Nat.lt_of_lt_of_le hk HB3.out.size, by show ¬ k = w.heap.size + 1; omega⟩))), .inl ⟨HNZ, rfl, ((HB3.out.trans (hf5.below fun k hk => ⟨Nat.lt_of_lt_of_le hk HB3.out.size, by show ¬ k = w.heap.size + 1; omega⟩)).block vb hlv).trans HVV.out⟩⟩
    simp [results, Tryz.results49, go_sem, z0, z1]
  have hcn := HC.out
  rw [firstE_ok ha 0] at hcn
  cases hcn
  have hq3 := (hf3.block _ (loc_lt HQ2.out) (by rintro (a | a) <;> omega)).trans HQ2.out
  have HB3 := hide (HB2.out.trans (hf3.below fun k hk => ⟨Nat.lt_of_lt_of_le hk HB2.out.size, by rintro (a | a) <;> omega⟩))
  have hsp := items_split.1 ha
  have HV3 := hide ((HB3.out.block vb hlv).trans HVV.out)
  have CM := hide (lit1_any hr (preds_four hsp.1.1.1.1.1.2) l (tb := tb) (lb := vb) (aa := aa) (ac := ac) ((HB3.out.block tb hlk).trans HTT.out) hpr (Strs.mono HB3.out.size (HLL.out.keep fun g hg => HB3.out.block g hg)) HV3.out)
  have HR3 := hide hr
  have HQ3 := hide hq3
  have hsz3 := HB3.out.size
  have hlq := loc_lt hq3
  have hlr := loc_lt hr.box
  clear hf3 CI HQ2 HB2 HC ha hr hq3 hsp
  go_wp2_with fail
  refine CM.out.mono ?_
  intro e X4 hE
  obtain ⟨o, ho⟩ : ∃ o, literalGM S.ctx l = o := ⟨_, rfl⟩
  have HO := hide ho
  rw [ho] at hE
  obtain ⟨hf4, hE⟩ := hE
  have HW4 := hide ((Fr.of_below (Z := fun k => k = vb) HB3.out).trans hf4)
  have hq4 := (hf4.block (w.heap.size + 1) hlq (by show ¬ w.heap.size + 1 = vb; omega)).trans HQ3.out
  have HQ4 := hide hq4
  have hbk := hf4.block (w.heap.size + 1 + 1) hlr (by show ¬ w.heap.size + 1 + 1 = vb; omega)
  have r9 := (World.cell?_of_block hbk).trans HR3.out.c9
  have hsz4 := hf4.size
  clear ho hbk hf4
  cases o with
  | error d =>
    have hE' : e = .panicked [fl d ((0 + S.items.length : Nat) : Int)] := hE.1
    have HE2 : Hid (X4.heap[vb]? = some zl) := hide hE.2
    subst hE'
    clear hE CM r9 hq4
    go_wp2_with fail
    refine leaves_cons (f := 101) (args := #[.pointer (some ⟨w.heap.size + 1, 0, none⟩)]) (by simp) (by simp [go_sem]) ?_
    refine (catch_fault _ _ _ _ _ _ _ HQ4.out).mono ?_
    rintro e u' w5 ⟨rfl, rfl, hq5, hf5⟩
    have z0 := cell_of_row w5 (w.heap.size + 1) 0 _ _ _ hq5
    have z1 := cell_of_row w5 (w.heap.size + 1) 1 _ _ _ hq5
    simp only [List.getElem?_toArray, List.getElem?_cons_zero, List.getElem?_cons_succ] at z0 z1
    refine ⟨.agg #[.int .i64 d, .int .i64 ((0 + S.items.length : Nat) : Int)], ?_, ?_, .inr (.inl ⟨rfl, d, HO.out, rfl, (hf5.block vb (Nat.lt_of_lt_of_le hlv HW4.out.size) (by show ¬ vb = w.heap.size + 1; omega)).trans HE2.out⟩)⟩
    · simp [results, Tryz.results49, go_sem, z0, z1]
    · exact ⟨hf5.os.trans HW4.out.os, hf5.tape.trans HW4.out.tape, hf5.output.trans HW4.out.output, Nat.le_trans HW4.out.size hf5.size, fun j hj hn => (hf5.block j (Nat.lt_of_lt_of_le hj HW4.out.size) (by show ¬ j = w.heap.size + 1; omega)).trans (HW4.out.block j hj hn)⟩
  | ok v4 =>
    obtain ⟨rfl, la, lc, hb4, hs4⟩ := hE
    have z0 := cell_of_row X4 (w.heap.size + 1) 0 _ _ _ hq4
    have z1 := cell_of_row X4 (w.heap.size + 1) 1 _ _ _ hq4
    simp only [List.getElem?_toArray, List.getElem?_cons_zero, List.getElem?_cons_succ] at z0 z1
    have zf : ∀ i, X4.frozen? ⟨w.heap.size + 1, i, none⟩ = false := fun i => frozen_of_row X4 _ i _ _ hq4
    have HB4 := hide hb4
    have HS4 := hide hs4
    clear CM hb4 hs4 hq4
    go_wp2_with fail
    refine leaves_cons (f := 101) (args := #[.pointer (some ⟨w.heap.size + 1, 0, none⟩)]) (by simp) (by simp [go_sem]) ?_
    refine (catch_idle _ _).mono ?_
    rintro e u' w5 ⟨rfl, rfl, rfl⟩
    have hoth : ∀ j, j ≠ w.heap.size + 1 → ((X4.setCell ⟨w.heap.size + 1, 0, none⟩ (.int .i64 0)).setCell ⟨w.heap.size + 1, 1, none⟩ (.int .i64 ((S.items.length : Nat) : Int))).heap[j]? = X4.heap[j]? := fun j hj => by
      rw [heap_setCell_other _ _ j _ (by exact hj), heap_setCell_other _ _ j _ (by exact hj)]
    refine ⟨.agg #[.int .i64 0, .int .i64 ((0 + S.items.length : Nat) : Int)], ?_, ?_, .inr (.inr ⟨rfl, v4, HO.out, rfl, la, lc, (hoth vb (by omega)).trans HB4.out, owns_down' (owns_keep HS4.out fun j hj => hoth j (by have := (HS4.out.lt j hj).1; omega)) (by omega)⟩)⟩
    · have hq4 := loc_set (i := 1) (v := .int .i64 ((S.items.length : Nat) : Int)) (loc_set (i := 0) (v := .int .i64 0) HQ4.out)
      simp only [List.setIfInBounds_toArray, List.set_cons_zero, List.set_cons_succ] at hq4
      have k0 := cell_of_row _ (w.heap.size + 1) 0 _ _ _ hq4
      have k1 := cell_of_row _ (w.heap.size + 1) 1 _ _ _ hq4
      simp only [List.getElem?_toArray, List.getElem?_cons_zero, List.getElem?_cons_succ] at k0 k1
      simp [results, Tryz.results49, go_sem, k0, k1]
    · exact ⟨HW4.out.os, HW4.out.tape, HW4.out.output, by have := HW4.out.size; simp; omega, fun j hj hn => (hoth j (by omega)).trans (HW4.out.block j hj hn)⟩
end
end Go.Proofs.YtfnobccminhjpaaGreat
/- Literal: a ground one told to the caller. -/
namespace Go.Proofs.YtfnobccminhjpaaGreat
open Go.RowKit Go.Shelf Go.Maps Go.WideMaps

section
variable {S : StatM} {st : St9} {w w' : World}
/-- What Literal answers. -/
def Et (S : StatM) (l : LitM) (w : World) (c : Int) (o : Er (List Nat)) (e : Ending) (w' : World) : Prop := Below w.heap.size w w' ∧
  ((c ≠ 0 ∧ e = .returned (.tuple #[.agg #[.bool false, .int .i64 0, .slice none 0 0, .int .i64 0, .int .i64 0], .int .i64 c])) ∨ (c = 0 ∧ ∃ d, o = .error d ∧ e = .returned (.tuple #[.agg #[.bool false, .int .i64 0, .slice none 0 0, .int .i64 0, .int .i64 0], .int .i64 d])) ∨
    (c = 0 ∧ ∃ ms v, o = .ok ms ∧ e = .returned (.tuple #[v, .int .i64 0]) ∧ rL S l w.heap.size w' ms v))
theorem lit_box {w : World} {q : Nat} {y0 y1 y2 y3 y4 : Value} {T : Nat} (h : w.heap[q]? = some (.cells #[y0, y1, y2, y3, y4] T (0, 0))) : w.cell? ⟨q, 0, none⟩ = some y0 ∧ w.cell? ⟨q, 1, none⟩ = some y1 ∧ w.cell? ⟨q, 2, none⟩ = some y2 ∧ w.cell? ⟨q, 3, none⟩ = some y3 ∧ w.cell? ⟨q, 4, none⟩ = some y4 :=
  ⟨cell_of_row w q 0 _ _ _ h, cell_of_row w q 1 _ _ _ h, cell_of_row w q 2 _ _ _ h, cell_of_row w q 3 _ _ _ h, cell_of_row w q 4 _ _ _ h⟩
set_option maxRecDepth 100000 in
set_option maxHeartbeats 6400000 in
theorem literal_any (h : SR w.heap.size w S st) (l : LitM) {aa : Option Addr} {ac : Nat} (hpr : l.pred.length ≤ maxLen) (hll : Strs w.heap.size w l.args (.slice aa l.args.length ac)) : Calls Tryz.prog 36 #[st.agg, .agg (litV l aa ac)] w fun e w' => Et S l w (checkM S).1 (literalGM S.ctx l) e w' := by
  obtain ⟨tt, ht⟩ := h.title
  obtain ⟨a1, b1, f1, _, _⟩ := h.kinds.form
  obtain ⟨a2, b2, f2, _, _⟩ := h.members.form
  obtain ⟨a3, b3, f3, _, _⟩ := h.preds.form
  obtain ⟨a4, b4, f4, _, _⟩ := h.classes.form
  obtain ⟨a5, b5, f5, _, _⟩ := h.sources.form
  obtain ⟨a6, b6, f6, _, _⟩ := h.rules.form
  obtain ⟨a7, b7, f7, _, _⟩ := h.excepts.form
  obtain ⟨a8, b8, f8, _, _⟩ := h.totals.form
  obtain ⟨s0, s1, s2, s3, s4, s5, s6, s7, s8⟩ := st
  simp only at ht f1 f2 f3 f4 f5 f6 f7 f8
  subst ht f1 f2 f3 f4 f5 f6 f7 f8
  have hmf : ∀ (fn : Fn) (first cap : Array Value) (w : World), (Instr.makeFunc fn first cap).run Tryz.prog w = .ok (.func fn first cap) w := fun _ _ _ _ => rfl
  obtain ⟨X, hX⟩ : ∃ X, X = (w.alloc (.cells #[.string tt, .slice a1 S.kinds.length b1, .slice a2 S.members.length b2, .slice a3 S.preds.length b3, .slice a4 S.classes.length b4, .slice a5 S.sources.length b5, .slice a6 S.rules.length b6, .slice a7 S.excepts.length b7, .slice a8 S.totals.length b8] 31)) := ⟨_, rfl⟩
  have hXs : X.heap.size = w.heap.size + 1 := by rw [hX]; simp
  have hXb : Below w.heap.size w X := by rw [hX]; exact (Below.refl _ w).alloc (Nat.le_refl _) _
  obtain ⟨Y, hY⟩ : ∃ Y, Y = (X.alloc (.cells (litV l aa ac) 59)) := ⟨_, rfl⟩
  have hYs : Y.heap.size = w.heap.size + 2 := by rw [hY]; simp [hXs]
  have hY1 : Y.heap[w.heap.size + 1]? = some (.cells (litV l aa ac) 59 (0, 0)) := by rw [hY, ← hXs]; exact heap_alloc_new X _
  have hYb : Below w.heap.size w Y := by rw [hY]; exact hXb.alloc (by omega) _
  obtain ⟨U, hU⟩ : ∃ U, U = (Y.alloc zl) := ⟨_, rfl⟩
  have hUs : U.heap.size = w.heap.size + 3 := by rw [hU]; simp [hYs]
  have hU1 : U.heap[w.heap.size + 1]? = Y.heap[w.heap.size + 1]? := by rw [hU]; exact Below.heap_alloc _ _ _ (by omega)
  have hU2 : U.heap[w.heap.size + 2]? = some zl := by rw [hU, ← hYs]; exact heap_alloc_new Y _
  have hUb : Below w.heap.size w U := by rw [hU]; exact hYb.alloc (by omega) _
  obtain ⟨T, hT⟩ : ∃ T, T = (U.alloc zl) := ⟨_, rfl⟩
  have hTs : T.heap.size = w.heap.size + 4 := by rw [hT]; simp [hUs]
  have hT1 : T.heap[w.heap.size + 1]? = U.heap[w.heap.size + 1]? := by rw [hT]; exact Below.heap_alloc _ _ _ (by omega)
  have hT2 : T.heap[w.heap.size + 2]? = U.heap[w.heap.size + 2]? := by rw [hT]; exact Below.heap_alloc _ _ _ (by omega)
  have hT3 : T.heap[w.heap.size + 3]? = some zl := by rw [hT, ← hUs]; exact heap_alloc_new U _
  have hTb : Below w.heap.size w T := by rw [hT]; exact hUb.alloc (by omega) _
  have CF := hide (firstL_any (SR.mono (N' := T.heap.size) (by omega) (h.keep fun g hg => hTb.block g hg)) l (tb := w.heap.size + 1) (vb := w.heap.size + 3) (aa := aa) (ac := ac) (hT1.trans (hU1.trans hY1)) hpr (Strs.mono hTb.size (hll.keep fun g hg => hTb.block g hg)) hT3)
  have HTB := hide hTb
  have HTS := hide hTs
  have HT2 := hide (hT2.trans hU2)
  unfold St9.agg at *
  simp only [litV] at *
  generalize (checkM S).1 = c0 at *
  generalize (checkM S).2 = n0 at *
  generalize literalGM S.ctx l = o at *
  clear h hTb hTs hUb hUs hXb hYb hY1 hU1 hU2 hT1 hT2 hT3 hXs hYs hll
  subst hX
  subst hY
  subst hU
  subst hT
  go_enter Tryz.func36, Tryz.ntmps36
  go_wp2_with fail
  refine CF.out.mono ?_
  rintro e w1 ⟨hf, hE⟩
  have HB := hide (HTB.out.trans (hf.below (n := w.heap.size) fun j hj => ⟨by have := HTS.out; omega, by show ¬ j = w.heap.size + 3; omega⟩))
  have HS1 : w.heap.size + 4 ≤ w1.heap.size := by have := hf.size; have := HTS.out; omega
  have hr2 := (hf.block (w.heap.size + 2) (loc_lt HT2.out) (by show ¬ w.heap.size + 2 = w.heap.size + 3; omega)).trans HT2.out
  have HZ0 := hide HTS.out
  clear hf CF HTB HTS hmf
  have HR2 := hide hr2
  rcases hE with ⟨hc, rfl, hv⟩ | ⟨hc, d, ho, rfl, hv⟩ | ⟨hc, ms, ho, rfl, la, lc, hv, hrow⟩
  · have hA1 : Below w1.heap.size w1 (w1.alloc (.cells #[.int .i64 c0, .int .i64 n0] 85)) := (Below.refl _ w1).alloc (Nat.le_refl _) _
    obtain ⟨v0, v1, v2, v3, v4⟩ := lit_box ((hA1.block _ (loc_lt hv)).trans hv)
    have hr3 : (w1.alloc (.cells #[.int .i64 c0, .int .i64 n0] 85)).heap[w.heap.size + 1 + 1]? = some zl := (hA1.block _ (loc_lt hr2)).trans hr2
    obtain ⟨r0, r1, r2, r3, r4⟩ := lit_box hr3
    have rf := fun i => frozen_of_row _ _ i _ _ hr3
    have HZ := hide (five_set (W := (w1.alloc (.cells #[.int .i64 c0, .int .i64 n0] 85))) (v0 := (.bool false)) (v1 := (.int .i64 0)) (v2 := (.slice none 0 0)) (v3 := (.int .i64 0)) (v4 := (.int .i64 0)) hr3 _ rfl)
    have HB2 := hide (HB.out.trans (hA1.mono HB.out.size))
    have HE := hide ((((((HB2.out.setCell (p := ⟨w.heap.size + 1 + 1, 0, none⟩) (by show w.heap.size ≤ w.heap.size + 1 + 1; omega) (.bool false)).setCell (p := ⟨w.heap.size + 1 + 1, 1, none⟩) (by show w.heap.size ≤ w.heap.size + 1 + 1; omega) (.int .i64 0)).setCell (p := ⟨w.heap.size + 1 + 1, 2, none⟩) (by show w.heap.size ≤ w.heap.size + 1 + 1; omega) (.slice none 0 0)).setCell (p := ⟨w.heap.size + 1 + 1, 3, none⟩) (by show w.heap.size ≤ w.heap.size + 1 + 1; omega) (.int .i64 0)).setCell (p := ⟨w.heap.size + 1 + 1, 4, none⟩) (by show w.heap.size ≤ w.heap.size + 1 + 1; omega) (.int .i64 0)))
    go_wp2_with fail
    go_region
    clear v0 v1 v2 v3 v4 r0 r1 r2 r3 r4 rf hr3 hA1
    generalize ((((((w1.alloc (.cells #[.int .i64 c0, .int .i64 n0] 85)).setCell ⟨w.heap.size + 1 + 1, 0, none⟩ (.bool false)).setCell ⟨w.heap.size + 1 + 1, 1, none⟩ (.int .i64 0)).setCell ⟨w.heap.size + 1 + 1, 2, none⟩ (.slice none 0 0)).setCell ⟨w.heap.size + 1 + 1, 3, none⟩ (.int .i64 0)).setCell ⟨w.heap.size + 1 + 1, 4, none⟩ (.int .i64 0)) = Y at *
    go_wp2_with fail
    obtain ⟨z0, z1, z2, z3, z4⟩ := HZ.out
    simp [bodyPost, results, Tryz.results36, go_sem, z0, z1, z2, z3, z4]
    exact ⟨HE.out.trans ((Lk.of (w := Y)).below.mono HE.out.size), .inl ⟨hc, rfl⟩⟩
  · have hA1 : Below w1.heap.size w1 (w1.alloc (.cells #[.int .i64 d, .int .i64 n0] 85)) := (Below.refl _ w1).alloc (Nat.le_refl _) _
    obtain ⟨v0, v1, v2, v3, v4⟩ := lit_box ((hA1.block _ (loc_lt hv)).trans hv)
    have hr3 : (w1.alloc (.cells #[.int .i64 d, .int .i64 n0] 85)).heap[w.heap.size + 1 + 1]? = some zl := (hA1.block _ (loc_lt hr2)).trans hr2
    obtain ⟨r0, r1, r2, r3, r4⟩ := lit_box hr3
    have rf := fun i => frozen_of_row _ _ i _ _ hr3
    have HZ := hide (five_set (W := (w1.alloc (.cells #[.int .i64 d, .int .i64 n0] 85))) (v0 := (.bool false)) (v1 := (.int .i64 0)) (v2 := (.slice none 0 0)) (v3 := (.int .i64 0)) (v4 := (.int .i64 0)) hr3 _ rfl)
    have HB2 := hide (HB.out.trans (hA1.mono HB.out.size))
    have HE := hide ((((((HB2.out.setCell (p := ⟨w.heap.size + 1 + 1, 0, none⟩) (by show w.heap.size ≤ w.heap.size + 1 + 1; omega) (.bool false)).setCell (p := ⟨w.heap.size + 1 + 1, 1, none⟩) (by show w.heap.size ≤ w.heap.size + 1 + 1; omega) (.int .i64 0)).setCell (p := ⟨w.heap.size + 1 + 1, 2, none⟩) (by show w.heap.size ≤ w.heap.size + 1 + 1; omega) (.slice none 0 0)).setCell (p := ⟨w.heap.size + 1 + 1, 3, none⟩) (by show w.heap.size ≤ w.heap.size + 1 + 1; omega) (.int .i64 0)).setCell (p := ⟨w.heap.size + 1 + 1, 4, none⟩) (by show w.heap.size ≤ w.heap.size + 1 + 1; omega) (.int .i64 0)))
    go_wp2_with fail
    go_region
    clear v0 v1 v2 v3 v4 r0 r1 r2 r3 r4 rf hr3 hA1
    generalize ((((((w1.alloc (.cells #[.int .i64 d, .int .i64 n0] 85)).setCell ⟨w.heap.size + 1 + 1, 0, none⟩ (.bool false)).setCell ⟨w.heap.size + 1 + 1, 1, none⟩ (.int .i64 0)).setCell ⟨w.heap.size + 1 + 1, 2, none⟩ (.slice none 0 0)).setCell ⟨w.heap.size + 1 + 1, 3, none⟩ (.int .i64 0)).setCell ⟨w.heap.size + 1 + 1, 4, none⟩ (.int .i64 0)) = Y at *
    go_wp2_with fail
    obtain ⟨z0, z1, z2, z3, z4⟩ := HZ.out
    simp [bodyPost, results, Tryz.results36, go_sem, z0, z1, z2, z3, z4]
    exact ⟨HE.out.trans ((Lk.of (w := Y)).below.mono HE.out.size), .inr (.inl ⟨hc, d, ho, rfl⟩)⟩
  · have hA1 : Below w1.heap.size w1 (w1.alloc (.cells #[.int .i64 0, .int .i64 n0] 85)) := (Below.refl _ w1).alloc (Nat.le_refl _) _
    obtain ⟨v0, v1, v2, v3, v4⟩ := lit_box ((hA1.block _ (loc_lt hv)).trans hv)
    have hr3 : (w1.alloc (.cells #[.int .i64 0, .int .i64 n0] 85)).heap[w.heap.size + 1 + 1]? = some zl := (hA1.block _ (loc_lt hr2)).trans hr2
    obtain ⟨r0, r1, r2, r3, r4⟩ := lit_box hr3
    have rf := fun i => frozen_of_row _ _ i _ _ hr3
    have HZ := hide (five_set (W := (w1.alloc (.cells #[.int .i64 0, .int .i64 n0] 85))) (v0 := (.bool l.neg)) (v1 := (.int .i64 (posB S.ctx.names l.pred))) (v2 := (.slice la ms.length lc)) (v3 := (.int .i64 l.value)) (v4 := (.int .i64 0)) hr3 _ rfl)
    have HB2 := hide (HB.out.trans (hA1.mono HB.out.size))
    have HE := hide ((((((HB2.out.setCell (p := ⟨w.heap.size + 1 + 1, 0, none⟩) (by show w.heap.size ≤ w.heap.size + 1 + 1; omega) (.bool l.neg)).setCell (p := ⟨w.heap.size + 1 + 1, 1, none⟩) (by show w.heap.size ≤ w.heap.size + 1 + 1; omega) (.int .i64 (posB S.ctx.names l.pred))).setCell (p := ⟨w.heap.size + 1 + 1, 2, none⟩) (by show w.heap.size ≤ w.heap.size + 1 + 1; omega) (.slice la ms.length lc)).setCell (p := ⟨w.heap.size + 1 + 1, 3, none⟩) (by show w.heap.size ≤ w.heap.size + 1 + 1; omega) (.int .i64 l.value)).setCell (p := ⟨w.heap.size + 1 + 1, 4, none⟩) (by show w.heap.size ≤ w.heap.size + 1 + 1; omega) (.int .i64 0)))
    have HROW : Hid (((((((w1.alloc (.cells #[.int .i64 0, .int .i64 n0] 85)).setCell ⟨w.heap.size + 1 + 1, 0, none⟩ (.bool l.neg)).setCell ⟨w.heap.size + 1 + 1, 1, none⟩ (.int .i64 (posB S.ctx.names l.pred))).setCell ⟨w.heap.size + 1 + 1, 2, none⟩ (.slice la ms.length lc)).setCell ⟨w.heap.size + 1 + 1, 3, none⟩ (.int .i64 l.value)).setCell ⟨w.heap.size + 1 + 1, 4, none⟩ (.int .i64 0)).ownsRow w.heap.size 3 1 (.slice la ms.length lc) ms.length (nats ms)) := by
      refine hide (owns_down' (b := w.heap.size + 4) (owns_keep (owns_down' hrow (by have := HZ0.out; omega)) fun g hg => ?_) (by omega))
      have h4 := (hrow.lt g hg)
      have hgb : g ≠ w.heap.size + 1 + 1 := by have := h4.1; have := HZ0.out; omega
      rw [heap_setCell_other _ _ g _ hgb, heap_setCell_other _ _ g _ hgb, heap_setCell_other _ _ g _ hgb, heap_setCell_other _ _ g _ hgb, heap_setCell_other _ _ g _ hgb]
      exact hA1.block g h4.2
    clear hrow
    go_wp2_with fail
    go_region
    clear v0 v1 v2 v3 v4 r0 r1 r2 r3 r4 rf hr3 hA1
    generalize ((((((w1.alloc (.cells #[.int .i64 0, .int .i64 n0] 85)).setCell ⟨w.heap.size + 1 + 1, 0, none⟩ (.bool l.neg)).setCell ⟨w.heap.size + 1 + 1, 1, none⟩ (.int .i64 (posB S.ctx.names l.pred))).setCell ⟨w.heap.size + 1 + 1, 2, none⟩ (.slice la ms.length lc)).setCell ⟨w.heap.size + 1 + 1, 3, none⟩ (.int .i64 l.value)).setCell ⟨w.heap.size + 1 + 1, 4, none⟩ (.int .i64 0)) = Y at *
    go_wp2_with fail
    obtain ⟨z0, z1, z2, z3, z4⟩ := HZ.out
    simp [bodyPost, results, Tryz.results36, go_sem, z0, z1, z2, z3, z4]
    exact ⟨HE.out.trans ((Lk.of (w := Y)).below.mono HE.out.size), .inr (.inr ⟨hc, ms, _, ho, rfl, la, lc, rfl, owns_keep HROW.out fun _ _ => rfl⟩)⟩
end
end Go.Proofs.YtfnobccminhjpaaGreat
