/- The first fault, a rule's variables asked besides. -/
import Derived.Test.YtfnobccminhjpaaGreatVars8
namespace Go.Proofs.YtfnobccminhjpaaGreat
open Go.RowKit Go.Shelf Go.Maps Go.WideMaps
section
variable {S : StatM} {st : St9} {w w' : World}
/-- How the first fault is told when a rule's variables are asked besides. -/
def Ew (vb : Nat) (w : World) (c : Int) (n : Nat) (o : Er Scope) (e : Ending) (w' : World) : Prop := Fr (fun k => k = vb) w w' ∧ ((c ≠ 0 ∧ e = .returned (.agg #[.int .i64 c, .int .i64 n])) ∨ (c = 0 ∧ ∃ d, o = .error d ∧ e = .returned (.agg #[.int .i64 d, .int .i64 n])) ∨ (c = 0 ∧ ∃ v Z V M nv kv, o = .ok v ∧ e = .returned (.agg #[.int .i64 0, .int .i64 n]) ∧ w'.heap[vb]? = some (.cells #[ptr V] 90 (0, 0)) ∧ Scp Z V M nv kv v w' ∧ ∀ k, Z k → w.heap.size ≤ k))
set_option maxRecDepth 100000 in
set_option maxHeartbeats 12800000 in
theorem firstV_any (h : SR w.heap.size w S st) (k : Int) {kb sb vb : Nat} {y : Value} (hkk : w.cell? ⟨kb, 0, none⟩ = some (.int .i64 k)) (hss : w.cell? ⟨sb, 6, none⟩ = some st.rules) (hvv : w.heap[vb]? = some (.cells #[y] 90 (0, 0))) : Calls Tryz.prog 49 #[st.agg, .func (.func 52) #[] #[ptr kb, ptr sb, ptr vb]] w fun e w' => Ew vb w (checkM S).1 (checkM S).2 (varsM S k) e w' := by
  obtain ⟨c0, n0, hck⟩ : ∃ c n, checkM S = (c, n) := ⟨_, _, rfl⟩
  rw [hck]
  have HCK := hide hck
  have HKK := hide hkk
  have HVV := hide hvv
  have hlk := World.block_lt_of_cell? w _ hkk
  have hls := World.block_lt_of_cell? w _ hss
  have hlv := loc_lt hvv
  simp only at hlk hls
  clear hck
  obtain ⟨tt, ht⟩ := h.title
  obtain ⟨a1, b1, f1, _, l1⟩ := h.kinds.form
  obtain ⟨a2, b2, f2, _, l2⟩ := h.members.form
  obtain ⟨a3, b3, f3, _, l3⟩ := h.preds.form
  obtain ⟨a4, b4, f4, _, l4⟩ := h.classes.form
  obtain ⟨a5, b5, f5, _, l5⟩ := h.sources.form
  obtain ⟨a6, b6, f6, _, l6⟩ := h.rules.form
  obtain ⟨a7, b7, f7, _, l7⟩ := h.excepts.form
  obtain ⟨a8, b8, f8, _, l8⟩ := h.totals.form
  obtain ⟨s0, s1, s2, s3, s4, s5, s6, s7, s8⟩ := st
  simp only at ht f1 f2 f3 f4 f5 f6 f7 f8
  simp only at hss
  subst ht f1 f2 f3 f4 f5 f6 f7 f8
  have HSS := hide hss
  clear hkk hvv hss
  have hmf : ∀ (fn : Fn) (first cap : Array Value) (w : World), (Instr.makeFunc fn first cap).run Tryz.prog w = .ok (.func fn first cap) w := fun _ _ _ _ => rfl
  have hA : Below w.heap.size w (((w.alloc (.cells #[.string tt, .slice a1 S.kinds.length b1, .slice a2 S.members.length b2, .slice a3 S.preds.length b3, .slice a4 S.classes.length b4, .slice a5 S.sources.length b5, .slice a6 S.rules.length b6, .slice a7 S.excepts.length b7, .slice a8 S.totals.length b8] 31)).alloc (.cells #[.int .i64 0, .int .i64 0] 85)).alloc (.cells #[.string tt, .slice a1 S.kinds.length b1, .slice a2 S.members.length b2, .slice a3 S.preds.length b3, .slice a4 S.classes.length b4, .slice a5 S.sources.length b5, .slice a6 S.rules.length b6, .slice a7 S.excepts.length b7, .slice a8 S.totals.length b8, .int .i64 0, .map none, .map none, .map none, .map none, .map none, .map none, .map none, .map none] 165)) := (((Below.refl _ w).alloc (Nat.le_refl _) _).alloc (by simp) _).alloc (by simp; omega) _
  have hRaw : Raw (w.heap.size + 1 + 1) S ⟨.string tt, .slice a1 S.kinds.length b1, .slice a2 S.members.length b2, .slice a3 S.preds.length b3, .slice a4 S.classes.length b4, .slice a5 S.sources.length b5, .slice a6 S.rules.length b6, .slice a7 S.excepts.length b7, .slice a8 S.totals.length b8⟩ (((w.alloc (.cells #[.string tt, .slice a1 S.kinds.length b1, .slice a2 S.members.length b2, .slice a3 S.preds.length b3, .slice a4 S.classes.length b4, .slice a5 S.sources.length b5, .slice a6 S.rules.length b6, .slice a7 S.excepts.length b7, .slice a8 S.totals.length b8] 31)).alloc (.cells #[.int .i64 0, .int .i64 0] 85)).alloc (.cells #[.string tt, .slice a1 S.kinds.length b1, .slice a2 S.members.length b2, .slice a3 S.preds.length b3, .slice a4 S.classes.length b4, .slice a5 S.sources.length b5, .slice a6 S.rules.length b6, .slice a7 S.excepts.length b7, .slice a8 S.totals.length b8, .int .i64 0, .map none, .map none, .map none, .map none, .map none, .map none, .map none, .map none] 165)) := by
    refine ⟨?_, SR.mono (by omega) (h.keep fun g hg => hA.block g hg)⟩
    have := heap_alloc_new ((w.alloc (.cells #[.string tt, .slice a1 S.kinds.length b1, .slice a2 S.members.length b2, .slice a3 S.preds.length b3, .slice a4 S.classes.length b4, .slice a5 S.sources.length b5, .slice a6 S.rules.length b6, .slice a7 S.excepts.length b7, .slice a8 S.totals.length b8] 31)).alloc (.cells #[.int .i64 0, .int .i64 0] 85)) (.cells #[.string tt, .slice a1 S.kinds.length b1, .slice a2 S.members.length b2, .slice a3 S.preds.length b3, .slice a4 S.classes.length b4, .slice a5 S.sources.length b5, .slice a6 S.rules.length b6, .slice a7 S.excepts.length b7, .slice a8 S.totals.length b8, .int .i64 0, .map none, .map none, .map none, .map none, .map none, .map none, .map none, .map none] 165)
    simpa using this
  have hq : (((w.alloc (.cells #[.string tt, .slice a1 S.kinds.length b1, .slice a2 S.members.length b2, .slice a3 S.preds.length b3, .slice a4 S.classes.length b4, .slice a5 S.sources.length b5, .slice a6 S.rules.length b6, .slice a7 S.excepts.length b7, .slice a8 S.totals.length b8] 31)).alloc (.cells #[.int .i64 0, .int .i64 0] 85)).alloc (.cells #[.string tt, .slice a1 S.kinds.length b1, .slice a2 S.members.length b2, .slice a3 S.preds.length b3, .slice a4 S.classes.length b4, .slice a5 S.sources.length b5, .slice a6 S.rules.length b6, .slice a7 S.excepts.length b7, .slice a8 S.totals.length b8, .int .i64 0, .map none, .map none, .map none, .map none, .map none, .map none, .map none, .map none] 165)).heap[w.heap.size + 1]? = some (.cells #[.int .i64 0, .int .i64 0] 85 (0, 0)) := by
    have := heap_alloc_new (w.alloc (.cells #[.string tt, .slice a1 S.kinds.length b1, .slice a2 S.members.length b2, .slice a3 S.preds.length b3, .slice a4 S.classes.length b4, .slice a5 S.sources.length b5, .slice a6 S.rules.length b6, .slice a7 S.excepts.length b7, .slice a8 S.totals.length b8] 31)) (.cells #[.int .i64 0, .int .i64 0] 85)
    rw [Below.heap_alloc _ _ _ (by simp)]
    simpa using this
  have CC := hide (counts_any hRaw)
  have HRaw := hide hRaw
  have HQ := hide hq
  have HA := hide hA
  clear h hRaw hq hA
  unfold St9.agg
  simp only
  go_enter_defers Tryz.func49, Tryz.ntmps49
  go_wp2_with fail
  refine CC.out.mono ?_
  intro e X1 hE
  cases hfit : S.fitsB with
  | false =>
    have hck : (c0, n0) = ((3 : Int), 0) := by rw [← HCK.out]; unfold checkM; rw [hfit]; rfl
    cases hck
    rcases hE.no with ⟨c1, h3, rfl, hf⟩ | ⟨_, v, h3, rfl, hrv, hf⟩
    · rw [counts_not hfit] at h3
      cases h3
      have HQ1 := hide ((hf.block _ (loc_lt HQ.out)).trans HQ.out)
      have HB1 := hide (HA.out.trans (hf.mono HA.out.size))
      clear hE hf CC HRaw HQ HA
      go_wp2_with fail
      refine leaves_cons (f := 101) (args := #[.pointer (some ⟨w.heap.size + 1, 0, none⟩)]) (by simp) (by simp [go_sem]) ?_
      refine (catch_fault _ _ _ _ _ _ _ HQ1.out).mono ?_
      rintro e u' w5 ⟨rfl, rfl, hq5, hf5⟩
      have z0 := cell_of_row w5 (w.heap.size + 1) 0 _ _ _ hq5
      have z1 := cell_of_row w5 (w.heap.size + 1) 1 _ _ _ hq5
      simp only [List.getElem?_toArray, List.getElem?_cons_zero, List.getElem?_cons_succ] at z0 z1
      have zf : ∀ i, w5.frozen? ⟨w.heap.size + 1, i, none⟩ = false := fun i => frozen_of_row w5 _ i _ _ hq5
      refine ⟨.agg #[.int .i64 (3), .int .i64 (((0 : Nat) : Int))], ?_, (Fr.of_below (HB1.out.trans (hf5.below fun k hk => ⟨Nat.lt_of_lt_of_le hk HB1.out.size, by show ¬ k = w.heap.size + 1; omega⟩))), .inl ⟨by decide, rfl⟩⟩
      simp [results, Tryz.results49, go_sem, z0, z1]
    · rw [counts_not hfit] at h3
      cases h3
  | true =>
  rcases hE.no with ⟨c1, h3, rfl, hf⟩ | ⟨_, v, h3, rfl, hrv, hf⟩
  · rw [counts_fits hfit] at h3
    cases h3
  have HQ1 := hide ((hf.block _ (loc_lt HQ.out)).trans HQ.out)
  have HB1 := hide (HA.out.trans (hf.mono HA.out.size))
  have CN := hide (number_any (HRaw.out.below hf) hfit)
  have hHC : firstE 0 S.items = (c0, n0) := by rw [← HCK.out]; unfold checkM; rw [hfit]; rfl
  have HC := hide hHC
  clear hE hf h3 hrv CC HRaw HQ HA hHC HCK
  go_wp2_with fail
  refine CN.out.mono ?_
  rintro _ X2 ⟨rfl, hf2, mp, hR2⟩
  have HQ2 := hide ((hf2.block _ (loc_lt HQ1.out) (by show ¬ w.heap.size + 1 = w.heap.size + 1 + 1; omega)).trans HQ1.out)
  have HB2 := hide (HB1.out.trans (hf2.below fun k hk => ⟨Nat.lt_of_lt_of_le hk HB1.out.size, by show ¬ k = w.heap.size + 1 + 1; omega⟩))
  have CI := hide (items_any hR2)
  have hne := hR2.ne.2.2.2.2.2.2.2
  clear CN hf2 hR2 HQ1 HB1
  go_wp2_with fail
  refine CI.out.mono ?_
  rintro _ X3 ⟨hf3, ⟨rfl, ha, hr⟩ | ⟨n, c, hbad, rfl⟩⟩
  rotate_left
  · have hcn := HC.out
    rw [firstE_bad hbad 0] at hcn
    cases hcn
    have HQ3 := hide ((hf3.block _ (loc_lt HQ2.out) (by rintro (a | a) <;> omega)).trans HQ2.out)
    have HB3 := hide (HB2.out.trans (hf3.below fun k hk => ⟨Nat.lt_of_lt_of_le hk HB2.out.size, by rintro (a | a) <;> omega⟩))
    have HNZ : c0 ≠ 0 := nz_items S _ (List.mem_of_getElem? hbad.2) c0 rfl
    clear hf3 CI HQ2 HB2 hbad HC
    go_wp2_with fail
    refine leaves_cons (f := 101) (args := #[.pointer (some ⟨w.heap.size + 1, 0, none⟩)]) (by simp) (by simp [go_sem]) ?_
    refine (catch_fault _ _ _ _ _ _ _ HQ3.out).mono ?_
    rintro e u' w5 ⟨rfl, rfl, hq5, hf5⟩
    have z0 := cell_of_row w5 (w.heap.size + 1) 0 _ _ _ hq5
    have z1 := cell_of_row w5 (w.heap.size + 1) 1 _ _ _ hq5
    simp only [List.getElem?_toArray, List.getElem?_cons_zero, List.getElem?_cons_succ] at z0 z1
    have zf : ∀ i, w5.frozen? ⟨w.heap.size + 1, i, none⟩ = false := fun i => frozen_of_row w5 _ i _ _ hq5
    refine ⟨.agg #[.int .i64 c0, .int .i64 (((0 + n : Nat) : Int))], ?_, (Fr.of_below (HB3.out.trans (hf5.below fun k hk => ⟨Nat.lt_of_lt_of_le hk HB3.out.size, by show ¬ k = w.heap.size + 1; omega⟩))), .inl ⟨HNZ, rfl⟩⟩
    simp [results, Tryz.results49, go_sem, z0, z1]
  have hcn := HC.out
  rw [firstE_ok ha 0] at hcn
  cases hcn
  have hq3 := (hf3.block _ (loc_lt HQ2.out) (by rintro (a | a) <;> omega)).trans HQ2.out
  have HB3 := hide (HB2.out.trans (hf3.below fun k hk => ⟨Nat.lt_of_lt_of_le hk HB2.out.size, by rintro (a | a) <;> omega⟩))
  have hsp := items_split.1 ha
  have HV3 := hide ((HB3.out.block vb hlv).trans HVV.out)
  have CM := hide (vars1_any hr (preds_four hsp.1.1.1.1.1.2) (fun t ht => by
    obtain ⟨i, hi, rfl⟩ := List.getElem_of_mem ht
    exact ruleM_sixteen (AllOk.at.1 hsp.1.1.2 i _ (List.getElem?_eq_getElem hi))) k (kb := kb) (sb := sb) (vb := vb) ((World.cell?_of_block (HB3.out.block kb hlk)).trans HKK.out) ((World.cell?_of_block (HB3.out.block sb hls)).trans HSS.out) hr.rep.rules HV3.out)
  have HR3 := hide hr
  have HQ3 := hide hq3
  have hsz3 := HB3.out.size
  have hlq := loc_lt hq3
  have hlr := loc_lt hr.box
  clear hf3 CI HQ2 HB2 HC ha hr hq3 hsp
  go_wp2_with fail
  refine CM.out.mono ?_
  intro e X4 hE
  obtain ⟨o, ho⟩ : ∃ o, varsM S k = o := ⟨_, rfl⟩
  have HO := hide ho
  rw [ho] at hE
  obtain ⟨hf4, hE⟩ := hE
  have HW4 := hide ((Fr.of_below (Z := fun k => k = vb) HB3.out).trans hf4)
  have hq4 := (hf4.block (w.heap.size + 1) hlq (by show ¬ w.heap.size + 1 = vb; omega)).trans HQ3.out
  have HQ4 := hide hq4
  have hbk := hf4.block (w.heap.size + 1 + 1) hlr (by show ¬ w.heap.size + 1 + 1 = vb; omega)
  have r9 := (World.cell?_of_block hbk).trans HR3.out.c9
  have hsz4 := hf4.size
  clear ho hbk hf4
  cases o with
  | error d =>
    have hE' : e = .panicked [fl d ((0 + S.items.length : Nat) : Int)] := hE
    subst hE'
    clear hE CM r9 hq4
    go_wp2_with fail
    refine leaves_cons (f := 101) (args := #[.pointer (some ⟨w.heap.size + 1, 0, none⟩)]) (by simp) (by simp [go_sem]) ?_
    refine (catch_fault _ _ _ _ _ _ _ HQ4.out).mono ?_
    rintro e u' w5 ⟨rfl, rfl, hq5, hf5⟩
    have z0 := cell_of_row w5 (w.heap.size + 1) 0 _ _ _ hq5
    have z1 := cell_of_row w5 (w.heap.size + 1) 1 _ _ _ hq5
    simp only [List.getElem?_toArray, List.getElem?_cons_zero, List.getElem?_cons_succ] at z0 z1
    refine ⟨.agg #[.int .i64 d, .int .i64 ((0 + S.items.length : Nat) : Int)], ?_, ?_, .inr (.inl ⟨rfl, d, HO.out, rfl⟩)⟩
    · simp [results, Tryz.results49, go_sem, z0, z1]
    · exact ⟨hf5.os.trans HW4.out.os, hf5.tape.trans HW4.out.tape, hf5.output.trans HW4.out.output, Nat.le_trans HW4.out.size hf5.size, fun j hj hn => (hf5.block j (Nat.lt_of_lt_of_le hj HW4.out.size) (by show ¬ j = w.heap.size + 1; omega)).trans (HW4.out.block j hj hn)⟩
  | ok v4 =>
    obtain ⟨rfl, Z, V, M, nv, kv, hb4, hs4, hz4⟩ := hE
    have z0 := cell_of_row X4 (w.heap.size + 1) 0 _ _ _ hq4
    have z1 := cell_of_row X4 (w.heap.size + 1) 1 _ _ _ hq4
    simp only [List.getElem?_toArray, List.getElem?_cons_zero, List.getElem?_cons_succ] at z0 z1
    have zf : ∀ i, X4.frozen? ⟨w.heap.size + 1, i, none⟩ = false := fun i => frozen_of_row X4 _ i _ _ hq4
    have HB4 := hide hb4
    have HS4 := hide hs4
    have HZ4 := hide hz4
    clear CM hb4 hs4 hz4 hq4
    go_wp2_with fail
    refine leaves_cons (f := 101) (args := #[.pointer (some ⟨w.heap.size + 1, 0, none⟩)]) (by simp) (by simp [go_sem]) ?_
    refine (catch_idle _ _).mono ?_
    rintro e u' w5 ⟨rfl, rfl, rfl⟩
    have hoth : ∀ j, j ≠ w.heap.size + 1 → ((X4.setCell ⟨w.heap.size + 1, 0, none⟩ (.int .i64 0)).setCell ⟨w.heap.size + 1, 1, none⟩ (.int .i64 ((S.items.length : Nat) : Int))).heap[j]? = X4.heap[j]? := fun j hj => by
      rw [heap_setCell_other _ _ j _ (by exact hj), heap_setCell_other _ _ j _ (by exact hj)]
    refine ⟨.agg #[.int .i64 0, .int .i64 ((0 + S.items.length : Nat) : Int)], ?_, ?_, .inr (.inr ⟨rfl, v4, Z, V, M, nv, kv, HO.out, rfl, (hoth vb (by omega)).trans HB4.out, HS4.out.keep fun j hj _ => hoth j (by have := HZ4.out j hj; omega), fun j hj => by have := HZ4.out j hj; omega⟩)⟩
    · have hq4 := loc_set (i := 1) (v := .int .i64 ((S.items.length : Nat) : Int)) (loc_set (i := 0) (v := .int .i64 0) HQ4.out)
      simp only [List.setIfInBounds_toArray, List.set_cons_zero, List.set_cons_succ] at hq4
      have k0 := cell_of_row _ (w.heap.size + 1) 0 _ _ _ hq4
      have k1 := cell_of_row _ (w.heap.size + 1) 1 _ _ _ hq4
      simp only [List.getElem?_toArray, List.getElem?_cons_zero, List.getElem?_cons_succ] at k0 k1
      simp [results, Tryz.results49, go_sem, k0, k1]
    · exact ⟨HW4.out.os, HW4.out.tape, HW4.out.output, by have := HW4.out.size; simp; omega, fun j hj hn => (hoth j (by omega)).trans (HW4.out.block j hj hn)⟩
end
end Go.Proofs.YtfnobccminhjpaaGreat
