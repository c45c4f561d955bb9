/- The first fault, a rule's variables asked besides. -/
import Derived.Test.YtfnobccminhjpaaGreatRefSp
import Derived.Shelf.LaysM
import Derived.Shelf.Strconv.Clone
import Derived.Test.YtfnobccminhjpaaGreatProg
namespace Go.Proofs.YtfnobccminhjpaaGreat
open Go.RowKit Go.Shelf Go.Maps Go.WideMaps
section
variable {S : StatM} {st : St9} {w w' : World}
/-- How the first fault is told when a rule's variables are asked besides. -/
def Ew (vb : Nat) (w : World) (c : Int) (n : Nat) (o : Er Scope) (e : Ending) (w' : World) : Prop := Fr (fun k => k = vb) w w' ∧ ((c ≠ 0 ∧ e = .returned (.agg #[.int .i64 c, .int .i64 n])) ∨ (c = 0 ∧ ∃ d, o = .error d ∧ e = .returned (.agg #[.int .i64 d, .int .i64 n])) ∨ (c = 0 ∧ ∃ v Z V M nv kv, o = .ok v ∧ e = .returned (.agg #[.int .i64 0, .int .i64 n]) ∧ w'.heap[vb]? = some (.cells #[ptr V] 90 (0, 0)) ∧ Scp Z V M nv kv v w' ∧ ∀ k, Z k → w.heap.size ≤ k))
set_option maxRecDepth 100000 in
set_option maxHeartbeats 12800000 in
theorem firstV_any (h : SR w.heap.size w S st) (k : Int) {kb sb vb : Nat} {y : Value} (hkk : w.cell? ⟨kb, 0, none⟩ = some (.int .i64 k)) (hss : w.cell? ⟨sb, 6, none⟩ = some st.rules) (hvv : w.heap[vb]? = some (.cells #[y] 90 (0, 0))) : Calls Tryz.prog 49 #[st.agg, .func (.func 52) #[] #[ptr kb, ptr sb, ptr vb]] w fun e w' => Ew vb w (checkM S).1 (checkM S).2 (varsM S k) e w' := by
  obtain ⟨c0, n0, hck⟩ : ∃ c n, checkM S = (c, n) := ⟨_, _, rfl⟩
  rw [hck]
  have HCK := hide hck
  have HKK := hide hkk
  have HVV := hide hvv
  have hlk := World.block_lt_of_cell? w _ hkk
  have hls := World.block_lt_of_cell? w _ hss
  have hlv := loc_lt hvv
  simp only at hlk hls
  clear hck
  obtain ⟨tt, ht⟩ := h.title
  obtain ⟨a1, b1, f1, _, l1⟩ := h.kinds.form
  obtain ⟨a2, b2, f2, _, l2⟩ := h.members.form
  obtain ⟨a3, b3, f3, _, l3⟩ := h.preds.form
  obtain ⟨a4, b4, f4, _, l4⟩ := h.classes.form
  obtain ⟨a5, b5, f5, _, l5⟩ := h.sources.form
  obtain ⟨a6, b6, f6, _, l6⟩ := h.rules.form
  obtain ⟨a7, b7, f7, _, l7⟩ := h.excepts.form
  obtain ⟨a8, b8, f8, _, l8⟩ := h.totals.form
  obtain ⟨s0, s1, s2, s3, s4, s5, s6, s7, s8⟩ := st
  simp only at ht f1 f2 f3 f4 f5 f6 f7 f8
  simp only at hss
  subst ht f1 f2 f3 f4 f5 f6 f7 f8
  have HSS := hide hss
  clear hkk hvv hss
  have hmf : ∀ (fn : Fn) (first cap : Array Value) (w : World), (Instr.makeFunc fn first cap).run Tryz.prog w = .ok (.func fn first cap) w := fun _ _ _ _ => rfl
  have hA : Below w.heap.size w (((w.alloc (.cells #[.string tt, .slice a1 S.kinds.length b1, .slice a2 S.members.length b2, .slice a3 S.preds.length b3, .slice a4 S.classes.length b4, .slice a5 S.sources.length b5, .slice a6 S.rules.length b6, .slice a7 S.excepts.length b7, .slice a8 S.totals.length b8] 31)).alloc (.cells #[.int .i64 0, .int .i64 0] 85)).alloc (.cells #[.string tt, .slice a1 S.kinds.length b1, .slice a2 S.members.length b2, .slice a3 S.preds.length b3, .slice a4 S.classes.length b4, .slice a5 S.sources.length b5, .slice a6 S.rules.length b6, .slice a7 S.excepts.length b7, .slice a8 S.totals.length b8, .int .i64 0, .map none, .map none, .map none, .map none, .map none, .map none, .map none, .map none] 165)) := (((Below.refl _ w).alloc (Nat.le_refl _) _).alloc (by simp) _).alloc (by simp; omega) _
  have hRaw : Raw (w.heap.size + 1 + 1) S ⟨.string tt, .slice a1 S.kinds.length b1, .slice a2 S.members.length b2, .slice a3 S.preds.length b3, .slice a4 S.classes.length b4, .slice a5 S.sources.length b5, .slice a6 S.rules.length b6, .slice a7 S.excepts.length b7, .slice a8 S.totals.length b8⟩ (((w.alloc (.cells #[.string tt, .slice a1 S.kinds.length b1, .slice a2 S.members.length b2, .slice a3 S.preds.length b3, .slice a4 S.classes.length b4, .slice a5 S.sources.length b5, .slice a6 S.rules.length b6, .slice a7 S.excepts.length b7, .slice a8 S.totals.length b8] 31)).alloc (.cells #[.int .i64 0, .int .i64 0] 85)).alloc (.cells #[.string tt, .slice a1 S.kinds.length b1, .slice a2 S.members.length b2, .slice a3 S.preds.length b3, .slice a4 S.classes.length b4, .slice a5 S.sources.length b5, .slice a6 S.rules.length b6, .slice a7 S.excepts.length b7, .slice a8 S.totals.length b8, .int .i64 0, .map none, .map none, .map none, .map none, .map none, .map none, .map none, .map none] 165)) := by
    refine ⟨?_, SR.mono (by omega) (h.keep fun g hg => hA.block g hg)⟩
    have := heap_alloc_new ((w.alloc (.cells #[.string tt, .slice a1 S.kinds.length b1, .slice a2 S.members.length b2, .slice a3 S.preds.length b3, .slice a4 S.classes.length b4, .slice a5 S.sources.length b5, .slice a6 S.rules.length b6, .slice a7 S.excepts.length b7, .slice a8 S.totals.length b8] 31)).alloc (.cells #[.int .i64 0, .int .i64 0] 85)) (.cells #[.string tt, .slice a1 S.kinds.length b1, .slice a2 S.members.length b2, .slice a3 S.preds.length b3, .slice a4 S.classes.length b4, .slice a5 S.sources.length b5, .slice a6 S.rules.length b6, .slice a7 S.excepts.length b7, .slice a8 S.totals.length b8, .int .i64 0, .map none, .map none, .map none, .map none, .map none, .map none, .map none, .map none] 165)
    simpa using this
  have hq : (((w.alloc (.cells #[.string tt, .slice a1 S.kinds.length b1, .slice a2 S.members.length b2, .slice a3 S.preds.length b3, .slice a4 S.classes.length b4, .slice a5 S.sources.length b5, .slice a6 S.rules.length b6, .slice a7 S.excepts.length b7, .slice a8 S.totals.length b8] 31)).alloc (.cells #[.int .i64 0, .int .i64 0] 85)).alloc (.cells #[.string tt, .slice a1 S.kinds.length b1, .slice a2 S.members.length b2, .slice a3 S.preds.length b3, .slice a4 S.classes.length b4, .slice a5 S.sources.length b5, .slice a6 S.rules.length b6, .slice a7 S.excepts.length b7, .slice a8 S.totals.length b8, .int .i64 0, .map none, .map none, .map none, .map none, .map none, .map none, .map none, .map none] 165)).heap[w.heap.size + 1]? = some (.cells #[.int .i64 0, .int .i64 0] 85 (0, 0)) := by
    have := heap_alloc_new (w.alloc (.cells #[.string tt, .slice a1 S.kinds.length b1, .slice a2 S.members.length b2, .slice a3 S.preds.length b3, .slice a4 S.classes.length b4, .slice a5 S.sources.length b5, .slice a6 S.rules.length b6, .slice a7 S.excepts.length b7, .slice a8 S.totals.length b8] 31)) (.cells #[.int .i64 0, .int .i64 0] 85)
    rw [Below.heap_alloc _ _ _ (by simp)]
    simpa using this
  have CC := hide (counts_any hRaw)
  have HRaw := hide hRaw
  have HQ := hide hq
  have HA := hide hA
  clear h hRaw hq hA
  unfold St9.agg
  simp only
  go_enter_defers Tryz.func49, Tryz.ntmps49
  go_wp2_with fail
  refine CC.out.mono ?_
  intro e X1 hE
  cases hfit : S.fitsB with
  | false =>
    have hck : (c0, n0) = ((3 : Int), 0) := by rw [← HCK.out]; unfold checkM; rw [hfit]; rfl
    cases hck
    rcases hE.no with ⟨c1, h3, rfl, hf⟩ | ⟨_, v, h3, rfl, hrv, hf⟩
    · rw [counts_not hfit] at h3
      cases h3
      have HQ1 := hide ((hf.block _ (loc_lt HQ.out)).trans HQ.out)
      have HB1 := hide (HA.out.trans (hf.mono HA.out.size))
      clear hE hf CC HRaw HQ HA
      go_wp2_with fail
      refine leaves_cons (f := 101) (args := #[.pointer (some ⟨w.heap.size + 1, 0, none⟩)]) (by simp) (by simp [go_sem]) ?_
      refine (catch_fault _ _ _ _ _ _ _ HQ1.out).mono ?_
      rintro e u' w5 ⟨rfl, rfl, hq5, hf5⟩
      have z0 := cell_of_row w5 (w.heap.size + 1) 0 _ _ _ hq5
      have z1 := cell_of_row w5 (w.heap.size + 1) 1 _ _ _ hq5
      simp only [List.getElem?_toArray, List.getElem?_cons_zero, List.getElem?_cons_succ] at z0 z1
      have zf : ∀ i, w5.frozen? ⟨w.heap.size + 1, i, none⟩ = false := fun i => frozen_of_row w5 _ i _ _ hq5
      refine ⟨.agg #[.int .i64 (3), .int .i64 (((0 : Nat) : Int))], ?_, (Fr.of_below (HB1.out.trans (hf5.below fun k hk => ⟨Nat.lt_of_lt_of_le hk HB1.out.size, by show ¬ k = w.heap.size + 1; omega⟩))), .inl ⟨by decide, rfl⟩⟩
      simp [results, Tryz.results49, go_sem, z0, z1]
    · rw [counts_not hfit] at h3
      cases h3
  | true =>
  rcases hE.no with ⟨c1, h3, rfl, hf⟩ | ⟨_, v, h3, rfl, hrv, hf⟩
  · rw [counts_fits hfit] at h3
    cases h3
  have HQ1 := hide ((hf.block _ (loc_lt HQ.out)).trans HQ.out)
  have HB1 := hide (HA.out.trans (hf.mono HA.out.size))
  have CN := hide (number_any (HRaw.out.below hf) hfit)
  have hHC : firstE 0 S.items = (c0, n0) := by rw [← HCK.out]; unfold checkM; rw [hfit]; rfl
  have HC := hide hHC
  clear hE hf h3 hrv CC HRaw HQ HA hHC HCK
  go_wp2_with fail
  refine CN.out.mono ?_
  rintro _ X2 ⟨rfl, hf2, mp, hR2⟩
  have HQ2 := hide ((hf2.block _ (loc_lt HQ1.out) (by show ¬ w.heap.size + 1 = w.heap.size + 1 + 1; omega)).trans HQ1.out)
  have HB2 := hide (HB1.out.trans (hf2.below fun k hk => ⟨Nat.lt_of_lt_of_le hk HB1.out.size, by show ¬ k = w.heap.size + 1 + 1; omega⟩))
  have CI := hide (items_any hR2)
  have hne := hR2.ne.2.2.2.2.2.2.2
  clear CN hf2 hR2 HQ1 HB1
  go_wp2_with fail
  refine CI.out.mono ?_
  rintro _ X3 ⟨hf3, ⟨rfl, ha, hr⟩ | ⟨n, c, hbad, rfl⟩⟩
  rotate_left
  · have hcn := HC.out
    rw [firstE_bad hbad 0] at hcn
    cases hcn
    have HQ3 := hide ((hf3.block _ (loc_lt HQ2.out) (by rintro (a | a) <;> omega)).trans HQ2.out)
    have HB3 := hide (HB2.out.trans (hf3.below fun k hk => ⟨Nat.lt_of_lt_of_le hk HB2.out.size, by rintro (a | a) <;> omega⟩))
    have HNZ : c0 ≠ 0 := nz_items S _ (List.mem_of_getElem? hbad.2) c0 rfl
    clear hf3 CI HQ2 HB2 hbad HC
    go_wp2_with fail
    refine leaves_cons (f := 101) (args := #[.pointer (some ⟨w.heap.size + 1, 0, none⟩)]) (by simp) (by simp [go_sem]) ?_
    refine (catch_fault _ _ _ _ _ _ _ HQ3.out).mono ?_
    rintro e u' w5 ⟨rfl, rfl, hq5, hf5⟩
    have z0 := cell_of_row w5 (w.heap.size + 1) 0 _ _ _ hq5
    have z1 := cell_of_row w5 (w.heap.size + 1) 1 _ _ _ hq5
    simp only [List.getElem?_toArray, List.getElem?_cons_zero, List.getElem?_cons_succ] at z0 z1
    have zf : ∀ i, w5.frozen? ⟨w.heap.size + 1, i, none⟩ = false := fun i => frozen_of_row w5 _ i _ _ hq5
    refine ⟨.agg #[.int .i64 c0, .int .i64 (((0 + n : Nat) : Int))], ?_, (Fr.of_below (HB3.out.trans (hf5.below fun k hk => ⟨Nat.lt_of_lt_of_le hk HB3.out.size, by show ¬ k = w.heap.size + 1; omega⟩))), .inl ⟨HNZ, rfl⟩⟩
    simp [results, Tryz.results49, go_sem, z0, z1]
  have hcn := HC.out
  rw [firstE_ok ha 0] at hcn
  cases hcn
  have hq3 := (hf3.block _ (loc_lt HQ2.out) (by rintro (a | a) <;> omega)).trans HQ2.out
  have HB3 := hide (HB2.out.trans (hf3.below fun k hk => ⟨Nat.lt_of_lt_of_le hk HB2.out.size, by rintro (a | a) <;> omega⟩))
  have hsp := items_split.1 ha
  have HV3 := hide ((HB3.out.block vb hlv).trans HVV.out)
  have CM := hide (vars1_any hr (preds_four hsp.1.1.1.1.1.2) (fun t ht => by
    obtain ⟨i, hi, rfl⟩ := List.getElem_of_mem ht
    exact ruleM_sixteen (AllOk.at.1 hsp.1.1.2 i _ (List.getElem?_eq_getElem hi))) k (kb := kb) (sb := sb) (vb := vb) ((World.cell?_of_block (HB3.out.block kb hlk)).trans HKK.out) ((World.cell?_of_block (HB3.out.block sb hls)).trans HSS.out) hr.rep.rules HV3.out)
  have HR3 := hide hr
  have HQ3 := hide hq3
  have hsz3 := HB3.out.size
  have hlq := loc_lt hq3
  have hlr := loc_lt hr.box
  clear hf3 CI HQ2 HB2 HC ha hr hq3 hsp
  go_wp2_with fail
  refine CM.out.mono ?_
  intro e X4 hE
  obtain ⟨o, ho⟩ : ∃ o, varsM S k = o := ⟨_, rfl⟩
  have HO := hide ho
  rw [ho] at hE
  obtain ⟨hf4, hE⟩ := hE
  have HW4 := hide ((Fr.of_below (Z := fun k => k = vb) HB3.out).trans hf4)
  have hq4 := (hf4.block (w.heap.size + 1) hlq (by show ¬ w.heap.size + 1 = vb; omega)).trans HQ3.out
  have HQ4 := hide hq4
  have hbk := hf4.block (w.heap.size + 1 + 1) hlr (by show ¬ w.heap.size + 1 + 1 = vb; omega)
  have r9 := (World.cell?_of_block hbk).trans HR3.out.c9
  have hsz4 := hf4.size
  clear ho hbk hf4
  cases o with
  | error d =>
    have hE' : e = .panicked [fl d ((0 + S.items.length : Nat) : Int)] := hE
    subst hE'
    clear hE CM r9 hq4
    go_wp2_with fail
    refine leaves_cons (f := 101) (args := #[.pointer (some ⟨w.heap.size + 1, 0, none⟩)]) (by simp) (by simp [go_sem]) ?_
    refine (catch_fault _ _ _ _ _ _ _ HQ4.out).mono ?_
    rintro e u' w5 ⟨rfl, rfl, hq5, hf5⟩
    have z0 := cell_of_row w5 (w.heap.size + 1) 0 _ _ _ hq5
    have z1 := cell_of_row w5 (w.heap.size + 1) 1 _ _ _ hq5
    simp only [List.getElem?_toArray, List.getElem?_cons_zero, List.getElem?_cons_succ] at z0 z1
    refine ⟨.agg #[.int .i64 d, .int .i64 ((0 + S.items.length : Nat) : Int)], ?_, ?_, .inr (.inl ⟨rfl, d, HO.out, rfl⟩)⟩
    · simp [results, Tryz.results49, go_sem, z0, z1]
    · exact ⟨hf5.os.trans HW4.out.os, hf5.tape.trans HW4.out.tape, hf5.output.trans HW4.out.output, Nat.le_trans HW4.out.size hf5.size, fun j hj hn => (hf5.block j (Nat.lt_of_lt_of_le hj HW4.out.size) (by show ¬ j = w.heap.size + 1; omega)).trans (HW4.out.block j hj hn)⟩
  | ok v4 =>
    obtain ⟨rfl, Z, V, M, nv, kv, hb4, hs4, hz4⟩ := hE
    have z0 := cell_of_row X4 (w.heap.size + 1) 0 _ _ _ hq4
    have z1 := cell_of_row X4 (w.heap.size + 1) 1 _ _ _ hq4
    simp only [List.getElem?_toArray, List.getElem?_cons_zero, List.getElem?_cons_succ] at z0 z1
    have zf : ∀ i, X4.frozen? ⟨w.heap.size + 1, i, none⟩ = false := fun i => frozen_of_row X4 _ i _ _ hq4
    have HB4 := hide hb4
    have HS4 := hide hs4
    have HZ4 := hide hz4
    clear CM hb4 hs4 hz4 hq4
    go_wp2_with fail
    refine leaves_cons (f := 101) (args := #[.pointer (some ⟨w.heap.size + 1, 0, none⟩)]) (by simp) (by simp [go_sem]) ?_
    refine (catch_idle _ _).mono ?_
    rintro e u' w5 ⟨rfl, rfl, rfl⟩
    have hoth : ∀ j, j ≠ w.heap.size + 1 → ((X4.setCell ⟨w.heap.size + 1, 0, none⟩ (.int .i64 0)).setCell ⟨w.heap.size + 1, 1, none⟩ (.int .i64 ((S.items.length : Nat) : Int))).heap[j]? = X4.heap[j]? := fun j hj => by
      rw [heap_setCell_other _ _ j _ (by exact hj), heap_setCell_other _ _ j _ (by exact hj)]
    refine ⟨.agg #[.int .i64 0, .int .i64 ((0 + S.items.length : Nat) : Int)], ?_, ?_, .inr (.inr ⟨rfl, v4, Z, V, M, nv, kv, HO.out, rfl, (hoth vb (by omega)).trans HB4.out, HS4.out.keep fun j hj _ => hoth j (by have := HZ4.out j hj; omega), fun j hj => by have := HZ4.out j hj; omega⟩)⟩
    · have hq4 := loc_set (i := 1) (v := .int .i64 ((S.items.length : Nat) : Int)) (loc_set (i := 0) (v := .int .i64 0) HQ4.out)
      simp only [List.setIfInBounds_toArray, List.set_cons_zero, List.set_cons_succ] at hq4
      have k0 := cell_of_row _ (w.heap.size + 1) 0 _ _ _ hq4
      have k1 := cell_of_row _ (w.heap.size + 1) 1 _ _ _ hq4
      simp only [List.getElem?_toArray, List.getElem?_cons_zero, List.getElem?_cons_succ] at k0 k1
      simp [results, Tryz.results49, go_sem, k0, k1]
    · exact ⟨HW4.out.os, HW4.out.tape, HW4.out.output, by have := HW4.out.size; simp; omega, fun j hj hn => (hoth j (by omega)).trans (HW4.out.block j hj hn)⟩
end
end Go.Proofs.YtfnobccminhjpaaGreat
/- A rule's variables are variables, and not many. -/
namespace Go.Proofs.YtfnobccminhjpaaGreat

def AllVar (v : Scope) : Prop := ∀ s ∈ v.names, isVarB s = true
theorem AllVar.nil : AllVar [] := fun s h => by cases h
theorem AllVar.stand {v : Scope} {s : Bytes} (h : AllVar v) (hs : isVarB s = true) : AllVar (standM v s) := by
  unfold standM
  split
  · exact h
  · intro t ht
    unfold Scope.names at ht
    rw [List.map_append, List.mem_append] at ht
    rcases ht with ht | ht
    · exact h t ht
    · simp at ht; subst ht; exact hs
theorem AllVar.bindS {v : Scope} {s : Bytes} {k : Int} (h : AllVar v) (hs : isVarB s = true) : AllVar (bindS v s k) := by
  unfold Go.Proofs.YtfnobccminhjpaaGreat.bindS
  split
  · intro t ht
    unfold Scope.names at ht
    obtain ⟨x, hx, rfl⟩ := List.mem_map.1 ht
    rcases List.mem_or_eq_of_mem_set hx with hx | rfl
    · exact h.stand hs _ (List.mem_map.2 ⟨x, hx, rfl⟩)
    · exact hs
  · exact h.stand hs
theorem AllVar.bindM {v v' : Scope} {s : Bytes} {k : Int} (h : AllVar v) (hs : isVarB s = true) (hb : bindM v s k = .ok v') : AllVar v' := by
  unfold Go.Proofs.YtfnobccminhjpaaGreat.bindM at hb
  obtain ⟨_, _, h2⟩ := ex_ok hb
  rw [← ok_inj h2]
  exact h.bindS hs
theorem AllVar.argsM {C : Ctx} : ∀ (l k : List Bytes) (v : Scope) (ms : List Nat) (x : Scope × List Nat), AllVar v → argsM C v ms l k = .ok x → AllVar x.1 := by
  intro l
  induction l with
  | nil => intro k v ms x hv h; unfold Go.Proofs.YtfnobccminhjpaaGreat.argsM at h; rw [← ok_inj h]; exact hv
  | cons s r ih =>
    intro k v ms x hv h
    cases k with
    | nil => unfold Go.Proofs.YtfnobccminhjpaaGreat.argsM at h; rw [← ok_inj h]; exact hv
    | cons k q =>
      unfold Go.Proofs.YtfnobccminhjpaaGreat.argsM at h
      by_cases hvs : isVarB s = true
      · rw [if_pos hvs] at h
        obtain ⟨v2, h1, h2⟩ := ex_ok h
        exact ih q v2 ms x (hv.bindM hvs h1) h2
      · rw [if_neg hvs] at h
        obtain ⟨m, _, h2⟩ := ex_ok h
        obtain ⟨_, _, h3⟩ := ex_ok h2
        exact ih q v _ x hv h3
theorem AllVar.argumentsM {C : Ctx} {v : Scope} {p : PredM} {l : List Bytes} {x : Scope × List Nat} (hv : AllVar v) (h : argumentsM C v p l = .ok x) : AllVar x.1 := by
  unfold Go.Proofs.YtfnobccminhjpaaGreat.argumentsM at h
  obtain ⟨_, h1, h2⟩ := ex_ok h
  exact AllVar.argsM _ _ _ _ _ hv h2
theorem AllVar.literalM {C : Ctx} {v : Scope} {l : LitM} {x : Scope × List Nat} (hv : AllVar v) (h : literalM C v l = .ok x) : AllVar x.1 := by
  unfold Go.Proofs.YtfnobccminhjpaaGreat.literalM at h
  obtain ⟨p, hp1, h⟩ := ex_ok h
  obtain ⟨_, _, h⟩ := ex_ok h
  obtain ⟨y, hy, h⟩ := ex_ok h
  obtain ⟨_, _, h⟩ := ex_ok h
  obtain ⟨_, _, h⟩ := ex_ok h
  obtain ⟨_, _, h⟩ := ex_ok h
  rw [← ok_inj h]
  exact hv.argumentsM hy
theorem AllVar.termM {C : Ctx} {v v' : Scope} {t : TermM} (hv : AllVar v) (h : termM C v t = .ok v') : AllVar v' := by
  unfold Go.Proofs.YtfnobccminhjpaaGreat.termM at h
  by_cases ht : t.pred = []
  · rw [if_pos ht] at h
    obtain ⟨_, _, h⟩ := ex_ok h
    obtain ⟨_, _, h⟩ := ex_ok h
    rw [← ok_inj h]; exact hv
  · rw [if_neg ht] at h
    obtain ⟨p, hp1, h⟩ := ex_ok h
    obtain ⟨_, _, h⟩ := ex_ok h
    obtain ⟨_, _, h⟩ := ex_ok h
    obtain ⟨y, hy, h⟩ := ex_ok h
    rw [← ok_inj h]
    exact hv.argumentsM hy
theorem AllVar.termsM {C : Ctx} : ∀ (l : List TermM) (v v' : Scope), AllVar v → termsM C v l = .ok v' → AllVar v' := by
  intro l
  induction l with
  | nil => intro v v' hv h; unfold Go.Proofs.YtfnobccminhjpaaGreat.termsM at h; rw [← ok_inj h]; exact hv
  | cons t r ih =>
    intro v v' hv h
    unfold Go.Proofs.YtfnobccminhjpaaGreat.termsM at h
    obtain ⟨v2, h1, h2⟩ := ex_ok h
    exact ih _ _ (hv.termM h1) h2
theorem AllVar.unlikeM {C : Ctx} {v v' : Scope} {s : Bytes} (hv : AllVar v) (h : unlikeM C v s = .ok v') : AllVar v' := by
  unfold Go.Proofs.YtfnobccminhjpaaGreat.unlikeM at h
  by_cases hs : isVarB s = true
  · rw [if_pos hs] at h; rw [← ok_inj h]; exact hv.stand hs
  · rw [if_neg hs] at h
    obtain ⟨_, _, h⟩ := ex_ok h
    rw [← ok_inj h]; exact hv
theorem AllVar.premM {C : Ctx} {v v' : Scope} {q : PremM} (hv : AllVar v) (h : premM C v q = .ok v') : AllVar v' := by
  unfold Go.Proofs.YtfnobccminhjpaaGreat.premM at h
  by_cases h1 : q.kind = 1
  · rw [if_pos h1] at h
    obtain ⟨x, hx, h⟩ := ex_ok h
    rw [← ok_inj h]; exact hv.literalM hx
  · rw [if_neg h1] at h
    by_cases h2 : q.kind = 2
    · rw [if_pos h2] at h
      unfold guardM at h
      obtain ⟨_, _, h⟩ := ex_ok h
      obtain ⟨_, h1, h⟩ := ex_ok h
      obtain ⟨v2, h2, h⟩ := ex_ok h
      exact AllVar.termsM _ _ _ (AllVar.termsM _ _ _ hv h2) h
    · rw [if_neg h2] at h
      by_cases h3 : q.kind = 3
      · rw [if_pos h3] at h
        obtain ⟨v2, hx, h⟩ := ex_ok h
        exact (hv.unlikeM hx).unlikeM h
      · rw [if_neg h3] at h; cases h
theorem AllVar.bodyM {C : Ctx} : ∀ (l : List PremM) (v v' : Scope), AllVar v → bodyM C v l = .ok v' → AllVar v' := by
  intro l
  induction l with
  | nil => intro v v' hv h; unfold Go.Proofs.YtfnobccminhjpaaGreat.bodyM at h; rw [← ok_inj h]; exact hv
  | cons t r ih =>
    intro v v' hv h
    unfold Go.Proofs.YtfnobccminhjpaaGreat.bodyM at h
    obtain ⟨v2, h1, h2⟩ := ex_ok h
    exact ih _ _ (hv.premM h1) h2
theorem parts_fit {C : Ctx} {t : RuleM} {v : Scope} (hp : ∀ p ∈ C.preds, p.kinds.length ≤ 4) (hb : t.body.length ≤ 16) (h : partsM C t = .ok v) : v.length ≤ 1028 ∧ AllVar v := by
  unfold partsM at h
  obtain ⟨v2, h1, h⟩ := ex_ok h
  obtain ⟨x, h2, h⟩ := ex_ok h
  rw [← ok_inj h]
  have a := bodyM_len hp h1
  have b := literalM_len hp h2
  simp at a
  exact ⟨by omega, (AllVar.bodyM _ _ _ .nil h1).literalM h2⟩
/-- Of a statute that Check takes. -/
theorem vars_fit {S : StatM} {k : Int} {v : Scope} (hc : (checkM S).1 = 0) (h : varsM S k = .ok v) : v.length ≤ 1028 ∧ AllVar v ∧ 0 ≤ k ∧ ∃ t, S.rules[k.toNat]? = some t ∧ partsM S.ctx t = .ok v := by
  have hsp := items_split.1 (check_ok.1 hc).2
  unfold varsM at h
  obtain ⟨_, h0, h⟩ := ex_ok h
  cases ht : S.rules[k.toNat]? with
  | none => rw [ht] at h; cases h
  | some t =>
    rw [ht] at h
    have hm := List.mem_of_getElem? ht
    obtain ⟨i, hi, e⟩ := List.getElem_of_mem hm
    have h16 : t.body.length ≤ 16 := by
      rw [← e]
      exact ruleM_sixteen (AllOk.at.1 hsp.1.1.2 i _ (List.getElem?_eq_getElem hi))
    have := parts_fit (preds_four hsp.1.1.1.1.1.2) h16 h
    refine ⟨this.1, this.2, ?_, t, rfl, h⟩
    apply Classical.byContradiction
    intro hn
    rw [decide_eq_false hn] at h0
    cases h0
theorem var_short {s : Bytes} (h : isVarB s = true) : s.length ≤ 32 := by
  unfold isVarB speltB at h
  simp only [Bool.and_eq_true, decide_eq_true_eq] at h
  exact h.1.1.2
end Go.Proofs.YtfnobccminhjpaaGreat
/- strings.Clone. -/
namespace Go.Proofs
open Go.Shelf
def Tryz.laysM316_ren : Go.Shelf.Ren := ⟨fun | 316 => 115 | n => n, fun | 9 => 9 | 3 => 3 | 4 => 4 | 37 => 209 | 0 => 0 | 127 => 210 | 5 => 5 | n => n, fun | n => n⟩
theorem Tryz.laysM316 : Go.Proofs.LaysM.n316 Tryz.prog Tryz.laysM316_ren := {
  mixed := by kernel_rfl
  f316 := Tryz.func115.trans (congrArg some (by kernel_rfl))
  t0 := Tryz.underlying0
  a0 := Tryz.isAgg0
  z0 := Tryz.sizeOf0
  v0 := Tryz.zeroValue0
  t3 := Tryz.underlying3
  a3 := Tryz.isAgg3
  z3 := Tryz.sizeOf3
  v3 := Tryz.zeroValue3
  t4 := Tryz.underlying4
  a4 := Tryz.isAgg4
  z4 := Tryz.sizeOf4
  v4 := Tryz.zeroValue4
  t9 := Tryz.underlying9
  a9 := Tryz.isAgg9
  z9 := Tryz.sizeOf9
  v9 := Tryz.zeroValue9
  t37 := Tryz.underlying209
  a37 := Tryz.isAgg209
  z37 := Tryz.sizeOf209
  v37 := Tryz.zeroValue209
  t127 := Tryz.underlying210
  a127 := Tryz.isAgg210
  z127 := Tryz.sizeOf210
  v127 := Tryz.zeroValue210
  t5 := Tryz.underlying5
  a5 := Tryz.isAgg5
  z5 := Tryz.sizeOf5
  v5 := Tryz.zeroValue5
  i0 := by kernel_rfl
  i3 := by kernel_rfl
  i4 := by kernel_rfl
  i5 := by kernel_rfl
  i9 := by kernel_rfl
  i37 := by kernel_rfl
  i127 := by kernel_rfl }
open Go.RowKit in
theorem Tryz.stringslite_Clone (s : ByteArray) (w : World) (hlim : s.size ≤ 281474976710656) :
    Calls Tryz.prog 115 #[.string s] w fun e w' => e = .returned (.string s) ∧ Below w.heap.size w w' := Any.stringslite_Clone Tryz.laysM316 s w hlim
end Go.Proofs
namespace Go.Proofs.YtfnobccminhjpaaGreat
open Go.RowKit Go.Shelf Go.Maps
theorem clone_any (s : ByteArray) (w : World) (hs : s.size ≤ 281474976710656) : Calls Tryz.prog 55 #[.string s] w fun e w' => e = .returned (.string s) ∧ Below w.heap.size w w' := by
  have C := hide (Tryz.stringslite_Clone s w hs)
  go_enter Tryz.func55, Tryz.ntmps55
  go_wp2_with (first | (go_at_call 115; refine C.out.mono ?_; rintro _ w1 ⟨rfl, hw1⟩))
  go_ret
  exact ⟨rfl, hw1⟩
end Go.Proofs.YtfnobccminhjpaaGreat
