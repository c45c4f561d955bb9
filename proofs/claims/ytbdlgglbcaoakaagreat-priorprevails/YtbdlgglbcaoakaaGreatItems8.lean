/- All items. -/
import Derived.Test.YtbdlgglbcaoakaaGreatNumb8
import Derived.Recover
import Derived.Laws.Pointers
namespace Go.Proofs.YtbdlgglbcaoakaaGreat
open Go.RowKit Go.Shelf Go.Maps Go.WideMaps
section
variable {R : Nat} {S : StatM} {st : St9} {mp : Mp8} {it : Nat} {seen : List Bytes} {w w' : World}
theorem predM_four {C : Ctx} {n : Nat} {p : PredM} (h : predM C n p = .ok ()) : p.kinds.length ≤ 4 := by
  unfold predM at h
  obtain ⟨_, _, h⟩ := ex_ok h
  obtain ⟨_, _, h⟩ := ex_ok h
  obtain ⟨_, h1, _⟩ := ex_ok h
  apply Classical.byContradiction
  intro hn
  rw [decide_eq_false (show ¬ ((p.kinds.length : Int) ≤ 4) by omega), Bool.false_and] at h1
  cases h1
theorem preds_four (h : AllOk (S.preds.mapIdx (predM S.ctx))) : ∀ p ∈ S.preds, p.kinds.length ≤ 4 := by
  intro p hp
  obtain ⟨i, hi, rfl⟩ := List.getElem_of_mem hp
  exact predM_four (h _ (List.mem_mapIdx.2 ⟨i, hi, rfl⟩))
theorem Ee.bad2 {l m r : List (Er Unit)} {n : Nat} {c : Int} {seen' : List Bytes} {k : Nat} (hf : Fr (Zi R mp) w w') (ha : AllOk l) (hb : Bad1 m n c) (hr : ∃ q, r = (l ++ m) ++ q) (hk : k = l.length) : Ee R S st mp 0 seen' w r (.panicked [fl c ((k + n : Nat) : Int)]) w' := by
  obtain ⟨q, rfl⟩ := hr
  subst hk
  exact ⟨hf, .inr ⟨l.length + n, c, (Bad1.right ha hb).left, by rw [Nat.zero_add]⟩⟩
set_option maxRecDepth 100000 in
set_option maxHeartbeats 12800000 in
theorem items_any (h : Res R S st mp 0 [] w) : Calls Tryz.prog 30 #[ptr R] w fun e w' => Ee R S st mp 0 S.classes.flatten w S.items e w' := by
  obtain ⟨tt, ht⟩ := h.rep.title
  obtain ⟨a1, b1, f1, _, l1⟩ := h.rep.kinds.form
  obtain ⟨a2, b2, f2, _, l2⟩ := h.rep.members.form
  obtain ⟨a3, b3, f3, _, l3⟩ := h.rep.preds.form
  obtain ⟨a4, b4, f4, _, l4⟩ := h.rep.classes.form
  obtain ⟨a5, b5, f5, _, l5⟩ := h.rep.sources.form
  obtain ⟨a6, b6, f6, _, l6⟩ := h.rep.rules.form
  obtain ⟨a7, b7, f7, _, l7⟩ := h.rep.excepts.form
  obtain ⟨a8, b8, f8, _, l8⟩ := h.rep.totals.form
  have HFS := hide (⟨ht, f1, f2, f3, f4, f5, f6, f7, f8⟩ : st.title = _ ∧ st.kinds = _ ∧ st.members = _ ∧ st.preds = _ ∧ st.classes = _ ∧ st.sources = _ ∧ st.rules = _ ∧ st.excepts = _ ∧ st.totals = _)
  have hlen : S.kinds.length ≤ 16 ∧ S.members.length ≤ 64 ∧ S.preds.length ≤ 256 ∧ S.classes.length ≤ 64 ∧ S.sources.length ≤ 64 ∧ S.rules.length ≤ 512 ∧ S.excepts.length ≤ 512 ∧ S.totals.length ≤ 64 := by
    have hfit := h.fit
    unfold StatM.fitsB at hfit
    simp only [Bool.and_eq_true, decide_eq_true_eq] at hfit
    omega
  have hb := h.box
  rw [ht, f1, f2, f3, f4, f5, f6, f7, f8] at hb
  have y0 := cell_of_row w R 0 _ _ _ hb
  have y1 := cell_of_row w R 1 _ _ _ hb
  have y2 := cell_of_row w R 2 _ _ _ hb
  have y3 := cell_of_row w R 3 _ _ _ hb
  have y4 := cell_of_row w R 4 _ _ _ hb
  have y5 := cell_of_row w R 5 _ _ _ hb
  have y6 := cell_of_row w R 6 _ _ _ hb
  have y7 := cell_of_row w R 7 _ _ _ hb
  have y8 := cell_of_row w R 8 _ _ _ hb
  simp only [List.getElem?_toArray, List.getElem?_cons_zero, List.getElem?_cons_succ] at y0 y1 y2 y3 y4 y5 y6 y7 y8
  have hA : Below w.heap.size w (w.alloc (.cells #[.string tt, .slice a1 S.kinds.length b1, .slice a2 S.members.length b2, .slice a3 S.preds.length b3, .slice a4 S.classes.length b4, .slice a5 S.sources.length b5, .slice a6 S.rules.length b6, .slice a7 S.excepts.length b7, .slice a8 S.totals.length b8] 31)) := (Below.refl _ _).alloc (Nat.le_refl _) _
  have HSB := hide (heap_alloc_new w (.cells #[.string tt, .slice a1 S.kinds.length b1, .slice a2 S.members.length b2, .slice a3 S.preds.length b3, .slice a4 S.classes.length b4, .slice a5 S.sources.length b5, .slice a6 S.rules.length b6, .slice a7 S.excepts.length b7, .slice a8 S.totals.length b8] 31))
  have HNZ : Hid (¬ Zi R mp w.heap.size) := by
    have k1 := loc_lt h.box
    have k2 := h.mC.lt
    rintro (a | a) <;> omega
  have HF0 : Hid (Fr (Zi R mp) w (w.alloc (.cells #[.string tt, .slice a1 S.kinds.length b1, .slice a2 S.members.length b2, .slice a3 S.preds.length b3, .slice a4 S.classes.length b4, .slice a5 S.sources.length b5, .slice a6 S.rules.length b6, .slice a7 S.excepts.length b7, .slice a8 S.totals.length b8] 31))) := .of_below hA
  have HR0 := hide (h.below hA)
  have HG0 := hide (Fr.refl (Zi R mp) (w.alloc (.cells #[.string tt, .slice a1 S.kinds.length b1, .slice a2 S.members.length b2, .slice a3 S.preds.length b3, .slice a4 S.classes.length b4, .slice a5 S.sources.length b5, .slice a6 S.rules.length b6, .slice a7 S.excepts.length b7, .slice a8 S.totals.length b8] 31)))
  clear h hb ht f1 f2 f3 f4 f5 f6 f7 f8 hA
  go_enter Tryz.func30, Tryz.ntmps30
  go_upto_region 1 with fail
  generalize (w.alloc (.cells #[.string tt, .slice a1 S.kinds.length b1, .slice a2 S.members.length b2, .slice a3 S.preds.length b3, .slice a4 S.classes.length b4, .slice a5 S.sources.length b5, .slice a6 S.rules.length b6, .slice a7 S.excepts.length b7, .slice a8 S.totals.length b8] 31)) = X0 at *
  clear y0 y1 y2 y3 y4 y5 y6 y7 y8
  have HA0 : Hid (AllOk []) := hide AllOk.nil
  have s0 := cell_of_row X0 w.heap.size 1 _ _ _ ((HG0.out.block w.heap.size (loc_lt HSB.out) HNZ.out).trans HSB.out)
  simp only [List.getElem?_toArray, List.getElem?_cons_zero, List.getElem?_cons_succ] at s0
  have CE0 := hide (eachK_any HR0.out (a := a1) (c := b1) (by have := HR0.out.rep.kinds; rw [HFS.out.2.1] at this; exact this) (by omega) (by omega))
  go_wp2_with fail
  refine CE0.out.mono ?_
  rintro _ X1 ⟨hf, ⟨rfl, ha, hr⟩ | ⟨n, c, hbad, rfl⟩⟩
  rotate_left
  · exact on_panic rfl (Ee.bad2 (HF0.out.trans (HG0.out.trans hf)) HA0.out hbad ⟨_, by unfold StatM.items; simp only [List.append_assoc, List.nil_append]; rfl⟩ (by simp only [List.length_nil] <;> omega))
  have HA1 := hide (HA0.out.app ha)
  have HR1 := hide hr
  have HG1 := hide (HG0.out.trans hf)
  clear hf ha hr s0 CE0 HA0 HR0 HG0
  have s1 := cell_of_row X1 w.heap.size 2 _ _ _ ((HG1.out.block w.heap.size (loc_lt HSB.out) HNZ.out).trans HSB.out)
  simp only [List.getElem?_toArray, List.getElem?_cons_zero, List.getElem?_cons_succ] at s1
  have CE1 := hide (eachM_any HR1.out (a := a2) (c := b2) (by have := HR1.out.rep.members; rw [HFS.out.2.2.1] at this; exact this) (by simp only [List.length_mapIdx]; omega) (by omega))
  go_wp2_with fail
  refine CE1.out.mono ?_
  rintro _ X2 ⟨hf, ⟨rfl, ha, hr⟩ | ⟨n, c, hbad, rfl⟩⟩
  rotate_left
  · exact on_panic rfl (Ee.bad2 (HF0.out.trans (HG1.out.trans hf)) HA1.out hbad ⟨_, by unfold StatM.items; simp only [List.append_assoc, List.nil_append]; rfl⟩ (by simp only [List.length_append, List.length_nil] <;> omega))
  have HA2 := hide (HA1.out.app ha)
  have HR2 := hide hr
  have HG2 := hide (HG1.out.trans hf)
  clear hf ha hr s1 CE1 HA1 HR1 HG1
  have s2 := cell_of_row X2 w.heap.size 3 _ _ _ ((HG2.out.block w.heap.size (loc_lt HSB.out) HNZ.out).trans HSB.out)
  simp only [List.getElem?_toArray, List.getElem?_cons_zero, List.getElem?_cons_succ] at s2
  have CE2 := hide (eachP_any HR2.out (a := a3) (c := b3) (by have := HR2.out.rep.preds; rw [HFS.out.2.2.2.1] at this; exact this) (by simp only [List.length_mapIdx]; omega) (by omega))
  go_wp2_with fail
  refine CE2.out.mono ?_
  rintro _ X3 ⟨hf, ⟨rfl, ha, hr⟩ | ⟨n, c, hbad, rfl⟩⟩
  rotate_left
  · exact on_panic rfl (Ee.bad2 (HF0.out.trans (HG2.out.trans hf)) HA2.out hbad ⟨_, by unfold StatM.items; simp only [List.append_assoc, List.nil_append]; rfl⟩ (by simp only [List.length_append, List.length_nil] <;> omega))
  have HA3 := hide (HA2.out.app ha)
  have HR3 := hide hr
  have HG3 := hide (HG2.out.trans hf)
  have HP4 := hide (preds_four ha)
  clear hf ha hr s2 CE2 HA2 HR2 HG2
  have s3 := cell_of_row X3 w.heap.size 4 _ _ _ ((HG3.out.block w.heap.size (loc_lt HSB.out) HNZ.out).trans HSB.out)
  simp only [List.getElem?_toArray, List.getElem?_cons_zero, List.getElem?_cons_succ] at s3
  have CE3 := hide (eachC_any HR3.out (a := a4) (c := b4) (by have := HR3.out.rep.classes; rw [HFS.out.2.2.2.2.1] at this; exact this) (by simp only [List.length_mapIdx]; omega) (by omega))
  go_wp2_with fail
  refine CE3.out.mono ?_
  rintro _ X4 ⟨hf, ⟨rfl, ha, hr⟩ | ⟨n, c, hbad, rfl⟩⟩
  rotate_left
  · exact on_panic rfl (Ee.bad2 (HF0.out.trans (HG3.out.trans hf)) HA3.out hbad ⟨_, by unfold StatM.items; simp only [List.append_assoc, List.nil_append]; rfl⟩ (by simp only [List.length_append, List.length_nil] <;> omega))
  have HA4 := hide (HA3.out.app ha)
  have HR4 := hide hr
  have HG4 := hide (HG3.out.trans hf)
  clear hf ha hr s3 CE3 HA3 HR3 HG3
  have s4 := cell_of_row X4 w.heap.size 5 _ _ _ ((HG4.out.block w.heap.size (loc_lt HSB.out) HNZ.out).trans HSB.out)
  simp only [List.getElem?_toArray, List.getElem?_cons_zero, List.getElem?_cons_succ] at s4
  have CE4 := hide (eachS_any HR4.out (a := a5) (c := b5) (by have := HR4.out.rep.sources; rw [HFS.out.2.2.2.2.2.1] at this; exact this) (by simp only [List.length_mapIdx]; omega) (by omega))
  go_wp2_with fail
  refine CE4.out.mono ?_
  rintro _ X5 ⟨hf, ⟨rfl, ha, hr⟩ | ⟨n, c, hbad, rfl⟩⟩
  rotate_left
  · exact on_panic rfl (Ee.bad2 (HF0.out.trans (HG4.out.trans hf)) HA4.out hbad ⟨_, by unfold StatM.items; simp only [List.append_assoc, List.nil_append]; rfl⟩ (by simp only [List.length_append, List.length_nil] <;> omega))
  have HA5 := hide (HA4.out.app ha)
  have HR5 := hide hr
  have HG5 := hide (HG4.out.trans hf)
  clear hf ha hr s4 CE4 HA4 HR4 HG4
  have s5 := cell_of_row X5 w.heap.size 6 _ _ _ ((HG5.out.block w.heap.size (loc_lt HSB.out) HNZ.out).trans HSB.out)
  simp only [List.getElem?_toArray, List.getElem?_cons_zero, List.getElem?_cons_succ] at s5
  have CE5 := hide (eachR_any HR5.out HP4.out (a := a6) (c := b6) (by have := HR5.out.rep.rules; rw [HFS.out.2.2.2.2.2.2.1] at this; exact this) (by simp only [List.length_mapIdx]; omega) (by omega))
  go_wp2_with fail
  refine CE5.out.mono ?_
  rintro _ X6 ⟨hf, ⟨rfl, ha, hr⟩ | ⟨n, c, hbad, rfl⟩⟩
  rotate_left
  · exact on_panic rfl (Ee.bad2 (HF0.out.trans (HG5.out.trans hf)) HA5.out hbad ⟨_, by unfold StatM.items; simp only [List.append_assoc, List.nil_append]; rfl⟩ (by simp only [List.length_append, List.length_nil] <;> omega))
  have HA6 := hide (HA5.out.app ha)
  have HR6 := hide hr
  have HG6 := hide (HG5.out.trans hf)
  clear hf ha hr s5 CE5 HA5 HR5 HG5
  have s6 := cell_of_row X6 w.heap.size 7 _ _ _ ((HG6.out.block w.heap.size (loc_lt HSB.out) HNZ.out).trans HSB.out)
  simp only [List.getElem?_toArray, List.getElem?_cons_zero, List.getElem?_cons_succ] at s6
  have CE6 := hide (eachE_any HR6.out (a := a7) (c := b7) (by have := HR6.out.rep.excepts; rw [HFS.out.2.2.2.2.2.2.2.1] at this; exact this) (by simp only [List.length_mapIdx]; omega) (by omega))
  go_wp2_with fail
  refine CE6.out.mono ?_
  rintro _ X7 ⟨hf, ⟨rfl, ha, hr⟩ | ⟨n, c, hbad, rfl⟩⟩
  rotate_left
  · exact on_panic rfl (Ee.bad2 (HF0.out.trans (HG6.out.trans hf)) HA6.out hbad ⟨_, by unfold StatM.items; simp only [List.append_assoc, List.nil_append]; rfl⟩ (by simp only [List.length_append, List.length_nil] <;> omega))
  have HA7 := hide (HA6.out.app ha)
  have HR7 := hide hr
  have HG7 := hide (HG6.out.trans hf)
  clear hf ha hr s6 CE6 HA6 HR6 HG6
  have s7 := cell_of_row X7 w.heap.size 8 _ _ _ ((HG7.out.block w.heap.size (loc_lt HSB.out) HNZ.out).trans HSB.out)
  simp only [List.getElem?_toArray, List.getElem?_cons_zero, List.getElem?_cons_succ] at s7
  have CE7 := hide (eachT_any HR7.out (a := a8) (c := b8) (by have := HR7.out.rep.totals; rw [HFS.out.2.2.2.2.2.2.2.2] at this; exact this) (by simp only [List.length_mapIdx]; omega) (by omega))
  go_wp2_with fail
  refine CE7.out.mono ?_
  rintro _ X8 ⟨hf, ⟨rfl, ha, hr⟩ | ⟨n, c, hbad, rfl⟩⟩
  rotate_left
  · exact on_panic rfl (Ee.bad2 (HF0.out.trans (HG7.out.trans hf)) HA7.out hbad ⟨[], by unfold StatM.items; simp only [List.append_assoc, List.nil_append, List.append_nil]⟩ (by simp only [List.length_append, List.length_nil] <;> omega))
  have HA8 := hide (HA7.out.app ha)
  have HR8 := hide hr
  have HG8 := hide (HG7.out.trans hf)
  clear hf ha hr s7 CE7 HA7 HR7 HG7
  go_wp2_with fail
  go_end0
  refine ⟨HF0.out.trans HG8.out, .inl ⟨rfl, ?_, ?_⟩⟩
  · have := HA8.out
    unfold StatM.items
    simpa only [List.nil_append] using this
  · have key : ∀ {n : Nat}, Res R S st mp n S.classes.flatten X8 → n = 0 + S.items.length → Res R S st mp (0 + S.items.length) S.classes.flatten X8 := fun h e => e ▸ h
    exact key HR8.out (by unfold StatM.items; simp only [List.length_append, List.length_mapIdx] <;> omega)
end
end Go.Proofs.YtbdlgglbcaoakaaGreat
/- What is caught. -/
namespace Go.Proofs.YtbdlgglbcaoakaaGreat
open Go.RowKit Go.Shelf Go.Maps Go.WideMaps
set_option maxRecDepth 100000 in
set_option maxHeartbeats 1600000 in
theorem faultOf_any (c it : Int) (w : World) : Calls Tryz.prog 27 #[.iface 63 (.agg #[.int .i64 c, .int .i64 it])] w fun e w' => e = .returned (.agg #[.int .i64 c, .int .i64 it]) ∧ Below w.heap.size w w' := by
  have hta : ∀ w : World, (Instr.typeAssert (.iface 63 (.agg #[.int .i64 c, .int .i64 it])) 20 63 true).run Tryz.prog w = .ok (.tuple #[.agg #[.int .i64 c, .int .i64 it], .bool true]) w := fun w => by kernel_rfl
  go_enter Tryz.func27, Tryz.ntmps27
  go_wp2_with fail
  simp [bodyPost, results, Tryz.results27, go_sem]
  exact ((Below.refl _ w).alloc (Nat.le_refl _) _).alloc (by simp) _
set_option maxRecDepth 100000 in
set_option maxHeartbeats 1600000 in
theorem catch_idle (a : Value) (w : World) : CallsD Tryz.prog 26 #[a] .returning w fun e u' w' => e = .returned (.tuple #[]) ∧ u' = .returning ∧ w' = w := by
  refine callsD_of_wpS Tryz.func26 rfl fun c₀ cs hu => ?_
  apply wpS_seq
  apply wpS_region
  simp [wpOpsS, go_sem, recoverD, hu, Tryz.ntmps26, Exit.thenS]
  apply wpS_of_wp
  go_wp2_with fail
  cases c₀
  simp_all [bodyPostS, results, Tryz.results26]
set_option maxRecDepth 100000 in
set_option maxHeartbeats 1600000 in
theorem catch_fault (q : Nat) (e p : Int) (older : List PanicEntry) (w : World) (y0 y1 : Value) (h0 : w.heap[q]? = some (.cells #[y0, y1] 63 (0, 0))) :
    CallsD Tryz.prog 26 #[.pointer (some ⟨q, 0, none⟩)] (.panicking (fl e p :: older)) w fun r u' w' =>
      r = .returned (.tuple #[]) ∧ u' = .panicking ({ v := .iface 63 (.agg #[.int .i64 e, .int .i64 p]), recovered := true } :: older) ∧
      w'.heap[q]? = some (.cells #[.int .i64 e, .int .i64 p] 63 (0, 0)) ∧ Fr (fun k => k = q) w w' := by
  have H0 := hide h0
  have CF := hide (faultOf_any e p w)
  clear h0
  refine callsD_of_wpS Tryz.func26 rfl fun c₀ cs hu => ?_
  apply wpS_seq
  apply wpS_region
  have hrep : (Array.replicate 6 undef : Array Value) = #[undef, undef, undef, undef, undef, undef] := rfl
  simp [wpOpsS, go_sem, recoverD, hu, Tryz.ntmps26, Exit.thenS, hrep]
  clear hrep
  apply wpS_of_wp
  go_wp2_with fail
  refine CF.out.mono ?_
  rintro _ w1 ⟨rfl, hb⟩
  have L0 := (hb.block _ (loc_lt H0.out)).trans H0.out
  have z0 := cell_of_row w1 q 0 _ _ _ L0
  have z1 := cell_of_row w1 q 1 _ _ _ L0
  simp only [List.getElem?_toArray, List.getElem?_cons_zero, List.getElem?_cons_succ] at z0 z1
  have zf : ∀ i, w1.frozen? ⟨q, i, none⟩ = false := fun i => frozen_of_row w1 q i _ _ L0
  have A0 := loc_set (i := 1) (v := .int .i64 p) (loc_set (i := 0) (v := .int .i64 e) L0)
  simp only [List.setIfInBounds_toArray, List.set_cons_zero, List.set_cons_succ] at A0
  have HA0 := hide A0
  have HF := hide (((Fr.of_below (Z := fun k => k = q) hb).trans (.setCell ⟨q, 0, none⟩ (.int .i64 e) rfl)).trans (.setCell ⟨q, 1, none⟩ (.int .i64 p) rfl))
  clear hb L0 A0 CF H0
  go_wp2_with fail
  exact ⟨rfl, _, rfl, .tuple #[], by simp [results, Tryz.results26], rfl, rfl, HA0.out, HF.out⟩
end Go.Proofs.YtbdlgglbcaoakaaGreat
