/- All items. -/
import Derived.Test.YtfnobccminhjpaaGreatNumb8
import Derived.Recover
import Derived.Laws.Pointers
import Derived.Deep.Strs
import Derived.Deep.Slices
namespace Go.Proofs.YtfnobccminhjpaaGreat
open Go.RowKit Go.Shelf Go.Maps Go.WideMaps
section
variable {R : Nat} {S : StatM} {st : St9} {mp : Mp8} {it : Nat} {seen : List Bytes} {w w' : World}
theorem predM_four {C : Ctx} {n : Nat} {p : PredM} (h : predM C n p = .ok ()) : p.kinds.length ≤ 4 := by
  unfold predM at h
  obtain ⟨_, _, h⟩ := ex_ok h
  obtain ⟨_, _, h⟩ := ex_ok h
  obtain ⟨_, h1, _⟩ := ex_ok h
  apply Classical.byContradiction
  intro hn
  rw [decide_eq_false (show ¬ ((p.kinds.length : Int) ≤ 4) by omega), Bool.false_and] at h1
  cases h1
theorem preds_four (h : AllOk (S.preds.mapIdx (predM S.ctx))) : ∀ p ∈ S.preds, p.kinds.length ≤ 4 := by
  intro p hp
  obtain ⟨i, hi, rfl⟩ := List.getElem_of_mem hp
  exact predM_four (h _ (List.mem_mapIdx.2 ⟨i, hi, rfl⟩))
theorem Ee.bad2 {l m r : List (Er Unit)} {n : Nat} {c : Int} {seen' : List Bytes} {k : Nat} (hf : Fr (Zi R mp) w w') (ha : AllOk l) (hb : Bad1 m n c) (hr : ∃ q, r = (l ++ m) ++ q) (hk : k = l.length) : Ee R S st mp 0 seen' w r (.panicked [fl c ((k + n : Nat) : Int)]) w' := by
  obtain ⟨q, rfl⟩ := hr
  subst hk
  exact ⟨hf, .inr ⟨l.length + n, c, (Bad1.right ha hb).left, by rw [Nat.zero_add]⟩⟩
set_option maxRecDepth 100000 in
set_option maxHeartbeats 12800000 in
theorem items_any (h : Res R S st mp 0 [] w) : Calls Tryz.prog 105 #[ptr R] w fun e w' => Ee R S st mp 0 S.classes.flatten w S.items e w' := by
  obtain ⟨tt, ht⟩ := h.rep.title
  obtain ⟨a1, b1, f1, _, l1⟩ := h.rep.kinds.form
  obtain ⟨a2, b2, f2, _, l2⟩ := h.rep.members.form
  obtain ⟨a3, b3, f3, _, l3⟩ := h.rep.preds.form
  obtain ⟨a4, b4, f4, _, l4⟩ := h.rep.classes.form
  obtain ⟨a5, b5, f5, _, l5⟩ := h.rep.sources.form
  obtain ⟨a6, b6, f6, _, l6⟩ := h.rep.rules.form
  obtain ⟨a7, b7, f7, _, l7⟩ := h.rep.excepts.form
  obtain ⟨a8, b8, f8, _, l8⟩ := h.rep.totals.form
  have HFS := hide (⟨ht, f1, f2, f3, f4, f5, f6, f7, f8⟩ : st.title = _ ∧ st.kinds = _ ∧ st.members = _ ∧ st.preds = _ ∧ st.classes = _ ∧ st.sources = _ ∧ st.rules = _ ∧ st.excepts = _ ∧ st.totals = _)
  have hlen : S.kinds.length ≤ 16 ∧ S.members.length ≤ 64 ∧ S.preds.length ≤ 256 ∧ S.classes.length ≤ 64 ∧ S.sources.length ≤ 64 ∧ S.rules.length ≤ 512 ∧ S.excepts.length ≤ 512 ∧ S.totals.length ≤ 64 := by
    have hfit := h.fit
    unfold StatM.fitsB at hfit
    simp only [Bool.and_eq_true, decide_eq_true_eq] at hfit
    omega
  have hb := h.box
  rw [ht, f1, f2, f3, f4, f5, f6, f7, f8] at hb
  have y0 := cell_of_row w R 0 _ _ _ hb
  have y1 := cell_of_row w R 1 _ _ _ hb
  have y2 := cell_of_row w R 2 _ _ _ hb
  have y3 := cell_of_row w R 3 _ _ _ hb
  have y4 := cell_of_row w R 4 _ _ _ hb
  have y5 := cell_of_row w R 5 _ _ _ hb
  have y6 := cell_of_row w R 6 _ _ _ hb
  have y7 := cell_of_row w R 7 _ _ _ hb
  have y8 := cell_of_row w R 8 _ _ _ hb
  simp only [List.getElem?_toArray, List.getElem?_cons_zero, List.getElem?_cons_succ] at y0 y1 y2 y3 y4 y5 y6 y7 y8
  have hA : Below w.heap.size w (w.alloc (.cells #[.string tt, .slice a1 S.kinds.length b1, .slice a2 S.members.length b2, .slice a3 S.preds.length b3, .slice a4 S.classes.length b4, .slice a5 S.sources.length b5, .slice a6 S.rules.length b6, .slice a7 S.excepts.length b7, .slice a8 S.totals.length b8] 31)) := (Below.refl _ _).alloc (Nat.le_refl _) _
  have HSB := hide (heap_alloc_new w (.cells #[.string tt, .slice a1 S.kinds.length b1, .slice a2 S.members.length b2, .slice a3 S.preds.length b3, .slice a4 S.classes.length b4, .slice a5 S.sources.length b5, .slice a6 S.rules.length b6, .slice a7 S.excepts.length b7, .slice a8 S.totals.length b8] 31))
  have HNZ : Hid (¬ Zi R mp w.heap.size) := by
    have k1 := loc_lt h.box
    have k2 := h.mC.lt
    rintro (a | a) <;> omega
  have HF0 : Hid (Fr (Zi R mp) w (w.alloc (.cells #[.string tt, .slice a1 S.kinds.length b1, .slice a2 S.members.length b2, .slice a3 S.preds.length b3, .slice a4 S.classes.length b4, .slice a5 S.sources.length b5, .slice a6 S.rules.length b6, .slice a7 S.excepts.length b7, .slice a8 S.totals.length b8] 31))) := .of_below hA
  have HR0 := hide (h.below hA)
  have HG0 := hide (Fr.refl (Zi R mp) (w.alloc (.cells #[.string tt, .slice a1 S.kinds.length b1, .slice a2 S.members.length b2, .slice a3 S.preds.length b3, .slice a4 S.classes.length b4, .slice a5 S.sources.length b5, .slice a6 S.rules.length b6, .slice a7 S.excepts.length b7, .slice a8 S.totals.length b8] 31)))
  clear h hb ht f1 f2 f3 f4 f5 f6 f7 f8 hA
  go_enter Tryz.func105, Tryz.ntmps105
  go_upto_region 1 with fail
  generalize (w.alloc (.cells #[.string tt, .slice a1 S.kinds.length b1, .slice a2 S.members.length b2, .slice a3 S.preds.length b3, .slice a4 S.classes.length b4, .slice a5 S.sources.length b5, .slice a6 S.rules.length b6, .slice a7 S.excepts.length b7, .slice a8 S.totals.length b8] 31)) = X0 at *
  clear y0 y1 y2 y3 y4 y5 y6 y7 y8
  have HA0 : Hid (AllOk []) := hide AllOk.nil
  have s0 := cell_of_row X0 w.heap.size 1 _ _ _ ((HG0.out.block w.heap.size (loc_lt HSB.out) HNZ.out).trans HSB.out)
  simp only [List.getElem?_toArray, List.getElem?_cons_zero, List.getElem?_cons_succ] at s0
  have CE0 := hide (eachK_any HR0.out (a := a1) (c := b1) (by have := HR0.out.rep.kinds; rw [HFS.out.2.1] at this; exact this) (by omega) (by omega))
  go_wp2_with fail
  refine CE0.out.mono ?_
  rintro _ X1 ⟨hf, ⟨rfl, ha, hr⟩ | ⟨n, c, hbad, rfl⟩⟩
  rotate_left
  · exact on_panic rfl (Ee.bad2 (HF0.out.trans (HG0.out.trans hf)) HA0.out hbad ⟨_, by unfold StatM.items; simp only [List.append_assoc, List.nil_append]; rfl⟩ (by simp only [List.length_nil] <;> omega))
  have HA1 := hide (HA0.out.app ha)
  have HR1 := hide hr
  have HG1 := hide (HG0.out.trans hf)
  clear hf ha hr s0 CE0 HA0 HR0 HG0
  have s1 := cell_of_row X1 w.heap.size 2 _ _ _ ((HG1.out.block w.heap.size (loc_lt HSB.out) HNZ.out).trans HSB.out)
  simp only [List.getElem?_toArray, List.getElem?_cons_zero, List.getElem?_cons_succ] at s1
  have CE1 := hide (eachM_any HR1.out (a := a2) (c := b2) (by have := HR1.out.rep.members; rw [HFS.out.2.2.1] at this; exact this) (by simp only [List.length_mapIdx]; omega) (by omega))
  go_wp2_with fail
  refine CE1.out.mono ?_
  rintro _ X2 ⟨hf, ⟨rfl, ha, hr⟩ | ⟨n, c, hbad, rfl⟩⟩
  rotate_left
  · exact on_panic rfl (Ee.bad2 (HF0.out.trans (HG1.out.trans hf)) HA1.out hbad ⟨_, by unfold StatM.items; simp only [List.append_assoc, List.nil_append]; rfl⟩ (by simp only [List.length_append, List.length_nil] <;> omega))
  have HA2 := hide (HA1.out.app ha)
  have HR2 := hide hr
  have HG2 := hide (HG1.out.trans hf)
  clear hf ha hr s1 CE1 HA1 HR1 HG1
  have s2 := cell_of_row X2 w.heap.size 3 _ _ _ ((HG2.out.block w.heap.size (loc_lt HSB.out) HNZ.out).trans HSB.out)
  simp only [List.getElem?_toArray, List.getElem?_cons_zero, List.getElem?_cons_succ] at s2
  have CE2 := hide (eachP_any HR2.out (a := a3) (c := b3) (by have := HR2.out.rep.preds; rw [HFS.out.2.2.2.1] at this; exact this) (by simp only [List.length_mapIdx]; omega) (by omega))
  go_wp2_with fail
  refine CE2.out.mono ?_
  rintro _ X3 ⟨hf, ⟨rfl, ha, hr⟩ | ⟨n, c, hbad, rfl⟩⟩
  rotate_left
  · exact on_panic rfl (Ee.bad2 (HF0.out.trans (HG2.out.trans hf)) HA2.out hbad ⟨_, by unfold StatM.items; simp only [List.append_assoc, List.nil_append]; rfl⟩ (by simp only [List.length_append, List.length_nil] <;> omega))
  have HA3 := hide (HA2.out.app ha)
  have HR3 := hide hr
  have HG3 := hide (HG2.out.trans hf)
  have HP4 := hide (preds_four ha)
  clear hf ha hr s2 CE2 HA2 HR2 HG2
  have s3 := cell_of_row X3 w.heap.size 4 _ _ _ ((HG3.out.block w.heap.size (loc_lt HSB.out) HNZ.out).trans HSB.out)
  simp only [List.getElem?_toArray, List.getElem?_cons_zero, List.getElem?_cons_succ] at s3
  have CE3 := hide (eachC_any HR3.out (a := a4) (c := b4) (by have := HR3.out.rep.classes; rw [HFS.out.2.2.2.2.1] at this; exact this) (by simp only [List.length_mapIdx]; omega) (by omega))
  go_wp2_with fail
  refine CE3.out.mono ?_
  rintro _ X4 ⟨hf, ⟨rfl, ha, hr⟩ | ⟨n, c, hbad, rfl⟩⟩
  rotate_left
  · exact on_panic rfl (Ee.bad2 (HF0.out.trans (HG3.out.trans hf)) HA3.out hbad ⟨_, by unfold StatM.items; simp only [List.append_assoc, List.nil_append]; rfl⟩ (by simp only [List.length_append, List.length_nil] <;> omega))
  have HA4 := hide (HA3.out.app ha)
  have HR4 := hide hr
  have HG4 := hide (HG3.out.trans hf)
  clear hf ha hr s3 CE3 HA3 HR3 HG3
  have s4 := cell_of_row X4 w.heap.size 5 _ _ _ ((HG4.out.block w.heap.size (loc_lt HSB.out) HNZ.out).trans HSB.out)
  simp only [List.getElem?_toArray, List.getElem?_cons_zero, List.getElem?_cons_succ] at s4
  have CE4 := hide (eachS_any HR4.out (a := a5) (c := b5) (by have := HR4.out.rep.sources; rw [HFS.out.2.2.2.2.2.1] at this; exact this) (by simp only [List.length_mapIdx]; omega) (by omega))
  go_wp2_with fail
  refine CE4.out.mono ?_
  rintro _ X5 ⟨hf, ⟨rfl, ha, hr⟩ | ⟨n, c, hbad, rfl⟩⟩
  rotate_left
  · exact on_panic rfl (Ee.bad2 (HF0.out.trans (HG4.out.trans hf)) HA4.out hbad ⟨_, by unfold StatM.items; simp only [List.append_assoc, List.nil_append]; rfl⟩ (by simp only [List.length_append, List.length_nil] <;> omega))
  have HA5 := hide (HA4.out.app ha)
  have HR5 := hide hr
  have HG5 := hide (HG4.out.trans hf)
  clear hf ha hr s4 CE4 HA4 HR4 HG4
  have s5 := cell_of_row X5 w.heap.size 6 _ _ _ ((HG5.out.block w.heap.size (loc_lt HSB.out) HNZ.out).trans HSB.out)
  simp only [List.getElem?_toArray, List.getElem?_cons_zero, List.getElem?_cons_succ] at s5
  have CE5 := hide (eachR_any HR5.out HP4.out (a := a6) (c := b6) (by have := HR5.out.rep.rules; rw [HFS.out.2.2.2.2.2.2.1] at this; exact this) (by simp only [List.length_mapIdx]; omega) (by omega))
  go_wp2_with fail
  refine CE5.out.mono ?_
  rintro _ X6 ⟨hf, ⟨rfl, ha, hr⟩ | ⟨n, c, hbad, rfl⟩⟩
  rotate_left
  · exact on_panic rfl (Ee.bad2 (HF0.out.trans (HG5.out.trans hf)) HA5.out hbad ⟨_, by unfold StatM.items; simp only [List.append_assoc, List.nil_append]; rfl⟩ (by simp only [List.length_append, List.length_nil] <;> omega))
  have HA6 := hide (HA5.out.app ha)
  have HR6 := hide hr
  have HG6 := hide (HG5.out.trans hf)
  clear hf ha hr s5 CE5 HA5 HR5 HG5
  have s6 := cell_of_row X6 w.heap.size 7 _ _ _ ((HG6.out.block w.heap.size (loc_lt HSB.out) HNZ.out).trans HSB.out)
  simp only [List.getElem?_toArray, List.getElem?_cons_zero, List.getElem?_cons_succ] at s6
  have CE6 := hide (eachE_any HR6.out (a := a7) (c := b7) (by have := HR6.out.rep.excepts; rw [HFS.out.2.2.2.2.2.2.2.1] at this; exact this) (by simp only [List.length_mapIdx]; omega) (by omega))
  go_wp2_with fail
  refine CE6.out.mono ?_
  rintro _ X7 ⟨hf, ⟨rfl, ha, hr⟩ | ⟨n, c, hbad, rfl⟩⟩
  rotate_left
  · exact on_panic rfl (Ee.bad2 (HF0.out.trans (HG6.out.trans hf)) HA6.out hbad ⟨_, by unfold StatM.items; simp only [List.append_assoc, List.nil_append]; rfl⟩ (by simp only [List.length_append, List.length_nil] <;> omega))
  have HA7 := hide (HA6.out.app ha)
  have HR7 := hide hr
  have HG7 := hide (HG6.out.trans hf)
  clear hf ha hr s6 CE6 HA6 HR6 HG6
  have s7 := cell_of_row X7 w.heap.size 8 _ _ _ ((HG7.out.block w.heap.size (loc_lt HSB.out) HNZ.out).trans HSB.out)
  simp only [List.getElem?_toArray, List.getElem?_cons_zero, List.getElem?_cons_succ] at s7
  have CE7 := hide (eachT_any HR7.out (a := a8) (c := b8) (by have := HR7.out.rep.totals; rw [HFS.out.2.2.2.2.2.2.2.2] at this; exact this) (by simp only [List.length_mapIdx]; omega) (by omega))
  go_wp2_with fail
  refine CE7.out.mono ?_
  rintro _ X8 ⟨hf, ⟨rfl, ha, hr⟩ | ⟨n, c, hbad, rfl⟩⟩
  rotate_left
  · exact on_panic rfl (Ee.bad2 (HF0.out.trans (HG7.out.trans hf)) HA7.out hbad ⟨[], by unfold StatM.items; simp only [List.append_assoc, List.nil_append, List.append_nil]⟩ (by simp only [List.length_append, List.length_nil] <;> omega))
  have HA8 := hide (HA7.out.app ha)
  have HR8 := hide hr
  have HG8 := hide (HG7.out.trans hf)
  clear hf ha hr s7 CE7 HA7 HR7 HG7
  go_wp2_with fail
  go_end0
  refine ⟨HF0.out.trans HG8.out, .inl ⟨rfl, ?_, ?_⟩⟩
  · have := HA8.out
    unfold StatM.items
    simpa only [List.nil_append] using this
  · have key : ∀ {n : Nat}, Res R S st mp n S.classes.flatten X8 → n = 0 + S.items.length → Res R S st mp (0 + S.items.length) S.classes.flatten X8 := fun h e => e ▸ h
    exact key HR8.out (by unfold StatM.items; simp only [List.length_append, List.length_mapIdx] <;> omega)
end
end Go.Proofs.YtfnobccminhjpaaGreat
/- What is caught. -/
namespace Go.Proofs.YtfnobccminhjpaaGreat
open Go.RowKit Go.Shelf Go.Maps Go.WideMaps
set_option maxRecDepth 100000 in
set_option maxHeartbeats 1600000 in
theorem faultOf_any (c it : Int) (w : World) : Calls Tryz.prog 102 #[.iface 85 (.agg #[.int .i64 c, .int .i64 it])] w fun e w' => e = .returned (.agg #[.int .i64 c, .int .i64 it]) ∧ Below w.heap.size w w' := by
  have hta : ∀ w : World, (Instr.typeAssert (.iface 85 (.agg #[.int .i64 c, .int .i64 it])) 20 85 true).run Tryz.prog w = .ok (.tuple #[.agg #[.int .i64 c, .int .i64 it], .bool true]) w := fun w => by kernel_rfl
  go_enter Tryz.func102, Tryz.ntmps102
  go_wp2_with fail
  simp [bodyPost, results, Tryz.results102, go_sem]
  exact ((Below.refl _ w).alloc (Nat.le_refl _) _).alloc (by simp) _
set_option maxRecDepth 100000 in
set_option maxHeartbeats 1600000 in
theorem catch_idle (a : Value) (w : World) : CallsD Tryz.prog 101 #[a] .returning w fun e u' w' => e = .returned (.tuple #[]) ∧ u' = .returning ∧ w' = w := by
  refine callsD_of_wpS Tryz.func101 rfl fun c₀ cs hu => ?_
  apply wpS_seq
  apply wpS_region
  simp [wpOpsS, go_sem, recoverD, hu, Tryz.ntmps101, Exit.thenS]
  apply wpS_of_wp
  go_wp2_with fail
  cases c₀
  simp_all [bodyPostS, results, Tryz.results101]
set_option maxRecDepth 100000 in
set_option maxHeartbeats 1600000 in
theorem catch_fault (q : Nat) (e p : Int) (older : List PanicEntry) (w : World) (y0 y1 : Value) (h0 : w.heap[q]? = some (.cells #[y0, y1] 85 (0, 0))) :
    CallsD Tryz.prog 101 #[.pointer (some ⟨q, 0, none⟩)] (.panicking (fl e p :: older)) w fun r u' w' =>
      r = .returned (.tuple #[]) ∧ u' = .panicking ({ v := .iface 85 (.agg #[.int .i64 e, .int .i64 p]), recovered := true } :: older) ∧
      w'.heap[q]? = some (.cells #[.int .i64 e, .int .i64 p] 85 (0, 0)) ∧ Fr (fun k => k = q) w w' := by
  have H0 := hide h0
  have CF := hide (faultOf_any e p w)
  clear h0
  refine callsD_of_wpS Tryz.func101 rfl fun c₀ cs hu => ?_
  apply wpS_seq
  apply wpS_region
  have hrep : (Array.replicate 6 undef : Array Value) = #[undef, undef, undef, undef, undef, undef] := rfl
  simp [wpOpsS, go_sem, recoverD, hu, Tryz.ntmps101, Exit.thenS, hrep]
  clear hrep
  apply wpS_of_wp
  go_wp2_with fail
  refine CF.out.mono ?_
  rintro _ w1 ⟨rfl, hb⟩
  have L0 := (hb.block _ (loc_lt H0.out)).trans H0.out
  have z0 := cell_of_row w1 q 0 _ _ _ L0
  have z1 := cell_of_row w1 q 1 _ _ _ L0
  simp only [List.getElem?_toArray, List.getElem?_cons_zero, List.getElem?_cons_succ] at z0 z1
  have zf : ∀ i, w1.frozen? ⟨q, i, none⟩ = false := fun i => frozen_of_row w1 q i _ _ L0
  have A0 := loc_set (i := 1) (v := .int .i64 p) (loc_set (i := 0) (v := .int .i64 e) L0)
  simp only [List.setIfInBounds_toArray, List.set_cons_zero, List.set_cons_succ] at A0
  have HA0 := hide A0
  have HF := hide (((Fr.of_below (Z := fun k => k = q) hb).trans (.setCell ⟨q, 0, none⟩ (.int .i64 e) rfl)).trans (.setCell ⟨q, 1, none⟩ (.int .i64 p) rfl))
  clear hb L0 A0 CF H0
  go_wp2_with fail
  exact ⟨rfl, _, rfl, .tuple #[], by simp [results, Tryz.results101], rfl, rfl, HA0.out, HF.out⟩
end Go.Proofs.YtfnobccminhjpaaGreat
/- The first fault. -/
namespace Go.Proofs.YtfnobccminhjpaaGreat
open Go.RowKit Go.Shelf Go.Maps Go.WideMaps
set_option maxHeartbeats 800000 in
theorem more_any (a : Value) (w : World) : Calls Tryz.prog 50 #[a] w fun e w' => e = .returned (.tuple #[]) ∧ w' = w := by
  go_enter Tryz.func50, Tryz.ntmps50
  go_wp2_with fail
  go_end0
  exact ⟨rfl, rfl⟩
section
variable {N N' : Nat} (hN : N ≤ N') {w : World}
include hN
theorem RR.mono {α : Type} {k : Nat} {c : World → α → List Value → Prop} {c' : World → α → List Value → Prop} {l : List α} {v : Value} (h : RR N k c w l v) (hc : ∀ x xs, c w x xs → c' w x xs) : RR N' k c' w l v := by
  obtain ⟨a, cap, e, hcap, hl, h⟩ := h
  refine ⟨a, cap, e, hcap, hl, fun i x hi => ?_⟩
  obtain ⟨g, o, xs, h1, h2, h3, h4, h5⟩ := h i x hi
  exact ⟨g, o, xs, h1, Nat.lt_of_lt_of_le h2 hN, h3, h4, hc _ _ h5⟩
theorem Strs.mono {l : List Bytes} {v : Value} (h : Strs N w l v) : Strs N' w l v := RR.mono hN h fun _ _ h => h
theorem Terms.mono {l : List TermM} {v : Value} (h : Terms N w l v) : Terms N' w l v := RR.mono hN h fun _ _ ⟨av, h1, h2, h3⟩ => ⟨av, h1, h2, Strs.mono hN h3⟩
theorem cLit.mono {a : LitM} {xs : List Value} (h : cLit N w a xs) : cLit N' w a xs := by obtain ⟨av, h1, h2, h3⟩ := h; exact ⟨av, h1, h2, Strs.mono hN h3⟩
theorem cGuard.mono {a : GuardM} {xs : List Value} (h : cGuard N w a xs) : cGuard N' w a xs := by obtain ⟨lv, rv, h1, h2, h3⟩ := h; exact ⟨lv, rv, h1, Terms.mono hN h2, Terms.mono hN h3⟩
theorem Prems.mono {l : List PremM} {v : Value} (h : Prems N w l v) : Prems N' w l v := RR.mono hN h fun _ _ ⟨ls, gs, h1, h2, h3, h4⟩ => ⟨ls, gs, h1, cLit.mono hN h2, cGuard.mono hN h3, h4⟩
theorem SR.mono {S : StatM} {st : St9} (h : SR N w S st) : SR N' w S st :=
  ⟨h.title, Strs.mono hN h.kinds, RR.mono hN h.members fun _ _ h => h, RR.mono hN h.preds fun _ _ ⟨kv, vv, h1, h2, h3, h4⟩ => ⟨kv, vv, h1, h2, Strs.mono hN h3, RR.mono hN h4 fun _ _ h => h⟩, RR.mono hN h.classes fun _ _ ⟨cv, h1, h2⟩ => ⟨cv, h1, Strs.mono hN h2⟩, RR.mono hN h.sources fun _ _ h => h,
   RR.mono hN h.rules fun _ _ ⟨bv, ls, h1, h2, h3, h4, h5⟩ => ⟨bv, ls, h1, h2, h3, Prems.mono hN h4, cLit.mono hN h5⟩, RR.mono hN h.excepts fun _ _ h => h, RR.mono hN h.totals fun _ _ ⟨pv, h1, h2, h3, h4⟩ => ⟨pv, h1, h2, h3, Strs.mono hN h4⟩⟩
end
section
variable {S : StatM} {st : St9} {w w' : World}
set_option maxRecDepth 100000 in
set_option maxHeartbeats 12800000 in
theorem first_any (h : SR w.heap.size w S st) : Calls Tryz.prog 49 #[st.agg, .func (.func 50) #[] #[]] w fun e w' => e = .returned (.agg #[.int .i64 (checkM S).1, .int .i64 (checkM S).2]) ∧ Below w.heap.size w w' := by
  obtain ⟨c0, n0, hck⟩ : ∃ c n, checkM S = (c, n) := ⟨_, _, rfl⟩
  rw [hck]
  have HCK := hide hck
  clear hck
  obtain ⟨tt, ht⟩ := h.title
  obtain ⟨a1, b1, f1, _, l1⟩ := h.kinds.form
  obtain ⟨a2, b2, f2, _, l2⟩ := h.members.form
  obtain ⟨a3, b3, f3, _, l3⟩ := h.preds.form
  obtain ⟨a4, b4, f4, _, l4⟩ := h.classes.form
  obtain ⟨a5, b5, f5, _, l5⟩ := h.sources.form
  obtain ⟨a6, b6, f6, _, l6⟩ := h.rules.form
  obtain ⟨a7, b7, f7, _, l7⟩ := h.excepts.form
  obtain ⟨a8, b8, f8, _, l8⟩ := h.totals.form
  obtain ⟨s0, s1, s2, s3, s4, s5, s6, s7, s8⟩ := st
  simp only at ht f1 f2 f3 f4 f5 f6 f7 f8
  subst ht f1 f2 f3 f4 f5 f6 f7 f8
  have hmf : ∀ (fn : Fn) (first cap : Array Value) (w : World), (Instr.makeFunc fn first cap).run Tryz.prog w = .ok (.func fn first cap) w := fun _ _ _ _ => rfl
  have hA : Below w.heap.size w (((w.alloc (.cells #[.string tt, .slice a1 S.kinds.length b1, .slice a2 S.members.length b2, .slice a3 S.preds.length b3, .slice a4 S.classes.length b4, .slice a5 S.sources.length b5, .slice a6 S.rules.length b6, .slice a7 S.excepts.length b7, .slice a8 S.totals.length b8] 31)).alloc (.cells #[.int .i64 0, .int .i64 0] 85)).alloc (.cells #[.string tt, .slice a1 S.kinds.length b1, .slice a2 S.members.length b2, .slice a3 S.preds.length b3, .slice a4 S.classes.length b4, .slice a5 S.sources.length b5, .slice a6 S.rules.length b6, .slice a7 S.excepts.length b7, .slice a8 S.totals.length b8, .int .i64 0, .map none, .map none, .map none, .map none, .map none, .map none, .map none, .map none] 165)) := (((Below.refl _ w).alloc (Nat.le_refl _) _).alloc (by simp) _).alloc (by simp; omega) _
  have hRaw : Raw (w.heap.size + 1 + 1) S ⟨.string tt, .slice a1 S.kinds.length b1, .slice a2 S.members.length b2, .slice a3 S.preds.length b3, .slice a4 S.classes.length b4, .slice a5 S.sources.length b5, .slice a6 S.rules.length b6, .slice a7 S.excepts.length b7, .slice a8 S.totals.length b8⟩ (((w.alloc (.cells #[.string tt, .slice a1 S.kinds.length b1, .slice a2 S.members.length b2, .slice a3 S.preds.length b3, .slice a4 S.classes.length b4, .slice a5 S.sources.length b5, .slice a6 S.rules.length b6, .slice a7 S.excepts.length b7, .slice a8 S.totals.length b8] 31)).alloc (.cells #[.int .i64 0, .int .i64 0] 85)).alloc (.cells #[.string tt, .slice a1 S.kinds.length b1, .slice a2 S.members.length b2, .slice a3 S.preds.length b3, .slice a4 S.classes.length b4, .slice a5 S.sources.length b5, .slice a6 S.rules.length b6, .slice a7 S.excepts.length b7, .slice a8 S.totals.length b8, .int .i64 0, .map none, .map none, .map none, .map none, .map none, .map none, .map none, .map none] 165)) := by
    refine ⟨?_, SR.mono (by omega) (h.keep fun g hg => hA.block g hg)⟩
    have := heap_alloc_new ((w.alloc (.cells #[.string tt, .slice a1 S.kinds.length b1, .slice a2 S.members.length b2, .slice a3 S.preds.length b3, .slice a4 S.classes.length b4, .slice a5 S.sources.length b5, .slice a6 S.rules.length b6, .slice a7 S.excepts.length b7, .slice a8 S.totals.length b8] 31)).alloc (.cells #[.int .i64 0, .int .i64 0] 85)) (.cells #[.string tt, .slice a1 S.kinds.length b1, .slice a2 S.members.length b2, .slice a3 S.preds.length b3, .slice a4 S.classes.length b4, .slice a5 S.sources.length b5, .slice a6 S.rules.length b6, .slice a7 S.excepts.length b7, .slice a8 S.totals.length b8, .int .i64 0, .map none, .map none, .map none, .map none, .map none, .map none, .map none, .map none] 165)
    simpa using this
  have hq : (((w.alloc (.cells #[.string tt, .slice a1 S.kinds.length b1, .slice a2 S.members.length b2, .slice a3 S.preds.length b3, .slice a4 S.classes.length b4, .slice a5 S.sources.length b5, .slice a6 S.rules.length b6, .slice a7 S.excepts.length b7, .slice a8 S.totals.length b8] 31)).alloc (.cells #[.int .i64 0, .int .i64 0] 85)).alloc (.cells #[.string tt, .slice a1 S.kinds.length b1, .slice a2 S.members.length b2, .slice a3 S.preds.length b3, .slice a4 S.classes.length b4, .slice a5 S.sources.length b5, .slice a6 S.rules.length b6, .slice a7 S.excepts.length b7, .slice a8 S.totals.length b8, .int .i64 0, .map none, .map none, .map none, .map none, .map none, .map none, .map none, .map none] 165)).heap[w.heap.size + 1]? = some (.cells #[.int .i64 0, .int .i64 0] 85 (0, 0)) := by
    have := heap_alloc_new (w.alloc (.cells #[.string tt, .slice a1 S.kinds.length b1, .slice a2 S.members.length b2, .slice a3 S.preds.length b3, .slice a4 S.classes.length b4, .slice a5 S.sources.length b5, .slice a6 S.rules.length b6, .slice a7 S.excepts.length b7, .slice a8 S.totals.length b8] 31)) (.cells #[.int .i64 0, .int .i64 0] 85)
    rw [Below.heap_alloc _ _ _ (by simp)]
    simpa using this
  have CC := hide (counts_any hRaw)
  have HRaw := hide hRaw
  have HQ := hide hq
  have HA := hide hA
  clear h hRaw hq hA
  unfold St9.agg
  simp only
  go_enter_defers Tryz.func49, Tryz.ntmps49
  go_wp2_with fail
  refine CC.out.mono ?_
  intro e X1 hE
  cases hfit : S.fitsB with
  | false =>
    have hck : (c0, n0) = ((3 : Int), 0) := by rw [← HCK.out]; unfold checkM; rw [hfit]; rfl
    cases hck
    rcases hE.no with ⟨c1, h3, rfl, hf⟩ | ⟨_, v, h3, rfl, hrv, hf⟩
    · rw [counts_not hfit] at h3
      cases h3
      have HQ1 := hide ((hf.block _ (loc_lt HQ.out)).trans HQ.out)
      have HB1 := hide (HA.out.trans (hf.mono HA.out.size))
      clear hE hf CC HRaw HQ HA
      go_wp2_with fail
      refine leaves_cons (f := 101) (args := #[.pointer (some ⟨w.heap.size + 1, 0, none⟩)]) (by simp) (by simp [go_sem]) ?_
      refine (catch_fault _ _ _ _ _ _ _ HQ1.out).mono ?_
      rintro e u' w5 ⟨rfl, rfl, hq5, hf5⟩
      have z0 := cell_of_row w5 (w.heap.size + 1) 0 _ _ _ hq5
      have z1 := cell_of_row w5 (w.heap.size + 1) 1 _ _ _ hq5
      simp only [List.getElem?_toArray, List.getElem?_cons_zero, List.getElem?_cons_succ] at z0 z1
      have zf : ∀ i, w5.frozen? ⟨w.heap.size + 1, i, none⟩ = false := fun i => frozen_of_row w5 _ i _ _ hq5
      refine ⟨.agg #[.int .i64 (3), .int .i64 (((0 : Nat) : Int))], ?_, rfl, HB1.out.trans (hf5.below fun k hk => ⟨Nat.lt_of_lt_of_le hk HB1.out.size, by show ¬ k = w.heap.size + 1; omega⟩)⟩
      simp [results, Tryz.results49, go_sem, z0, z1]
    · rw [counts_not hfit] at h3
      cases h3
  | true =>
  rcases hE.no with ⟨c1, h3, rfl, hf⟩ | ⟨_, v, h3, rfl, hrv, hf⟩
  · rw [counts_fits hfit] at h3
    cases h3
  have HQ1 := hide ((hf.block _ (loc_lt HQ.out)).trans HQ.out)
  have HB1 := hide (HA.out.trans (hf.mono HA.out.size))
  have CN := hide (number_any (HRaw.out.below hf) hfit)
  have hHC : firstE 0 S.items = (c0, n0) := by rw [← HCK.out]; unfold checkM; rw [hfit]; rfl
  have HC := hide hHC
  clear hE hf h3 hrv CC HRaw HQ HA hHC HCK
  go_wp2_with fail
  refine CN.out.mono ?_
  rintro _ X2 ⟨rfl, hf2, mp, hR2⟩
  have HQ2 := hide ((hf2.block _ (loc_lt HQ1.out) (by show ¬ w.heap.size + 1 = w.heap.size + 1 + 1; omega)).trans HQ1.out)
  have HB2 := hide (HB1.out.trans (hf2.below fun k hk => ⟨Nat.lt_of_lt_of_le hk HB1.out.size, by show ¬ k = w.heap.size + 1 + 1; omega⟩))
  have CI := hide (items_any hR2)
  have hne := hR2.ne.2.2.2.2.2.2.2
  clear CN hf2 hR2 HQ1 HB1
  go_wp2_with fail
  refine CI.out.mono ?_
  rintro _ X3 ⟨hf3, ⟨rfl, ha, hr⟩ | ⟨n, c, hbad, rfl⟩⟩
  rotate_left
  · have hcn := HC.out
    rw [firstE_bad hbad 0] at hcn
    cases hcn
    have HQ3 := hide ((hf3.block _ (loc_lt HQ2.out) (by rintro (a | a) <;> omega)).trans HQ2.out)
    have HB3 := hide (HB2.out.trans (hf3.below fun k hk => ⟨Nat.lt_of_lt_of_le hk HB2.out.size, by rintro (a | a) <;> omega⟩))
    clear hf3 CI HQ2 HB2 hbad HC
    go_wp2_with fail
    refine leaves_cons (f := 101) (args := #[.pointer (some ⟨w.heap.size + 1, 0, none⟩)]) (by simp) (by simp [go_sem]) ?_
    refine (catch_fault _ _ _ _ _ _ _ HQ3.out).mono ?_
    rintro e u' w5 ⟨rfl, rfl, hq5, hf5⟩
    have z0 := cell_of_row w5 (w.heap.size + 1) 0 _ _ _ hq5
    have z1 := cell_of_row w5 (w.heap.size + 1) 1 _ _ _ hq5
    simp only [List.getElem?_toArray, List.getElem?_cons_zero, List.getElem?_cons_succ] at z0 z1
    have zf : ∀ i, w5.frozen? ⟨w.heap.size + 1, i, none⟩ = false := fun i => frozen_of_row w5 _ i _ _ hq5
    refine ⟨.agg #[.int .i64 c0, .int .i64 (((0 + n : Nat) : Int))], ?_, rfl, HB3.out.trans (hf5.below fun k hk => ⟨Nat.lt_of_lt_of_le hk HB3.out.size, by show ¬ k = w.heap.size + 1; omega⟩)⟩
    simp [results, Tryz.results49, go_sem, z0, z1]
  have hcn := HC.out
  rw [firstE_ok ha 0] at hcn
  cases hcn
  have hq3 := (hf3.block _ (loc_lt HQ2.out) (by rintro (a | a) <;> omega)).trans HQ2.out
  have HB3 := hide (HB2.out.trans (hf3.below fun k hk => ⟨Nat.lt_of_lt_of_le hk HB2.out.size, by rintro (a | a) <;> omega⟩))
  have r9 := hr.c9
  have z0 := cell_of_row X3 (w.heap.size + 1) 0 _ _ _ hq3
  have z1 := cell_of_row X3 (w.heap.size + 1) 1 _ _ _ hq3
  simp only [List.getElem?_toArray, List.getElem?_cons_zero, List.getElem?_cons_succ] at z0 z1
  have zf : ∀ i, X3.frozen? ⟨w.heap.size + 1, i, none⟩ = false := fun i => frozen_of_row X3 _ i _ _ hq3
  have HQ3 := hide hq3
  have CM := hide (more_any (ptr (w.heap.size + 1 + 1)) X3)
  clear hf3 CI HQ2 HB2 HC ha hr hq3
  go_wp2_with fail
  refine CM.out.mono ?_
  rintro _ X4 ⟨rfl, hX4⟩
  subst X4
  go_wp2_with fail
  refine leaves_cons (f := 101) (args := #[.pointer (some ⟨w.heap.size + 1, 0, none⟩)]) (by simp) (by simp [go_sem]) ?_
  refine (catch_idle _ _).mono ?_
  rintro e u' w5 ⟨rfl, rfl, rfl⟩
  refine ⟨.agg #[.int .i64 0, .int .i64 ((0 + S.items.length : Nat) : Int)], ?_, rfl, (HB3.out.setCell (p := ⟨w.heap.size + 1, 0, none⟩) (by show w.heap.size ≤ w.heap.size + 1; omega) _).setCell (p := ⟨w.heap.size + 1, 1, none⟩) (by show w.heap.size ≤ w.heap.size + 1; omega) _⟩
  have hq4 := loc_set (i := 1) (v := .int .i64 ((S.items.length : Nat) : Int)) (loc_set (i := 0) (v := .int .i64 0) HQ3.out)
  simp only [List.setIfInBounds_toArray, List.set_cons_zero, List.set_cons_succ] at hq4
  have k0 := cell_of_row _ (w.heap.size + 1) 0 _ _ _ hq4
  have k1 := cell_of_row _ (w.heap.size + 1) 1 _ _ _ hq4
  simp only [List.getElem?_toArray, List.getElem?_cons_zero, List.getElem?_cons_succ] at k0 k1
  simp [results, Tryz.results49, go_sem, k0, k1]
end
end Go.Proofs.YtfnobccminhjpaaGreat
/- A statute among the arguments, opened. -/
namespace Go.Proofs.YtfnobccminhjpaaGreat
open Go.ChangeShapes Go.WideShapes Go.RowKit Go.Deep

theorem weightsAll_mem {H : Type} {P : Program} {e : TypeId} : ∀ {ds : List (DataW H)} {d : DataW H} {n : Nat}, d ∈ ds → n ∈ d.weights P e → n ∈ DataW.weightsAll P e ds := by
  intro ds
  induction ds with
  | nil => intro d n h; simp at h
  | cons x r ih =>
    intro d n h hn
    simp only [DataW.weightsAll, List.mem_append]
    rcases List.mem_cons.1 h with e1 | e1
    · subst e1; exact .inl hn
    · exact .inr (ih e1 hn)

section
variable {H : Type} {enc : TypeId × Value → H} {W : World}
/-- What of this type is read within reach has this form. -/
def Opn {α : Type} (enc : TypeId × Value → H) (W : World) (t : TypeId) (c : World → α → List Value → Prop) : Prop :=
  ∀ fuel cs d p, DataW.trod enc Tryz.prog W 0 (fun _ => true) true fuel t cs = some (d, p) → (∀ n ∈ d.weights Tryz.prog t, n ≤ reachBytes) → ∃ a, c W a cs
def cB (_ : World) (a : Bool) (xs : List Value) : Prop := xs = [.bool a]
/-- A list in one cell. -/
def cL {α : Type} (N k : Nat) (c : World → α → List Value → Prop) (w : World) (l : List α) (xs : List Value) : Prop := ∃ v, xs = [v] ∧ RR N k c w l v
theorem opn_s {t : TypeId} (ht : Tryz.prog.underlying t = some .string) : Opn enc W t cS := by
  intro fuel cs d p h _
  obtain ⟨s, rfl, _, hs⟩ := DataW.trod_string ht h
  refine ⟨s.data.toList, by rw [str_ba], ?_⟩
  rw [Array.length_toList]
  exact hs
theorem opn_i {t : TypeId} (ht : Tryz.prog.underlying t = some (.int .i64)) : Opn enc W t cI := by
  intro fuel cs d p h _
  obtain ⟨k, rfl, _, _⟩ := DataW.trod_int ht h
  exact ⟨k, rfl⟩
theorem opn_b {t : TypeId} (ht : Tryz.prog.underlying t = some .bool) : Opn enc W t cB := by
  intro fuel cs d p h _
  obtain ⟨k, rfl, _⟩ := DataW.trod_bool ht h
  exact ⟨k, rfl⟩
theorem opn_l {α : Type} {t e : TypeId} {k : Nat} {c : World → α → List Value → Prop} (ht : Tryz.prog.underlying t = some (.slice e)) (hk : Tryz.prog.cellsOf e = k) (hk1 : 0 < k) (hb : 1 ≤ Tryz.prog.bytesOf e) (ho : Opn enc W e c) : Opn enc W t (cL W.heap.size k c) := by
  intro fuel cs d p h hw
  rcases open_slice ht h with ⟨rfl, _⟩ | ⟨x, len, cap, m, n, D, Pl, rfl, _, hl, hm, hmm, hx, hel⟩
  · exact ⟨[], _, rfl, none, 0, rfl, Nat.zero_le _, Nat.zero_le _, fun i x hi => by simp at hi⟩
  · simp only [Prod.mk.injEq] at hx
    obtain ⟨rfl, _⟩ := hx
    have hm2 : m = cap := by simpa using hmm
    simp only [DataW.weights, ht, List.mem_cons, List.mem_append] at hw
    have hs := hw _ (.inl rfl)
    simp only [List.length_map, List.length_range, reachBytes] at hs
    have hlen : len ≤ 140737488351232 := by
      have : len * 1 ≤ (len + (m - len)) * Tryz.prog.bytesOf e := Nat.mul_le_mul (by omega) hb
      omega
    rw [hk] at hel
    have each : ∀ i : Fin len, ∃ (a : α) (xs : List Value), xs.length = k ∧ (∀ j, j < k → W.cell? ((x.add (i.1 * k)).add j) = xs[j]?) ∧ c W a xs := by
      intro i
      obtain ⟨cs', h1, h2⟩ := hel i.1 (by omega)
      obtain ⟨_, hlen, hcell⟩ := World.cells?_some h1
      obtain ⟨a, ha⟩ := ho _ _ _ _ h2 fun q hq => hw q (.inr (.inl (weightsAll_mem (List.mem_map.2 ⟨i.1, by simp, rfl⟩) hq)))
      exact ⟨a, cs', hlen, hcell, ha⟩
    obtain ⟨b, off, spot⟩ := x
    refine ⟨List.ofFn fun i => Classical.choose (each i), _, rfl, some ⟨b, off, spot⟩, cap, by simp, by simpa using hl, by simpa using hlen, ?_⟩
    intro i a hi
    have hil : i < len := by
      apply Classical.byContradiction
      intro hn
      rw [List.getElem?_eq_none (by simp; omega)] at hi
      cases hi
    have ha : Classical.choose (each ⟨i, hil⟩) = a := by
      rw [List.getElem?_eq_getElem (by simp; exact hil)] at hi
      simpa using hi
    obtain ⟨xs, h1, h2, h3⟩ := Classical.choose_spec (each ⟨i, hil⟩)
    rw [ha] at h3
    have h0 := h2 0 hk1
    rw [List.getElem?_eq_getElem (by omega)] at h0
    have hspot : spot = none := by
      obtain ⟨_, ys, y1, y2, _⟩ := each ⟨0, by omega⟩
      have z0 := y2 0 hk1
      rw [List.getElem?_eq_getElem (by omega)] at z0
      have := World.cell?_spot z0
      simpa [Addr.add] using this
    subst hspot
    rw [Addr.add_lit, Addr.add_lit] at h0
    refine ⟨b, off, xs, rfl, World.block_lt_of_cell? W _ h0, h1, fun j u hu => ?_, h3⟩
    have hj : j < k := by
      apply Classical.byContradiction
      intro hn
      rw [List.getElem?_eq_none (by omega)] at hu
      cases hu
    have := h2 j hj
    rw [Addr.add_lit, Addr.add_lit, hu] at this
    exact this
/-- One field of a struct. -/
theorem opn_f {t : TypeId} {fs : Array Field} (ht : Tryz.prog.underlying t = some (.struct fs)) {fuel : Nat} {cs : List Value} {d : DataW H} {p : List MemPlace} (h : DataW.trod enc Tryz.prog W 0 (fun _ => true) true fuel t cs = some (d, p)) (hw : ∀ n ∈ d.weights Tryz.prog t, n ≤ reachBytes) (i : Nat) {f : Field} (hf : fs[i]? = some f) {α : Type} {c : World → α → List Value → Prop} (ho : Opn enc W f.type c) : ∃ a, c W a ((cs.drop f.offset).take (Tryz.prog.cellsOf f.type)) := by
  obtain ⟨xs, n, _, hx, _, hl, hi⟩ := DataW.trod_struct ht h
  simp only [Prod.mk.injEq] at hx
  obtain ⟨rfl, _⟩ := hx
  have hlt : i < fs.size := by
    apply Classical.byContradiction
    intro hn
    rw [Array.getElem?_eq_none (by omega)] at hf
    cases hf
  have h1 := hi i f hf
  have h2 : xs[i]? = some xs[i] := List.getElem?_eq_getElem (by omega)
  rw [h2] at h1
  simp only [DataW.weights, ht] at hw
  refine ho _ _ xs[i].1 xs[i].2 h1 fun q hq => hw q (DataW.weights_mem_each (j := i) (t := f.type) (d := xs[i].1) ?_ ?_ q hq)
  · rw [List.getElem?_map, Array.getElem?_toList, hf]; rfl
  · rw [List.getElem?_map, h2]; rfl
theorem opn_len {t : TypeId} {fs : Array Field} (ht : Tryz.prog.underlying t = some (.struct fs)) {fuel : Nat} {cs : List Value} {d : DataW H} {p : List MemPlace} (h : DataW.trod enc Tryz.prog W 0 (fun _ => true) true fuel t cs = some (d, p)) : cs.length = Tryz.prog.cellsOf t := by
  obtain ⟨xs, n, _, _, hl, _⟩ := DataW.trod_struct ht h
  exact hl
end
end Go.Proofs.YtfnobccminhjpaaGreat
