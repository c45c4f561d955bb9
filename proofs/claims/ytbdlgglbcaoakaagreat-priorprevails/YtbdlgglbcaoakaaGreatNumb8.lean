/- The numbering. -/
import Derived.Test.YtbdlgglbcaoakaaGreatClass8
import Derived.Test.YtbdlgglbcaoakaaGreatNum8
namespace Go.Proofs.YtbdlgglbcaoakaaGreat
open Go.RowKit Go.Shelf Go.Maps Go.WideMaps
section
variable {R : Nat} {S : StatM} {st : St9} {w w' : World}
theorem CMap.made (w : World) : CMap (w.alloc (.map #[] 0)) w.heap.size [] := ⟨0, _, World.ownsMap_made w _ _ _, fun s => by simp [Maps.has], Nat.le_refl _⟩
structure Nm (R : Nat) (w : World) (sv cs : Array Value) (X : World) : Prop where
  box : X.heap[R]? = some (.cells cs 86 (0, 0))
  fr : Fr (fun k => k = R) w X
  sb : X.heap[w.heap.size]? = some (.cells sv 31 (0, 0))
  lt : R < w.heap.size
theorem Nm.step {sv cs : Array Value} {X w1 : World} (h : Nm R w sv cs X) (hb : Below X.heap.size X w1) (i : Nat) (v : Value) : Nm R w sv (cs.setIfInBounds i v) (w1.setCell ⟨R, i, none⟩ v) :=
  ⟨loc_set ((hb.block R (loc_lt h.box)).trans h.box), h.fr.trans ((Fr.of_below hb).trans (.setCell ⟨R, i, none⟩ v rfl)), (heap_setCell_other w1 ⟨R, i, none⟩ w.heap.size v (by have := h.lt; show w.heap.size ≠ R; omega)).trans ((hb.block _ (loc_lt h.sb)).trans h.sb), h.lt⟩
theorem Nm.below {sv cs : Array Value} {X w1 : World} (h : Nm R w sv cs X) (hb : Below X.heap.size X w1) : Nm R w sv cs w1 := ⟨(hb.block R (loc_lt h.box)).trans h.box, h.fr.trans (.of_below hb), (hb.block _ (loc_lt h.sb)).trans h.sb, h.lt⟩
theorem Nm.frz {sv cs : Array Value} {X w1 : World} (h : Nm R w sv cs X) (hb : Below X.heap.size X w1) (i : Nat) : w1.frozen? ⟨R, i, none⟩ = false := frozen_of_row w1 R i _ _ ((hb.block R (loc_lt h.box)).trans h.box)
theorem Nm.cel {sv cs : Array Value} {X w1 : World} (h : Nm R w sv cs X) (hb : Below X.heap.size X w1) (i : Nat) : w1.cell? ⟨R, i, none⟩ = cs[i]? := cell_of_row w1 R i _ _ _ ((hb.block R (loc_lt h.box)).trans h.box)
theorem Nm.sr {sv cs : Array Value} {X : World} (h : Nm R w sv cs X) (hs : SR R w S st) : SR R X S st := hs.keep fun g hg => h.fr.block g (by have := h.lt; omega) (by show ¬ g = R; omega)
def Kp (R : Nat) (kt : Nat) (X : World) (m : Nat) (l : List Bytes) : Prop := KMap kt X m l ∧ R < m ∧ m < X.heap.size
theorem Kp.step {kt : Nat} {X w1 : World} {m : Nat} {l : List Bytes} (h : Kp R kt X m l) (hb : Below X.heap.size X w1) (i : Nat) (v : Value) : Kp R kt (w1.setCell ⟨R, i, none⟩ v) m l :=
  ⟨h.1.keep ((heap_setCell_other w1 ⟨R, i, none⟩ m v (by have := h.2.1; show m ≠ R; omega)).trans (hb.block m h.2.2)), h.2.1, by have h1 := hb.size; have h2 := h.2.2; show m < (w1.setCell ⟨R, i, none⟩ v).heap.size; rw [show (w1.setCell ⟨R, i, none⟩ v).heap.size = w1.heap.size from by simp]; omega⟩
theorem Kp.below {kt : Nat} {X w1 : World} {m : Nat} {l : List Bytes} (h : Kp R kt X m l) (hb : Below X.heap.size X w1) : Kp R kt w1 m l := ⟨h.1.keep (hb.block m h.2.2), h.2.1, Nat.lt_of_lt_of_le h.2.2 hb.size⟩
theorem Kp.new {kt : Nat} {X w1 : World} {l : List Bytes} (hR : R < X.heap.size) (hk : KMap kt w1 X.heap.size l) (i : Nat) (v : Value) : Kp R kt (w1.setCell ⟨R, i, none⟩ v) X.heap.size l :=
  ⟨hk.keep (heap_setCell_other w1 ⟨R, i, none⟩ X.heap.size v (by show X.heap.size ≠ R; omega)), hR, by have := hk.lt; show X.heap.size < (w1.setCell ⟨R, i, none⟩ v).heap.size; rw [show (w1.setCell ⟨R, i, none⟩ v).heap.size = w1.heap.size from by simp]; exact this⟩
set_option maxRecDepth 100000 in
set_option maxHeartbeats 12800000 in
theorem number_any (h : Raw R S st w) (hfit : S.fitsB = true) : Calls Tryz.prog 29 #[ptr R] w fun e w' => e = .returned (.tuple #[]) ∧ Fr (fun k => k = R) w w' ∧ ∃ mp, Res R S st mp 0 [] w' := by
  obtain ⟨tt, ht⟩ := h.rep.title
  obtain ⟨a1, b1, f1, _, l1⟩ := h.rep.kinds.form
  obtain ⟨a2, b2, f2, _, l2⟩ := h.rep.members.form
  obtain ⟨a3, b3, f3, _, l3⟩ := h.rep.preds.form
  obtain ⟨a4, b4, f4, _, l4⟩ := h.rep.classes.form
  obtain ⟨a5, b5, f5, _, l5⟩ := h.rep.sources.form
  obtain ⟨a6, b6, f6, _, l6⟩ := h.rep.rules.form
  obtain ⟨a7, b7, f7, _, l7⟩ := h.rep.excepts.form
  obtain ⟨a8, b8, f8, _, l8⟩ := h.rep.totals.form
  have HSR := hide h.rep
  have HFS := hide (⟨ht, f1, f2, f3, f4, f5, f6, f7, f8⟩ : st.title = _ ∧ st.kinds = _ ∧ st.members = _ ∧ st.preds = _ ∧ st.classes = _ ∧ st.sources = _ ∧ st.rules = _ ∧ st.excepts = _ ∧ st.totals = _)
  have hlen : S.kinds.length ≤ 16 ∧ S.members.length ≤ 64 ∧ S.preds.length ≤ 256 ∧ S.sources.length ≤ 64 ∧ S.rules.length ≤ 512 ∧ S.excepts.length ≤ 512 ∧ S.totals.length ≤ 64 := by
    unfold StatM.fitsB at hfit
    simp only [Bool.and_eq_true, decide_eq_true_eq] at hfit
    omega
  have HFIT := hide hfit
  have hmk := run_makeMap0
  have hb := h.box
  rw [ht, f1, f2, f3, f4, f5, f6, f7, f8] at hb
  have y0 := cell_of_row w R 0 _ _ _ hb
  have y1 := cell_of_row w R 1 _ _ _ hb
  have y2 := cell_of_row w R 2 _ _ _ hb
  have y3 := cell_of_row w R 3 _ _ _ hb
  have y4 := cell_of_row w R 4 _ _ _ hb
  have y5 := cell_of_row w R 5 _ _ _ hb
  have y6 := cell_of_row w R 6 _ _ _ hb
  have y7 := cell_of_row w R 7 _ _ _ hb
  have y8 := cell_of_row w R 8 _ _ _ hb
  simp only [List.getElem?_toArray, List.getElem?_cons_zero, List.getElem?_cons_succ] at y0 y1 y2 y3 y4 y5 y6 y7 y8
  have hA : Below w.heap.size w (w.alloc (.cells #[.string tt, .slice a1 S.kinds.length b1, .slice a2 S.members.length b2, .slice a3 S.preds.length b3, .slice a4 S.classes.length b4, .slice a5 S.sources.length b5, .slice a6 S.rules.length b6, .slice a7 S.excepts.length b7, .slice a8 S.totals.length b8] 31)) := (Below.refl _ _).alloc (Nat.le_refl _) _
  have hN : Nm R w #[.string tt, .slice a1 S.kinds.length b1, .slice a2 S.members.length b2, .slice a3 S.preds.length b3, .slice a4 S.classes.length b4, .slice a5 S.sources.length b5, .slice a6 S.rules.length b6, .slice a7 S.excepts.length b7, .slice a8 S.totals.length b8] #[.string tt, .slice a1 S.kinds.length b1, .slice a2 S.members.length b2, .slice a3 S.preds.length b3, .slice a4 S.classes.length b4, .slice a5 S.sources.length b5, .slice a6 S.rules.length b6, .slice a7 S.excepts.length b7, .slice a8 S.totals.length b8, .int .i64 0, .map none, .map none, .map none, .map none, .map none, .map none, .map none, .map none] (w.alloc (.cells #[.string tt, .slice a1 S.kinds.length b1, .slice a2 S.members.length b2, .slice a3 S.preds.length b3, .slice a4 S.classes.length b4, .slice a5 S.sources.length b5, .slice a6 S.rules.length b6, .slice a7 S.excepts.length b7, .slice a8 S.totals.length b8] 31)) := ⟨(hA.block R (loc_lt hb)).trans hb, .of_below hA, heap_alloc_new w _, loc_lt hb⟩
  have HN0 := hide hN
  clear h hb ht f1 f2 f3 f4 f5 f6 f7 f8 hA hfit hN
  go_enter Tryz.func29, Tryz.ntmps29
  go_upto_region 1 with fail
  generalize (w.alloc (.cells #[.string tt, .slice a1 S.kinds.length b1, .slice a2 S.members.length b2, .slice a3 S.preds.length b3, .slice a4 S.classes.length b4, .slice a5 S.sources.length b5, .slice a6 S.rules.length b6, .slice a7 S.excepts.length b7, .slice a8 S.totals.length b8] 31)) = X0 at *
  clear y0 y1 y2 y3 y4 y5 y6 y7 y8
  have s0 := cell_of_row X0 w.heap.size 1 _ _ _ HN0.out.sb
  simp only [List.getElem?_toArray, List.getElem?_cons_zero, List.getElem?_cons_succ] at s0
  have CN0 : Hid (Calls Tryz.prog _ _ X0 _) := hide (numK_any (w := X0) (a := a1) (c := b1) (by have := (HN0.out.sr HSR.out).kinds; rw [HFS.out.2.1] at this; exact this) (Nat.le_of_lt (loc_lt HN0.out.box)) (by omega))
  have hRX0 : R < X0.heap.size := loc_lt HN0.out.box
  obtain ⟨mK, hmK⟩ : ∃ m, m = X0.heap.size := ⟨_, rfl⟩
  rw [← hmK] at CN0
  go_wp2_with fail
  refine CN0.out.mono ?_
  rintro _ w0' ⟨rfl, hk, hbl⟩
  have rz := HN0.out.frz (w1 := w0') (by rw [← hmK]; exact hbl) 10
  have HN1 := hide (HN0.out.step (w1 := w0') (by rw [← hmK]; exact hbl) 10 (.map (some mK)))
  have rc := HN0.out.cel (w1 := w0') (by rw [← hmK]; exact hbl) 10
  simp only [List.getElem?_toArray, List.getElem?_cons_zero, List.getElem?_cons_succ] at rc
  have HKK1 : Hid (Kp R 9 (w0'.setCell ⟨R, 10, none⟩ (.map (some mK))) mK _) := hide (by rw [hmK] at hk ⊢; exact Kp.new hRX0 hk 10 _)
  simp only [List.setIfInBounds_toArray, List.set_cons_succ, List.set_cons_zero] at HN1
  clear hk hbl CN0 hmK s0 hRX0 HN0 
  go_upto_region 2 with fail
  generalize w0'.setCell ⟨R, 10, none⟩ (.map (some mK)) = X1 at *
  clear rz rc
  have s1 := cell_of_row X1 w.heap.size 2 _ _ _ HN1.out.sb
  simp only [List.getElem?_toArray, List.getElem?_cons_zero, List.getElem?_cons_succ] at s1
  have CN1 : Hid (Calls Tryz.prog _ _ X1 _) := hide (numM_any (w := X1) (a := a2) (c := b2) (by have := (HN1.out.sr HSR.out).members; rw [HFS.out.2.2.1] at this; exact this) (Nat.le_of_lt (loc_lt HN1.out.box)) (by omega))
  have hRX1 : R < X1.heap.size := loc_lt HN1.out.box
  obtain ⟨mM, hmM⟩ : ∃ m, m = X1.heap.size := ⟨_, rfl⟩
  rw [← hmM] at CN1
  go_wp2_with fail
  refine CN1.out.mono ?_
  rintro _ w1' ⟨rfl, hk, hbl⟩
  have rz := HN1.out.frz (w1 := w1') (by rw [← hmM]; exact hbl) 11
  have HN2 := hide (HN1.out.step (w1 := w1') (by rw [← hmM]; exact hbl) 11 (.map (some mM)))
  have rc := HN1.out.cel (w1 := w1') (by rw [← hmM]; exact hbl) 11
  simp only [List.getElem?_toArray, List.getElem?_cons_zero, List.getElem?_cons_succ] at rc
  have HKK2 := hide (HKK1.out.step (w1 := w1') (by rw [← hmM]; exact hbl) 11 (.map (some mM)))
  have HKM2 : Hid (Kp R 9 (w1'.setCell ⟨R, 11, none⟩ (.map (some mM))) mM _) := hide (by rw [hmM] at hk ⊢; exact Kp.new hRX1 hk 11 _)
  simp only [List.setIfInBounds_toArray, List.set_cons_succ, List.set_cons_zero] at HN2
  clear hk hbl CN1 hmM s1 hRX1 HN1 HKK1
  go_upto_region 3 with fail
  generalize w1'.setCell ⟨R, 11, none⟩ (.map (some mM)) = X2 at *
  clear rz rc
  have s2 := cell_of_row X2 w.heap.size 3 _ _ _ HN2.out.sb
  simp only [List.getElem?_toArray, List.getElem?_cons_zero, List.getElem?_cons_succ] at s2
  have CN2 : Hid (Calls Tryz.prog _ _ X2 _) := hide (numP_any (w := X2) (a := a3) (c := b3) (by have := (HN2.out.sr HSR.out).preds; rw [HFS.out.2.2.2.1] at this; exact this) (Nat.le_of_lt (loc_lt HN2.out.box)) (by omega))
  have hRX2 : R < X2.heap.size := loc_lt HN2.out.box
  obtain ⟨mP, hmP⟩ : ∃ m, m = X2.heap.size := ⟨_, rfl⟩
  rw [← hmP] at CN2
  go_wp2_with fail
  refine CN2.out.mono ?_
  rintro _ w2' ⟨rfl, hk, hbl⟩
  have rz := HN2.out.frz (w1 := w2') (by rw [← hmP]; exact hbl) 12
  have HN3 := hide (HN2.out.step (w1 := w2') (by rw [← hmP]; exact hbl) 12 (.map (some mP)))
  have rc := HN2.out.cel (w1 := w2') (by rw [← hmP]; exact hbl) 12
  simp only [List.getElem?_toArray, List.getElem?_cons_zero, List.getElem?_cons_succ] at rc
  have HKK3 := hide (HKK2.out.step (w1 := w2') (by rw [← hmP]; exact hbl) 12 (.map (some mP)))
  have HKM3 := hide (HKM2.out.step (w1 := w2') (by rw [← hmP]; exact hbl) 12 (.map (some mP)))
  have HKP3 : Hid (Kp R 9 (w2'.setCell ⟨R, 12, none⟩ (.map (some mP))) mP _) := hide (by rw [hmP] at hk ⊢; exact Kp.new hRX2 hk 12 _)
  simp only [List.setIfInBounds_toArray, List.set_cons_succ, List.set_cons_zero] at HN3
  clear hk hbl CN2 hmP s2 hRX2 HN2 HKK2 HKM2
  go_upto_region 4 with fail
  generalize w2'.setCell ⟨R, 12, none⟩ (.map (some mP)) = X3 at *
  clear rz rc
  have s3 := cell_of_row X3 w.heap.size 5 _ _ _ HN3.out.sb
  simp only [List.getElem?_toArray, List.getElem?_cons_zero, List.getElem?_cons_succ] at s3
  have CN3 : Hid (Calls Tryz.prog _ _ X3 _) := hide (numS_any (w := X3) (a := a5) (c := b5) (by have := (HN3.out.sr HSR.out).sources; rw [HFS.out.2.2.2.2.2.1] at this; exact this) (Nat.le_of_lt (loc_lt HN3.out.box)) (by omega))
  have hRX3 : R < X3.heap.size := loc_lt HN3.out.box
  obtain ⟨mS, hmS⟩ : ∃ m, m = X3.heap.size := ⟨_, rfl⟩
  rw [← hmS] at CN3
  go_wp2_with fail
  refine CN3.out.mono ?_
  rintro _ w3' ⟨rfl, hk, hbl⟩
  have rz := HN3.out.frz (w1 := w3') (by rw [← hmS]; exact hbl) 13
  have HN4 := hide (HN3.out.step (w1 := w3') (by rw [← hmS]; exact hbl) 13 (.map (some mS)))
  have rc := HN3.out.cel (w1 := w3') (by rw [← hmS]; exact hbl) 13
  simp only [List.getElem?_toArray, List.getElem?_cons_zero, List.getElem?_cons_succ] at rc
  have HKK4 := hide (HKK3.out.step (w1 := w3') (by rw [← hmS]; exact hbl) 13 (.map (some mS)))
  have HKM4 := hide (HKM3.out.step (w1 := w3') (by rw [← hmS]; exact hbl) 13 (.map (some mS)))
  have HKP4 := hide (HKP3.out.step (w1 := w3') (by rw [← hmS]; exact hbl) 13 (.map (some mS)))
  have HKS4 : Hid (Kp R 9 (w3'.setCell ⟨R, 13, none⟩ (.map (some mS))) mS _) := hide (by rw [hmS] at hk ⊢; exact Kp.new hRX3 hk 13 _)
  simp only [List.setIfInBounds_toArray, List.set_cons_succ, List.set_cons_zero] at HN4
  clear hk hbl CN3 hmS s3 hRX3 HN3 HKK3 HKM3 HKP3
  go_upto_region 5 with fail
  generalize w3'.setCell ⟨R, 13, none⟩ (.map (some mS)) = X4 at *
  clear rz rc
  have s4 := cell_of_row X4 w.heap.size 6 _ _ _ HN4.out.sb
  simp only [List.getElem?_toArray, List.getElem?_cons_zero, List.getElem?_cons_succ] at s4
  have CN4 : Hid (Calls Tryz.prog _ _ X4 _) := hide (numR_any (w := X4) (a := a6) (c := b6) (by have := (HN4.out.sr HSR.out).rules; rw [HFS.out.2.2.2.2.2.2.1] at this; exact this) (Nat.le_of_lt (loc_lt HN4.out.box)) (by omega))
  have hRX4 : R < X4.heap.size := loc_lt HN4.out.box
  obtain ⟨mR, hmR⟩ : ∃ m, m = X4.heap.size := ⟨_, rfl⟩
  rw [← hmR] at CN4
  go_wp2_with fail
  refine CN4.out.mono ?_
  rintro _ w4' ⟨rfl, hk, hbl⟩
  have rz := HN4.out.frz (w1 := w4') (by rw [← hmR]; exact hbl) 14
  have HN5 := hide (HN4.out.step (w1 := w4') (by rw [← hmR]; exact hbl) 14 (.map (some mR)))
  have rc := HN4.out.cel (w1 := w4') (by rw [← hmR]; exact hbl) 14
  simp only [List.getElem?_toArray, List.getElem?_cons_zero, List.getElem?_cons_succ] at rc
  have HKK5 := hide (HKK4.out.step (w1 := w4') (by rw [← hmR]; exact hbl) 14 (.map (some mR)))
  have HKM5 := hide (HKM4.out.step (w1 := w4') (by rw [← hmR]; exact hbl) 14 (.map (some mR)))
  have HKP5 := hide (HKP4.out.step (w1 := w4') (by rw [← hmR]; exact hbl) 14 (.map (some mR)))
  have HKS5 := hide (HKS4.out.step (w1 := w4') (by rw [← hmR]; exact hbl) 14 (.map (some mR)))
  have HKR5 : Hid (Kp R 9 (w4'.setCell ⟨R, 14, none⟩ (.map (some mR))) mR _) := hide (by rw [hmR] at hk ⊢; exact Kp.new hRX4 hk 14 _)
  simp only [List.setIfInBounds_toArray, List.set_cons_succ, List.set_cons_zero] at HN5
  clear hk hbl CN4 hmR s4 hRX4 HN4 HKK4 HKM4 HKP4 HKS4
  go_upto_region 6 with fail
  generalize w4'.setCell ⟨R, 14, none⟩ (.map (some mR)) = X5 at *
  clear rz rc
  have s5 := cell_of_row X5 w.heap.size 7 _ _ _ HN5.out.sb
  simp only [List.getElem?_toArray, List.getElem?_cons_zero, List.getElem?_cons_succ] at s5
  have CN5 : Hid (Calls Tryz.prog _ _ X5 _) := hide (numE_any (w := X5) (a := a7) (c := b7) (by have := (HN5.out.sr HSR.out).excepts; rw [HFS.out.2.2.2.2.2.2.2.1] at this; exact this) (Nat.le_of_lt (loc_lt HN5.out.box)) (by omega))
  have hRX5 : R < X5.heap.size := loc_lt HN5.out.box
  obtain ⟨mE, hmE⟩ : ∃ m, m = X5.heap.size := ⟨_, rfl⟩
  rw [← hmE] at CN5
  go_wp2_with fail
  refine CN5.out.mono ?_
  rintro _ w5' ⟨rfl, hk, hbl⟩
  have rz := HN5.out.frz (w1 := w5') (by rw [← hmE]; exact hbl) 15
  have HN6 := hide (HN5.out.step (w1 := w5') (by rw [← hmE]; exact hbl) 15 (.map (some mE)))
  have rc := HN5.out.cel (w1 := w5') (by rw [← hmE]; exact hbl) 15
  simp only [List.getElem?_toArray, List.getElem?_cons_zero, List.getElem?_cons_succ] at rc
  have HKK6 := hide (HKK5.out.step (w1 := w5') (by rw [← hmE]; exact hbl) 15 (.map (some mE)))
  have HKM6 := hide (HKM5.out.step (w1 := w5') (by rw [← hmE]; exact hbl) 15 (.map (some mE)))
  have HKP6 := hide (HKP5.out.step (w1 := w5') (by rw [← hmE]; exact hbl) 15 (.map (some mE)))
  have HKS6 := hide (HKS5.out.step (w1 := w5') (by rw [← hmE]; exact hbl) 15 (.map (some mE)))
  have HKR6 := hide (HKR5.out.step (w1 := w5') (by rw [← hmE]; exact hbl) 15 (.map (some mE)))
  have HKE6 : Hid (Kp R 41 (w5'.setCell ⟨R, 15, none⟩ (.map (some mE))) mE _) := hide (by rw [hmE] at hk ⊢; exact Kp.new hRX5 hk 15 _)
  simp only [List.setIfInBounds_toArray, List.set_cons_succ, List.set_cons_zero] at HN6
  clear hk hbl CN5 hmE s5 hRX5 HN5 HKK5 HKM5 HKP5 HKS5 HKR5
  go_upto_region 7 with fail
  generalize w5'.setCell ⟨R, 15, none⟩ (.map (some mE)) = X6 at *
  clear rz rc
  have s6 := cell_of_row X6 w.heap.size 8 _ _ _ HN6.out.sb
  simp only [List.getElem?_toArray, List.getElem?_cons_zero, List.getElem?_cons_succ] at s6
  have CN6 : Hid (Calls Tryz.prog _ _ X6 _) := hide (numT_any (w := X6) (a := a8) (c := b8) (by have := (HN6.out.sr HSR.out).totals; rw [HFS.out.2.2.2.2.2.2.2.2] at this; exact this) (Nat.le_of_lt (loc_lt HN6.out.box)) (by omega))
  have hRX6 : R < X6.heap.size := loc_lt HN6.out.box
  obtain ⟨mT, hmT⟩ : ∃ m, m = X6.heap.size := ⟨_, rfl⟩
  rw [← hmT] at CN6
  go_wp2_with fail
  refine CN6.out.mono ?_
  rintro _ w6' ⟨rfl, hk, hbl⟩
  have rz := HN6.out.frz (w1 := w6') (by rw [← hmT]; exact hbl) 16
  have HN7 := hide (HN6.out.step (w1 := w6') (by rw [← hmT]; exact hbl) 16 (.map (some mT)))
  have rc := HN6.out.cel (w1 := w6') (by rw [← hmT]; exact hbl) 16
  simp only [List.getElem?_toArray, List.getElem?_cons_zero, List.getElem?_cons_succ] at rc
  have rcc := HN6.out.cel (w1 := w6') (by rw [← hmT]; exact hbl) 17
  simp only [List.getElem?_toArray, List.getElem?_cons_zero, List.getElem?_cons_succ] at rcc
  have rzc := HN6.out.frz (w1 := w6') (by rw [← hmT]; exact hbl) 17
  have HKK7 := hide (HKK6.out.step (w1 := w6') (by rw [← hmT]; exact hbl) 16 (.map (some mT)))
  have HKM7 := hide (HKM6.out.step (w1 := w6') (by rw [← hmT]; exact hbl) 16 (.map (some mT)))
  have HKP7 := hide (HKP6.out.step (w1 := w6') (by rw [← hmT]; exact hbl) 16 (.map (some mT)))
  have HKS7 := hide (HKS6.out.step (w1 := w6') (by rw [← hmT]; exact hbl) 16 (.map (some mT)))
  have HKR7 := hide (HKR6.out.step (w1 := w6') (by rw [← hmT]; exact hbl) 16 (.map (some mT)))
  have HKE7 := hide (HKE6.out.step (w1 := w6') (by rw [← hmT]; exact hbl) 16 (.map (some mT)))
  have HKT7 : Hid (Kp R 9 (w6'.setCell ⟨R, 16, none⟩ (.map (some mT))) mT _) := hide (by rw [hmT] at hk ⊢; exact Kp.new hRX6 hk 16 _)
  simp only [List.setIfInBounds_toArray, List.set_cons_succ, List.set_cons_zero] at HN7
  clear hk hbl CN6 hmT s6 hRX6 HN6 HKK6 HKM6 HKP6 HKS6 HKR6 HKE6
  have hsz : (w6'.setCell ⟨R, 16, none⟩ (.map (some mT))).heap.size = w6'.heap.size := by simp
  have hsz2 : ((w6'.setCell ⟨R, 16, none⟩ (.map (some mT))).setCell ⟨R, 17, none⟩ (.map (some w6'.heap.size))).heap.size = w6'.heap.size := by simp
  have hRX7 : R < w6'.heap.size := by rw [← hsz]; exact loc_lt HN7.out.box
  have HN8 := hide ((HN7.out.step (w1 := (w6'.setCell ⟨R, 16, none⟩ (.map (some mT)))) (Below.refl _ _) 17 (.map (some w6'.heap.size))).below ((Below.refl _ _).alloc (Nat.le_refl _) (.map #[] 0)))
  have HN9 : Hid (Nm R w _ _ (((w6'.setCell ⟨R, 16, none⟩ (.map (some mT))).setCell ⟨R, 17, none⟩ (.map (some w6'.heap.size))).alloc (.map #[] 0))) := HN8
  simp only [List.setIfInBounds_toArray, List.set_cons_succ, List.set_cons_zero] at HN9
  have HKK8 := hide ((HKK7.out.step (w1 := (w6'.setCell ⟨R, 16, none⟩ (.map (some mT)))) (Below.refl _ _) 17 (.map (some w6'.heap.size))).below ((Below.refl _ _).alloc (Nat.le_refl _) (.map #[] 0)))
  have nK : mK < w6'.heap.size := by rw [← hsz]; exact HKK7.out.2.2
  have HKM8 := hide ((HKM7.out.step (w1 := (w6'.setCell ⟨R, 16, none⟩ (.map (some mT)))) (Below.refl _ _) 17 (.map (some w6'.heap.size))).below ((Below.refl _ _).alloc (Nat.le_refl _) (.map #[] 0)))
  have nM : mM < w6'.heap.size := by rw [← hsz]; exact HKM7.out.2.2
  have HKP8 := hide ((HKP7.out.step (w1 := (w6'.setCell ⟨R, 16, none⟩ (.map (some mT)))) (Below.refl _ _) 17 (.map (some w6'.heap.size))).below ((Below.refl _ _).alloc (Nat.le_refl _) (.map #[] 0)))
  have nP : mP < w6'.heap.size := by rw [← hsz]; exact HKP7.out.2.2
  have HKS8 := hide ((HKS7.out.step (w1 := (w6'.setCell ⟨R, 16, none⟩ (.map (some mT)))) (Below.refl _ _) 17 (.map (some w6'.heap.size))).below ((Below.refl _ _).alloc (Nat.le_refl _) (.map #[] 0)))
  have nS : mS < w6'.heap.size := by rw [← hsz]; exact HKS7.out.2.2
  have HKR8 := hide ((HKR7.out.step (w1 := (w6'.setCell ⟨R, 16, none⟩ (.map (some mT)))) (Below.refl _ _) 17 (.map (some w6'.heap.size))).below ((Below.refl _ _).alloc (Nat.le_refl _) (.map #[] 0)))
  have nR : mR < w6'.heap.size := by rw [← hsz]; exact HKR7.out.2.2
  have HKE8 := hide ((HKE7.out.step (w1 := (w6'.setCell ⟨R, 16, none⟩ (.map (some mT)))) (Below.refl _ _) 17 (.map (some w6'.heap.size))).below ((Below.refl _ _).alloc (Nat.le_refl _) (.map #[] 0)))
  have nE : mE < w6'.heap.size := by rw [← hsz]; exact HKE7.out.2.2
  have HKT8 := hide ((HKT7.out.step (w1 := (w6'.setCell ⟨R, 16, none⟩ (.map (some mT)))) (Below.refl _ _) 17 (.map (some w6'.heap.size))).below ((Below.refl _ _).alloc (Nat.le_refl _) (.map #[] 0)))
  have nT : mT < w6'.heap.size := by rw [← hsz]; exact HKT7.out.2.2
  have HKC8 : Hid (CMap (((w6'.setCell ⟨R, 16, none⟩ (.map (some mT))).setCell ⟨R, 17, none⟩ (.map (some w6'.heap.size))).alloc (.map #[] 0)) w6'.heap.size []) := by
    have := CMap.made ((w6'.setCell ⟨R, 16, none⟩ (.map (some mT))).setCell ⟨R, 17, none⟩ (.map (some w6'.heap.size)))
    rw [hsz2] at this
    exact this
  clear HKK7 HKM7 HKP7 HKS7 HKR7 HKE7 HKT7 HN7 HN8 hsz hsz2
  go_wp2_with fail
  go_end0
  refine ⟨rfl, HN9.out.fr, ⟨mK, mM, mP, mS, mR, mE, mT, w6'.heap.size⟩, ?_, HN9.out.sr HSR.out, HFIT.out, ?_, HKM8.out.1, HKP8.out.1, HKS8.out.1, HKR8.out.1, HKE8.out.1, HKT8.out.1, HKC8.out, ⟨HKK8.out.2.1, HKM8.out.2.1, HKP8.out.2.1, HKS8.out.2.1, HKR8.out.2.1, HKE8.out.2.1, HKT8.out.2.1, hRX7⟩, ?_⟩
  · obtain ⟨q0, q1, q2, q3, q4, q5, q6, q7, q8⟩ := HFS.out
    rw [q0, q1, q2, q3, q4, q5, q6, q7, q8]
    exact HN9.out.box
  · have := HKK8.out.1
    rw [List.map_id] at this
    exact this
  · refine ⟨?_, ?_, ?_, ?_, ?_, ?_, ?_⟩ <;> (simp only; omega)
end
end Go.Proofs.YtbdlgglbcaoakaaGreat
