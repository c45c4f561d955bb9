/- The classes, one behind the other. -/
import Derived.Test.YtbdlgglbcaoakaaGreatEachA8
import Derived.Test.YtbdlgglbcaoakaaGreatClass8
namespace Go.Proofs.YtbdlgglbcaoakaaGreat
open Go.RowKit Go.Shelf Go.Maps Go.WideMaps
section
variable {R : Nat} {S : StatM} {st : St9} {mp : Mp8} {it : Nat} {seen seen' : List Bytes} {w w' : World}
theorem Ec.no {o : Er Unit} {e : Ending} (h : Ec R S st mp it seen' w o e w') : (∃ c, o = .error c ∧ e = .panicked [fl c it] ∧ Fr (fun k => k = mp.C) w w') ∨ (o = .ok () ∧ e = .returned (.tuple #[]) ∧ Res R S st mp it seen' w' ∧ Fr (fun k => k = mp.C) w w') := by
  obtain ⟨hf, h⟩ := h
  cases o with
  | ok a => exact .inr ⟨rfl, h.1, h.2, hf⟩
  | error c => exact .inl ⟨c, rfl, h, hf⟩
theorem class_len {C : Ctx} {s l : List Bytes} (h : classM C s l = .ok ()) : l.length ≤ 16 := by
  unfold classM at h
  obtain ⟨_, h1, _⟩ := ex_ok h
  apply Classical.byContradiction
  intro hn
  rw [decide_eq_false (show ¬ ((l.length : Int) ≤ 16) by omega), Bool.and_false] at h1
  cases h1
theorem flat_snoc {l : List (List Bytes)} {i : Nat} {x : List Bytes} (hx : l[i]? = some x) : (l.take (i + 1)).flatten = (l.take i).flatten ++ x := by
  rw [take_snoc hx]; simp
abbrev clsM (S : StatM) : Nat → List Bytes → Er Unit := fun n l => classM S.ctx (S.classes.take n).flatten l
set_option maxRecDepth 100000 in
set_option maxHeartbeats 12800000 in
theorem eachC_any (h : Res R S st mp it [] w) {a : Option Addr} {c : Nat} (hl : RR R 1 (cClass R) w S.classes (.slice a S.classes.length c)) (hit : it ≤ 4096) (hn : S.classes.length ≤ 64) :
    Calls Tryz.prog 67 #[ptr R, .slice a S.classes.length c, .func (.func 68) #[ptr R] #[]] w fun e w' => Ee R S st mp it S.classes.flatten w (S.classes.mapIdx (clsM S)) e w' := by
  have H := hide h
  have HL := hide hl
  clear h hl
  go_enter Tryz.func67, Tryz.ntmps67
  go_wp2_with fail
  go_loopw [10] (fun x wr => ∃ i : Nat, i ≤ S.classes.length ∧ x = .int .i64 i ∧ Hid (Res R S st mp (it + i) (S.classes.take i).flatten wr) ∧ Hid (Fr (Zi R mp) w wr) ∧ Hid (AllOk ((S.classes.mapIdx (clsM S)).take i)) ∧ ((S.classes.take i).flatten).length ≤ 16 * i) (fun x _ => S.classes.length - (intOf x).toNat)
  case atStart => exact ⟨0, by omega, rfl, H, hide (.refl _ _), hide (by rw [List.take_zero]; exact AllOk.nil), by simp⟩
  case round =>
    obtain ⟨i, hi, rfl, HR, HF, HA, hsn⟩ := hrel
    by_cases hlt : i < S.classes.length
    · obtain ⟨x, hx⟩ : ∃ x, S.classes[i]? = some x := ⟨S.classes[i], List.getElem?_eq_getElem hlt⟩
      have HI : Hid ((S.classes.mapIdx (clsM S))[i]? = some (clsM S i x)) := by rw [List.getElem?_mapIdx, hx]; rfl
      have hl2 := RR.keep HL.out (zi_keep H.out HF.out) (fun _ _ h => h.keep (zi_keep H.out HF.out))
      obtain ⟨gg, oo, ka, kc, hga, hg, e0, hks⟩ := at_C hl2 hx
      cases hga
      have CK := hide (class_any HR.out i (by omega) x hks (by omega))
      have HX := hide (flat_snoc hx)
      clear hx hl2 hks
      go_wp2_with fail
      refine CK.out.mono ?_
      intro e w2 hE
      rcases hE.no with ⟨c1, h3, rfl, hf⟩ | ⟨h3, rfl, hR2, hf⟩
      · exact ⟨rfl, Ee.bad (HF.out.trans (hf.mono fun k _ hk => .inr hk)) HA.out HI.out h3⟩
      have HA2 := hide (AllOk.snoc HA.out HI.out h3)
      rw [← HX.out] at hR2
      have hlen : ((S.classes.take (i + 1)).flatten).length ≤ 16 * (i + 1) := by
        have := class_len h3
        rw [HX.out, List.length_append]
        omega
      have HR2 := hide hR2.count
      have HF2 := hide ((HF.out.trans (hf.mono fun k _ hk => .inr hk)).trans (.setCell ⟨R, 9, none⟩ (.int .i64 ((it + i + 1 : Nat) : Int)) (.inl rfl)))
      have r9 := hR2.c9
      have rz := hR2.frz 9
      have hcast : (((it + i : Nat) : Int) + 1) = ((it + i + 1 : Nat) : Int) := by omega
      clear hE h3 hf CK hR2 HR HF HA HI HX
      go_wp2_with fail
      go_roundw
      case rel => exact ⟨i + 1, by omega, by go_num, HR2, HF2, HA2, hlen⟩
      case measure => simp [intOf]; omega
    · have e : i = S.classes.length := by omega
      go_wp2_with fail
      go_end0
      exact Ee.ok (n := i) HF.out (by rw [List.length_mapIdx]; omega) (by rw [List.length_mapIdx]; omega) HA.out (by
        have := HR.out
        rw [e, List.take_length] at this
        rw [e]
        exact this)
end
end Go.Proofs.YtbdlgglbcaoakaaGreat
/- How long the lists may be. -/
namespace Go.Proofs.YtbdlgglbcaoakaaGreat
open Go.RowKit Go.Shelf Go.Maps Go.WideMaps
section
variable {R : Nat} {S : StatM} {st : St9} {w w' : World}
/-- A resolver that has numbered nothing yet. -/
structure Raw (R : Nat) (S : StatM) (st : St9) (w : World) : Prop where
  box : w.heap[R]? = some (.cells #[st.title, st.kinds, st.members, st.preds, st.classes, st.sources, st.rules, st.excepts, st.totals, .int .i64 0, .map none, .map none, .map none, .map none, .map none, .map none, .map none, .map none] 86 (0, 0))
  rep : SR R w S st
theorem Raw.keep (h : Raw R S st w) (hb : ∀ k, k < w.heap.size → w'.heap[k]? = w.heap[k]?) : Raw R S st w' := by
  have hR := loc_lt h.box
  exact ⟨(hb R hR).trans h.box, h.rep.keep fun g hg => hb g (by omega)⟩
theorem Raw.below (h : Raw R S st w) (hb : Below w.heap.size w w') : Raw R S st w' := h.keep hb.block
def countsM (S : StatM) : Er Unit :=
  wantM (decide ((S.kinds.length : Int) ≤ 16)) 3 >>= fun _ => wantM (decide ((S.members.length : Int) ≤ 64)) 3 >>= fun _ => wantM (decide ((S.preds.length : Int) ≤ 256)) 3 >>= fun _ => wantM (decide ((S.classes.length : Int) ≤ 64)) 3 >>= fun _ =>
  wantM (decide ((S.sources.length : Int) ≤ 64)) 3 >>= fun _ => wantM (decide ((S.rules.length : Int) ≤ 512)) 3 >>= fun _ => wantM (decide ((S.excepts.length : Int) ≤ 512)) 3 >>= fun _ => wantM (decide ((S.totals.length : Int) ≤ 64)) 3
set_option maxRecDepth 100000 in
set_option maxHeartbeats 12800000 in
theorem counts_any (h : Raw R S st w) : Calls Tryz.prog 28 #[ptr R] w fun e w' => Ed w 0 rU (countsM S) e w' := by
  obtain ⟨tt, ht⟩ := h.rep.title
  obtain ⟨a1, b1, f1, _, l1⟩ := h.rep.kinds.form
  obtain ⟨a2, b2, f2, _, l2⟩ := h.rep.members.form
  obtain ⟨a3, b3, f3, _, l3⟩ := h.rep.preds.form
  obtain ⟨a4, b4, f4, _, l4⟩ := h.rep.classes.form
  obtain ⟨a5, b5, f5, _, l5⟩ := h.rep.sources.form
  obtain ⟨a6, b6, f6, _, l6⟩ := h.rep.rules.form
  obtain ⟨a7, b7, f7, _, l7⟩ := h.rep.excepts.form
  obtain ⟨a8, b8, f8, _, l8⟩ := h.rep.totals.form
  have hb := h.box
  rw [ht, f1, f2, f3, f4, f5, f6, f7, f8] at hb
  have y0 := cell_of_row w R 0 _ _ _ hb
  have y1 := cell_of_row w R 1 _ _ _ hb
  have y2 := cell_of_row w R 2 _ _ _ hb
  have y3 := cell_of_row w R 3 _ _ _ hb
  have y4 := cell_of_row w R 4 _ _ _ hb
  have y5 := cell_of_row w R 5 _ _ _ hb
  have y6 := cell_of_row w R 6 _ _ _ hb
  have y7 := cell_of_row w R 7 _ _ _ hb
  have y8 := cell_of_row w R 8 _ _ _ hb
  have y9 := cell_of_row w R 9 _ _ _ hb
  simp only [List.getElem?_toArray, List.getElem?_cons_zero, List.getElem?_cons_succ] at y0 y1 y2 y3 y4 y5 y6 y7 y8 y9
  have hA : Below w.heap.size w (w.alloc (.cells #[.string tt, .slice a1 S.kinds.length b1, .slice a2 S.members.length b2, .slice a3 S.preds.length b3, .slice a4 S.classes.length b4, .slice a5 S.sources.length b5, .slice a6 S.rules.length b6, .slice a7 S.excepts.length b7, .slice a8 S.totals.length b8] 31)) := (Below.refl _ _).alloc (Nat.le_refl _) _
  have HA := hide hA
  have CW := hide (fun b c => want_any (it := 0) ((World.cell?_of_block (hA.block R (loc_lt hb))).trans y9) b c)
  obtain ⟨o, ho⟩ : ∃ o, countsM S = o := ⟨_, rfl⟩
  rw [ho]
  have HO0 := hide ho
  unfold countsM at HO0
  clear h hb ht f1 f2 f3 f4 f5 f6 f7 f8 hA ho y9
  go_enter Tryz.func28, Tryz.ntmps28
  go_wp2_with fail
  refine (CW.out _ _).mono ?_
  intro e w2 hE
  rcases hE.no with ⟨c1, h3, rfl, hw⟩ | ⟨_, h3, rfl, hw⟩
  · subst w2
    exact on_panic rfl (Ed.bad (ex_no HO0.out h3) HA.out)
  subst w2
  have HO1 := hide (ex_go HO0.out h3)
  clear hE h3 HO0
  go_wp2_with fail
  refine (CW.out _ _).mono ?_
  intro e w2 hE
  rcases hE.no with ⟨c1, h3, rfl, hw⟩ | ⟨_, h3, rfl, hw⟩
  · subst w2
    exact on_panic rfl (Ed.bad (ex_no HO1.out h3) HA.out)
  subst w2
  have HO2 := hide (ex_go HO1.out h3)
  clear hE h3 HO1
  go_wp2_with fail
  refine (CW.out _ _).mono ?_
  intro e w2 hE
  rcases hE.no with ⟨c1, h3, rfl, hw⟩ | ⟨_, h3, rfl, hw⟩
  · subst w2
    exact on_panic rfl (Ed.bad (ex_no HO2.out h3) HA.out)
  subst w2
  have HO3 := hide (ex_go HO2.out h3)
  clear hE h3 HO2
  go_wp2_with fail
  refine (CW.out _ _).mono ?_
  intro e w2 hE
  rcases hE.no with ⟨c1, h3, rfl, hw⟩ | ⟨_, h3, rfl, hw⟩
  · subst w2
    exact on_panic rfl (Ed.bad (ex_no HO3.out h3) HA.out)
  subst w2
  have HO4 := hide (ex_go HO3.out h3)
  clear hE h3 HO3
  go_wp2_with fail
  refine (CW.out _ _).mono ?_
  intro e w2 hE
  rcases hE.no with ⟨c1, h3, rfl, hw⟩ | ⟨_, h3, rfl, hw⟩
  · subst w2
    exact on_panic rfl (Ed.bad (ex_no HO4.out h3) HA.out)
  subst w2
  have HO5 := hide (ex_go HO4.out h3)
  clear hE h3 HO4
  go_wp2_with fail
  refine (CW.out _ _).mono ?_
  intro e w2 hE
  rcases hE.no with ⟨c1, h3, rfl, hw⟩ | ⟨_, h3, rfl, hw⟩
  · subst w2
    exact on_panic rfl (Ed.bad (ex_no HO5.out h3) HA.out)
  subst w2
  have HO6 := hide (ex_go HO5.out h3)
  clear hE h3 HO5
  go_wp2_with fail
  refine (CW.out _ _).mono ?_
  intro e w2 hE
  rcases hE.no with ⟨c1, h3, rfl, hw⟩ | ⟨_, h3, rfl, hw⟩
  · subst w2
    exact on_panic rfl (Ed.bad (ex_no HO6.out h3) HA.out)
  subst w2
  have HO7 := hide (ex_go HO6.out h3)
  clear hE h3 HO6
  go_wp2_with fail
  refine (CW.out _ _).mono ?_
  intro e w2 hE
  rcases hE.no with ⟨c1, h3, rfl, hw⟩ | ⟨_, h3, rfl, hw⟩
  · subst w2
    exact on_panic rfl (Ed.bad (h3.symm.trans HO7.out) HA.out)
  subst w2
  go_wp2_with fail
  go_end0
  exact Ed.ok (h3.symm.trans HO7.out) rfl HA.out
theorem want_err {b : Bool} {c c' : Int} {β : Type} {f : Unit → Er β} (h : (wantM b c >>= f) = .error c') : c' = c ∨ f () = .error c' := by
  cases b
  · left; injection h with e; exact e.symm
  · exact .inr h
theorem want_err1 {b : Bool} {c c' : Int} (h : wantM b c = .error c') : c' = c := by
  cases b
  · injection h with e; exact e.symm
  · cases h
theorem counts_fits (h : S.fitsB = true) : countsM S = .ok () := by
  unfold StatM.fitsB at h
  simp only [Bool.and_eq_true, decide_eq_true_eq] at h
  obtain ⟨⟨⟨⟨⟨⟨⟨h1, h2⟩, h3⟩, h4⟩, h5⟩, h6⟩, h7⟩, h8⟩ := h
  unfold countsM
  rw [decide_eq_true (by omega : (S.kinds.length : Int) ≤ 16), decide_eq_true (by omega : (S.members.length : Int) ≤ 64), decide_eq_true (by omega : (S.preds.length : Int) ≤ 256), decide_eq_true (by omega : (S.classes.length : Int) ≤ 64), decide_eq_true (by omega : (S.sources.length : Int) ≤ 64), decide_eq_true (by omega : (S.rules.length : Int) ≤ 512), decide_eq_true (by omega : (S.excepts.length : Int) ≤ 512), decide_eq_true (by omega : (S.totals.length : Int) ≤ 64)]
  rfl
theorem counts_not (h : S.fitsB = false) : countsM S = .error 3 := by
  cases hc : countsM S with
  | error c =>
    unfold countsM at hc
    rcases want_err hc with rfl | hc
    · rfl
    rcases want_err hc with rfl | hc
    · rfl
    rcases want_err hc with rfl | hc
    · rfl
    rcases want_err hc with rfl | hc
    · rfl
    rcases want_err hc with rfl | hc
    · rfl
    rcases want_err hc with rfl | hc
    · rfl
    rcases want_err hc with rfl | hc
    · rfl
    rcases want_err1 hc with rfl
    rfl
  | ok u =>
    exfalso
    unfold countsM at hc
    obtain ⟨_, h1, hc⟩ := ex_ok hc
    obtain ⟨_, h2, hc⟩ := ex_ok hc
    obtain ⟨_, h3, hc⟩ := ex_ok hc
    obtain ⟨_, h4, hc⟩ := ex_ok hc
    obtain ⟨_, h5, hc⟩ := ex_ok hc
    obtain ⟨_, h6, hc⟩ := ex_ok hc
    obtain ⟨_, h7, h8⟩ := ex_ok hc
    have g : ∀ {b : Bool} {c : Int} {u : Unit}, wantM b c = .ok u → b = true := by
      intro b c u h
      cases b
      · cases h
      · rfl
    have k1 := of_decide_eq_true (g h1)
    have k2 := of_decide_eq_true (g h2)
    have k3 := of_decide_eq_true (g h3)
    have k4 := of_decide_eq_true (g h4)
    have k5 := of_decide_eq_true (g h5)
    have k6 := of_decide_eq_true (g h6)
    have k7 := of_decide_eq_true (g h7)
    have k8 := of_decide_eq_true (g h8)
    have : S.fitsB = true := by
      unfold StatM.fitsB
      simp only [Bool.and_eq_true, decide_eq_true_eq]
      refine ⟨⟨⟨⟨⟨⟨⟨?_, ?_⟩, ?_⟩, ?_⟩, ?_⟩, ?_⟩, ?_⟩, ?_⟩ <;> omega
    rw [h] at this
    cases this
end
end Go.Proofs.YtbdlgglbcaoakaaGreat
