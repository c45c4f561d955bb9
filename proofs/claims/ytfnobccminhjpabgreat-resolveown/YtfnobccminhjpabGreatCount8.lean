/- How long the lists may be. -/
import Derived.Test.YtfnobccminhjpabGreatEachC8
namespace Go.Proofs.YtfnobccminhjpabGreat
open Go.RowKit Go.Shelf Go.Maps Go.WideMaps
section
variable {R : Nat} {S : StatM} {st : St9} {w w' : World}
/-- A resolver that has numbered nothing yet. -/
structure Raw (R : Nat) (S : StatM) (st : St9) (w : World) : Prop where
  box : w.heap[R]? = some (.cells #[st.title, st.kinds, st.members, st.preds, st.classes, st.sources, st.rules, st.excepts, st.totals, .int .i64 0, .map none, .map none, .map none, .map none, .map none, .map none, .map none, .map none] 125 (0, 0))
  rep : SR R w S st
theorem Raw.keep (h : Raw R S st w) (hb : ∀ k, k < w.heap.size → w'.heap[k]? = w.heap[k]?) : Raw R S st w' := by
  have hR := loc_lt h.box
  exact ⟨(hb R hR).trans h.box, h.rep.keep fun g hg => hb g (by omega)⟩
theorem Raw.below (h : Raw R S st w) (hb : Below w.heap.size w w') : Raw R S st w' := h.keep hb.block
def countsM (S : StatM) : Er Unit :=
  wantM (decide ((S.kinds.length : Int) ≤ 16)) 3 >>= fun _ => wantM (decide ((S.members.length : Int) ≤ 64)) 3 >>= fun _ => wantM (decide ((S.preds.length : Int) ≤ 256)) 3 >>= fun _ => wantM (decide ((S.classes.length : Int) ≤ 64)) 3 >>= fun _ =>
  wantM (decide ((S.sources.length : Int) ≤ 64)) 3 >>= fun _ => wantM (decide ((S.rules.length : Int) ≤ 512)) 3 >>= fun _ => wantM (decide ((S.excepts.length : Int) ≤ 512)) 3 >>= fun _ => wantM (decide ((S.totals.length : Int) ≤ 64)) 3
set_option maxRecDepth 100000 in
set_option maxHeartbeats 12800000 in
theorem counts_any (h : Raw R S st w) : Calls Tryz.prog 56 #[ptr R] w fun e w' => Ed w 0 rU (countsM S) e w' := by
  obtain ⟨tt, ht⟩ := h.rep.title
  obtain ⟨a1, b1, f1, _, l1⟩ := h.rep.kinds.form
  obtain ⟨a2, b2, f2, _, l2⟩ := h.rep.members.form
  obtain ⟨a3, b3, f3, _, l3⟩ := h.rep.preds.form
  obtain ⟨a4, b4, f4, _, l4⟩ := h.rep.classes.form
  obtain ⟨a5, b5, f5, _, l5⟩ := h.rep.sources.form
  obtain ⟨a6, b6, f6, _, l6⟩ := h.rep.rules.form
  obtain ⟨a7, b7, f7, _, l7⟩ := h.rep.excepts.form
  obtain ⟨a8, b8, f8, _, l8⟩ := h.rep.totals.form
  have hb := h.box
  rw [ht, f1, f2, f3, f4, f5, f6, f7, f8] at hb
  have y0 := cell_of_row w R 0 _ _ _ hb
  have y1 := cell_of_row w R 1 _ _ _ hb
  have y2 := cell_of_row w R 2 _ _ _ hb
  have y3 := cell_of_row w R 3 _ _ _ hb
  have y4 := cell_of_row w R 4 _ _ _ hb
  have y5 := cell_of_row w R 5 _ _ _ hb
  have y6 := cell_of_row w R 6 _ _ _ hb
  have y7 := cell_of_row w R 7 _ _ _ hb
  have y8 := cell_of_row w R 8 _ _ _ hb
  have y9 := cell_of_row w R 9 _ _ _ hb
  simp only [List.getElem?_toArray, List.getElem?_cons_zero, List.getElem?_cons_succ] at y0 y1 y2 y3 y4 y5 y6 y7 y8 y9
  have hA : Below w.heap.size w (w.alloc (.cells #[.string tt, .slice a1 S.kinds.length b1, .slice a2 S.members.length b2, .slice a3 S.preds.length b3, .slice a4 S.classes.length b4, .slice a5 S.sources.length b5, .slice a6 S.rules.length b6, .slice a7 S.excepts.length b7, .slice a8 S.totals.length b8] 31)) := (Below.refl _ _).alloc (Nat.le_refl _) _
  have HA := hide hA
  have CW := hide (fun b c => want_any (it := 0) ((World.cell?_of_block (hA.block R (loc_lt hb))).trans y9) b c)
  obtain ⟨o, ho⟩ : ∃ o, countsM S = o := ⟨_, rfl⟩
  rw [ho]
  have HO0 := hide ho
  unfold countsM at HO0
  clear h hb ht f1 f2 f3 f4 f5 f6 f7 f8 hA ho y9
  go_enter Tryz.func56, Tryz.ntmps56
  go_wp2_with fail
  refine (CW.out _ _).mono ?_
  intro e w2 hE
  rcases hE.no with ⟨c1, h3, rfl, hw⟩ | ⟨_, h3, rfl, hw⟩
  · subst w2
    exact on_panic rfl (Ed.bad (ex_no HO0.out h3) HA.out)
  subst w2
  have HO1 := hide (ex_go HO0.out h3)
  clear hE h3 HO0
  go_wp2_with fail
  refine (CW.out _ _).mono ?_
  intro e w2 hE
  rcases hE.no with ⟨c1, h3, rfl, hw⟩ | ⟨_, h3, rfl, hw⟩
  · subst w2
    exact on_panic rfl (Ed.bad (ex_no HO1.out h3) HA.out)
  subst w2
  have HO2 := hide (ex_go HO1.out h3)
  clear hE h3 HO1
  go_wp2_with fail
  refine (CW.out _ _).mono ?_
  intro e w2 hE
  rcases hE.no with ⟨c1, h3, rfl, hw⟩ | ⟨_, h3, rfl, hw⟩
  · subst w2
    exact on_panic rfl (Ed.bad (ex_no HO2.out h3) HA.out)
  subst w2
  have HO3 := hide (ex_go HO2.out h3)
  clear hE h3 HO2
  go_wp2_with fail
  refine (CW.out _ _).mono ?_
  intro e w2 hE
  rcases hE.no with ⟨c1, h3, rfl, hw⟩ | ⟨_, h3, rfl, hw⟩
  · subst w2
    exact on_panic rfl (Ed.bad (ex_no HO3.out h3) HA.out)
  subst w2
  have HO4 := hide (ex_go HO3.out h3)
  clear hE h3 HO3
  go_wp2_with fail
  refine (CW.out _ _).mono ?_
  intro e w2 hE
  rcases hE.no with ⟨c1, h3, rfl, hw⟩ | ⟨_, h3, rfl, hw⟩
  · subst w2
    exact on_panic rfl (Ed.bad (ex_no HO4.out h3) HA.out)
  subst w2
  have HO5 := hide (ex_go HO4.out h3)
  clear hE h3 HO4
  go_wp2_with fail
  refine (CW.out _ _).mono ?_
  intro e w2 hE
  rcases hE.no with ⟨c1, h3, rfl, hw⟩ | ⟨_, h3, rfl, hw⟩
  · subst w2
    exact on_panic rfl (Ed.bad (ex_no HO5.out h3) HA.out)
  subst w2
  have HO6 := hide (ex_go HO5.out h3)
  clear hE h3 HO5
  go_wp2_with fail
  refine (CW.out _ _).mono ?_
  intro e w2 hE
  rcases hE.no with ⟨c1, h3, rfl, hw⟩ | ⟨_, h3, rfl, hw⟩
  · subst w2
    exact on_panic rfl (Ed.bad (ex_no HO6.out h3) HA.out)
  subst w2
  have HO7 := hide (ex_go HO6.out h3)
  clear hE h3 HO6
  go_wp2_with fail
  refine (CW.out _ _).mono ?_
  intro e w2 hE
  rcases hE.no with ⟨c1, h3, rfl, hw⟩ | ⟨_, h3, rfl, hw⟩
  · subst w2
    exact on_panic rfl (Ed.bad (h3.symm.trans HO7.out) HA.out)
  subst w2
  go_wp2_with fail
  go_end0
  exact Ed.ok (h3.symm.trans HO7.out) rfl HA.out
theorem want_err {b : Bool} {c c' : Int} {β : Type} {f : Unit → Er β} (h : (wantM b c >>= f) = .error c') : c' = c ∨ f () = .error c' := by
  cases b
  · left; injection h with e; exact e.symm
  · exact .inr h
theorem want_err1 {b : Bool} {c c' : Int} (h : wantM b c = .error c') : c' = c := by
  cases b
  · injection h with e; exact e.symm
  · cases h
theorem counts_fits (h : S.fitsB = true) : countsM S = .ok () := by
  unfold StatM.fitsB at h
  simp only [Bool.and_eq_true, decide_eq_true_eq] at h
  obtain ⟨⟨⟨⟨⟨⟨⟨h1, h2⟩, h3⟩, h4⟩, h5⟩, h6⟩, h7⟩, h8⟩ := h
  unfold countsM
  rw [decide_eq_true (by omega : (S.kinds.length : Int) ≤ 16), decide_eq_true (by omega : (S.members.length : Int) ≤ 64), decide_eq_true (by omega : (S.preds.length : Int) ≤ 256), decide_eq_true (by omega : (S.classes.length : Int) ≤ 64), decide_eq_true (by omega : (S.sources.length : Int) ≤ 64), decide_eq_true (by omega : (S.rules.length : Int) ≤ 512), decide_eq_true (by omega : (S.excepts.length : Int) ≤ 512), decide_eq_true (by omega : (S.totals.length : Int) ≤ 64)]
  rfl
theorem counts_not (h : S.fitsB = false) : countsM S = .error 3 := by
  cases hc : countsM S with
  | error c =>
    unfold countsM at hc
    rcases want_err hc with rfl | hc
    · rfl
    rcases want_err hc with rfl | hc
    · rfl
    rcases want_err hc with rfl | hc
    · rfl
    rcases want_err hc with rfl | hc
    · rfl
    rcases want_err hc with rfl | hc
    · rfl
    rcases want_err hc with rfl | hc
    · rfl
    rcases want_err hc with rfl | hc
    · rfl
    rcases want_err1 hc with rfl
    rfl
  | ok u =>
    exfalso
    unfold countsM at hc
    obtain ⟨_, h1, hc⟩ := ex_ok hc
    obtain ⟨_, h2, hc⟩ := ex_ok hc
    obtain ⟨_, h3, hc⟩ := ex_ok hc
    obtain ⟨_, h4, hc⟩ := ex_ok hc
    obtain ⟨_, h5, hc⟩ := ex_ok hc
    obtain ⟨_, h6, hc⟩ := ex_ok hc
    obtain ⟨_, h7, h8⟩ := ex_ok hc
    have g : ∀ {b : Bool} {c : Int} {u : Unit}, wantM b c = .ok u → b = true := by
      intro b c u h
      cases b
      · cases h
      · rfl
    have k1 := of_decide_eq_true (g h1)
    have k2 := of_decide_eq_true (g h2)
    have k3 := of_decide_eq_true (g h3)
    have k4 := of_decide_eq_true (g h4)
    have k5 := of_decide_eq_true (g h5)
    have k6 := of_decide_eq_true (g h6)
    have k7 := of_decide_eq_true (g h7)
    have k8 := of_decide_eq_true (g h8)
    have : S.fitsB = true := by
      unfold StatM.fitsB
      simp only [Bool.and_eq_true, decide_eq_true_eq]
      refine ⟨⟨⟨⟨⟨⟨⟨?_, ?_⟩, ?_⟩, ?_⟩, ?_⟩, ?_⟩, ?_⟩, ?_⟩ <;> omega
    rw [h] at this
    cases this
end
end Go.Proofs.YtfnobccminhjpabGreat
