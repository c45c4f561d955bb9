/- The page's guard. -/
import Derived.Test.YtbdlgglbcaoakaaGreatBkM9
namespace Go.Proofs.YtbdlgglbcaoakaaGreat
open Go.RowKit Go.Shelf Go.Maps Go.WideMaps

theorem terms_app (C : Ctx) : ∀ (l r : List TermM) (v : Scope), (termsM C v l >>= fun v' => termsM C v' r) = termsM C v (l ++ r)
  | [], r, v => rfl
  | t :: l, r, v => by
    show ((termM C v t >>= fun v' => termsM C v' l) >>= _) = (termM C v t >>= fun v' => termsM C v' (l ++ r))
    cases termM C v t with
    | error c => rfl
    | ok v' => exact terms_app C l r v'
section
variable {W0 : World} {S : StatM} {st : St9} {Z : Nat → Prop} {V B : Nat} {v : Scope} {X : World}
set_option maxRecDepth 100000 in
set_option maxHeartbeats 12800000 in
theorem rguard_any (h9 : Pk W0 S st Z V B v X) (hB : B + 64 ≤ 4096) (hok : PredsOk S) (g : GuardM) {la ra : Option Addr} {lc rc nl nr : Nat} (hnl : g.left.length = nl) (hnr : g.right.length = nr) (hl : Terms W0.heap.size W0 g.left (.slice la nl lc)) (hr : Terms W0.heap.size W0 g.right (.slice ra nr rc)) :
    Calls Tryz.prog 105 #[ptr V, st.agg, .agg #[.slice la nl lc, .int .i64 g.op, .slice ra nr rc]] X fun e X' => Eks W0 S st Z V (B + 64) X (guardM S.ctx v g) e X' := by
  have h := h9.sr
  have hll : nl ≤ 140737488351232 := by obtain ⟨_, _, _, _, h⟩ := hl.form; omega
  have hrl : nr ≤ 140737488351232 := by obtain ⟨_, _, _, _, h⟩ := hr.form; omega
  obtain ⟨tt, ht⟩ := h.title
  obtain ⟨a1, b1, f1, _, _⟩ := h.kinds.form
  obtain ⟨a2, b2, f2, _, _⟩ := h.members.form
  obtain ⟨a3, b3, f3, _, _⟩ := h.preds.form
  obtain ⟨a4, b4, f4, _, _⟩ := h.classes.form
  obtain ⟨a5, b5, f5, _, _⟩ := h.sources.form
  obtain ⟨a6, b6, f6, _, _⟩ := h.rules.form
  obtain ⟨a7, b7, f7, _, _⟩ := h.excepts.form
  obtain ⟨a8, b8, f8, _, _⟩ := h.totals.form
  obtain ⟨s0, s1, s2, s3, s4, s5, s6, s7, s8⟩ := st
  simp only at ht f1 f2 f3 f4 f5 f6 f7 f8
  subst ht f1 f2 f3 f4 f5 f6 f7 f8
  obtain ⟨Z2, hP2, hzs, hn1, hn2, hf0, hb1, hb2, hVl⟩ := h9.box2 (.cells #[.string tt, .slice a1 S.kinds.length b1, .slice a2 S.members.length b2, .slice a3 S.preds.length b3, .slice a4 S.classes.length b4, .slice a5 S.sources.length b5, .slice a6 S.rules.length b6, .slice a7 S.excepts.length b7, .slice a8 S.totals.length b8] 31) (.cells #[.slice la nl lc, .int .i64 g.op, .slice ra nr rc] 158)
  have H9 := hide h9
  have H2 := hide hP2
  have HZS := hide hzs
  have HN1 := hide hn1
  have HN2 := hide hn2
  have HF0 := hide hf0
  have HB1 := hide hb1
  have HB2 := hide hb2
  have HL := hide hl
  have HR := hide hr
  have HOK := hide hok
  have HNL := hide hnl
  have HNR := hide hnr
  obtain ⟨o, ho⟩ : ∃ o, guardM S.ctx v g = o := ⟨_, rfl⟩
  rw [ho]
  have HO := hide ho
  unfold guardM sideB at HO
  rw [hnl, hnr] at HO
  obtain ⟨H, hH⟩ : ∃ H, H = X.heap.size := ⟨_, rfl⟩
  rw [← hH] at HN1 HN2 HB1 HB2
  clear h9 h ho hP2 hzs hn1 hn2 hf0 hb1 hb2 hl hr hok hnl hnr
  unfold St9.agg at *
  simp only at *
  go_enter Tryz.func105, Tryz.ntmps105
  go_upto_region 1 with fail
  rw [← hH]
  generalize ((X.alloc (.cells #[.string tt, .slice a1 S.kinds.length b1, .slice a2 S.members.length b2, .slice a3 S.preds.length b3, .slice a4 S.classes.length b4, .slice a5 S.sources.length b5, .slice a6 S.rules.length b6, .slice a7 S.excepts.length b7, .slice a8 S.totals.length b8] 31)).alloc (.cells #[.slice la nl lc, .int .i64 g.op, .slice ra nr rc] 158)) = X2 at *
  clear hH
  have d0 := cell_of_row X2 _ 0 _ _ _ HB2.out
  have d1 := cell_of_row X2 _ 1 _ _ _ HB2.out
  have d2 := cell_of_row X2 _ 2 _ _ _ HB2.out
  simp only [List.getElem?_toArray, List.getElem?_cons_zero, List.getElem?_cons_succ] at d0 d1 d2
  have bad1 : ∀ (hv : (decide (1 ≤ g.op) && decide (g.op ≤ 6)) = false), Hid (.error 101 = o) := by
    intro hv
    have := HO.out
    rw [want_f hv] at this
    exact this
  by_cases ho1 : 1 ≤ g.op
  case neg =>
    have hoo := bad1 (by rw [decide_eq_false ho1]; rfl)
    have hx1 : g.op < 1 := by omega
    clear bad1
    go_wp2_with fail
    go_ret
    exact Eks.bad hoo.out HF0.out
  have hx1 : ¬ g.op < 1 := by omega
  by_cases ho2 : g.op ≤ 6
  case neg =>
    have hoo := bad1 (by rw [decide_eq_false ho2, Bool.and_false])
    have hx2 : 6 < g.op := by omega
    clear bad1
    go_wp2_with fail
    go_ret
    exact Eks.bad hoo.out HF0.out
  have hx2 : ¬ 6 < g.op := by omega
  have HO2 : Hid ((wantM ((decide (1 ≤ nl) && decide (nl ≤ 8)) && (decide (1 ≤ nr) && decide (nr ≤ 8))) 101 >>= fun _ => termsM S.ctx v g.left >>= fun v' => termsM S.ctx v' g.right) = o) := by
    have := HO.out
    rw [want_t (by rw [decide_eq_true ho1, decide_eq_true ho2]; rfl)] at this
    exact this
  clear bad1 HO ho1 ho2
  have bad : ∀ (hv : ((decide (1 ≤ nl) && decide (nl ≤ 8)) && (decide (1 ≤ nr) && decide (nr ≤ 8))) = false), Hid (.error 101 = o) := by
    intro hv
    have := HO2.out
    rw [want_f hv] at this
    exact this
  by_cases hl0 : nl = 0
  · have hoo := bad (by rw [hl0]; rfl)
    subst hl0
    clear bad
    go_wp2_with fail
    go_ret
    exact Eks.bad hoo.out HF0.out
  have hy0 : ((nl : Int) == 0) = false := beq_eq_false_iff_ne.2 (by omega)
  by_cases hl8 : 8 < nl
  · have hoo := bad (by rw [decide_eq_false (show ¬ nl ≤ 8 by omega), Bool.and_false, Bool.false_and])
    have hy8 : (8 : Int) < (nl : Int) := by omega
    clear bad
    go_wp2_with fail
    go_ret
    exact Eks.bad hoo.out HF0.out
  have hy8 : ¬ (8 : Int) < (nl : Int) := by omega
  by_cases hr0 : nr = 0
  · have hoo := bad (by rw [hr0, Bool.and_comm]; rfl)
    subst hr0
    clear bad
    go_wp2_with fail
    go_ret
    exact Eks.bad hoo.out HF0.out
  have hz0 : ((nr : Int) == 0) = false := beq_eq_false_iff_ne.2 (by omega)
  by_cases hr8 : 8 < nr
  · have hoo := bad (by rw [decide_eq_false (show ¬ nr ≤ 8 by omega), Bool.and_false, Bool.and_false])
    have hz8 : (8 : Int) < (nr : Int) := by omega
    clear bad
    go_wp2_with fail
    go_ret
    exact Eks.bad hoo.out HF0.out
  have hz8 : ¬ (8 : Int) < (nr : Int) := by omega
  have HO3 : Hid (termsM S.ctx v (g.left ++ g.right) = o) := by
    have := HO2.out
    rw [want_t (by rw [decide_eq_true (show 1 ≤ nl by omega), decide_eq_true (show nl ≤ 8 by omega), decide_eq_true (show 1 ≤ nr by omega), decide_eq_true (show nr ≤ 8 by omega)]; rfl)] at this
    rw [← terms_app]
    exact this
  have HTL : Hid ((g.left ++ g.right).length = nl + nr) := hide (by rw [List.length_append, HNL.out, HNR.out])
  clear HO2 bad
  go_wp2_with fail
  clear hx1 hx2 hy0 hy8 hz0 hz8
  go_loopw [7] (fun x wr => ∃ (i : Nat) (v' : Scope), i ≤ nl + nr ∧ x = .int .i64 i ∧ Hid (Fr Z2 X2 wr) ∧ Hid (Pk W0 S ⟨.string tt, .slice a1 S.kinds.length b1, .slice a2 S.members.length b2, .slice a3 S.preds.length b3, .slice a4 S.classes.length b4, .slice a5 S.sources.length b5, .slice a6 S.rules.length b6, .slice a7 S.excepts.length b7, .slice a8 S.totals.length b8⟩ Z2 V (B + 4 * i) v' wr) ∧ Hid (termsM S.ctx v' ((g.left ++ g.right).drop i) = o)) (fun x _ => nl + nr - (intOf x).toNat)
  case atStart => exact ⟨0, v, by omega, rfl, hide (.refl _ _), H2, hide (by simpa using HO3.out)⟩
  case round =>
    obtain ⟨i, v', hi, rfl, HF, HP, HQ⟩ := hrel
    clear HO3 d0 d1 d2
    have hbx := HF.out.at HN2.out HB2.out
    have d0 := cell_of_row wr _ 0 _ _ _ hbx
    have d1 := cell_of_row wr _ 1 _ _ _ hbx
    have d2 := cell_of_row wr _ 2 _ _ _ hbx
    simp only [List.getElem?_toArray, List.getElem?_cons_zero, List.getElem?_cons_succ] at d0 d1 d2
    have hHl := loc_lt hbx
    clear hbx
    by_cases hlt : i < nl + nr
    case neg =>
      have hi' : i = nl + nr := by omega
      have hoo : Hid (.ok v' = o) := by
        have := HQ.out
        rw [List.drop_of_length_le (by rw [HTL.out]; omega)] at this
        exact this
      have hge : ¬ (i : Int) < (nl : Int) + (nr : Int) := by omega
      clear hi'
      go_wp2_with fail
      go_ret
      exact Eks.ok hoo.out (HF0.out.trans (HF.out.mono fun k _ e => HZS.out k e)) (H9.out.up (HP.out.grow (by omega)) HZS.out)
    obtain ⟨t, ht0⟩ : ∃ t, (g.left ++ g.right)[i]? = some t := ⟨_, List.getElem?_eq_getElem (by rw [HTL.out]; exact hlt)⟩
    have hq := HQ.out
    rw [drop_c ht0] at hq
    unfold termsM at hq
    rw [termS_eq] at hq
    have HQ2 := hide hq
    have HNZ := hide (show Nz (termS S.ctx v' t) from by rw [← termS_eq]; exact nz_term _ _ _)
    have hlt' : (i : Int) < (nl : Int) + (nr : Int) := by omega
    clear hq HQ
    by_cases hin : i < nl
    · have htx : g.left[i]? = some t := by
        rw [List.getElem?_append_left (by rw [HNL.out]; exact hin)] at ht0
        exact ht0
      have hin' : (i : Int) < (nl : Int) := by omega
      clear ht0
      obtain ⟨gg, oo, aa, ac, rfl, hgg, e0, e1, e2, e3, -, hargs⟩ := at_Term HL.out htx
      have HARGS := hide hargs
      have q0 := (World.cell?_of_block (HP.out.bel.block gg hgg)).trans e0
      have q1 := (World.cell?_of_block (HP.out.bel.block gg hgg)).trans e1
      have q2 := (World.cell?_of_block (HP.out.bel.block gg hgg)).trans e2
      have q3 := (World.cell?_of_block (HP.out.bel.block gg hgg)).trans e3
      have hgl : gg < wr.heap.size := by have := HP.out.bel.size; omega
      clear hargs e0 e1 e2 e3 htx
      go_upto_region 10 with fail
      obtain ⟨Z3, hP3, hz3, hn3, hf3, hb3, -, -⟩ := HP.out.box1 (.cells #[.int .i64 t.coef, .string ⟨t.pred.toArray⟩, .slice aa t.args.length ac, .int .i64 t.value] 202)
      obtain ⟨Q, hQ⟩ : ∃ Q, Q = wr.heap.size := ⟨_, rfl⟩
      rw [← hQ] at hn3 hb3 ⊢
      have P3 := hide hP3
      have HZ3 := hide hz3
      have HF3 := hide (HF.out.trans hf3)
      have r0 := cell_of_row _ Q 0 _ _ _ hb3
      have r1 := cell_of_row _ Q 1 _ _ _ hb3
      have r2 := cell_of_row _ Q 2 _ _ _ hb3
      have r3 := cell_of_row _ Q 3 _ _ _ hb3
      have HC3 := hide (hf3.at HN1.out (HF.out.at HN1.out HB1.out))
      clear hP3 hz3 hn3 hf3 hb3 q0 q1 q2 q3 d0 d1 d2
      generalize wr.alloc (.cells #[.int .i64 t.coef, .string ⟨t.pred.toArray⟩, .slice aa t.args.length ac, .int .i64 t.value] 202) = w3 at *
      clear hQ
      have c0 := cell_of_row w3 _ 0 _ _ _ HC3.out
      have c1 := cell_of_row w3 _ 1 _ _ _ HC3.out
      have c2 := cell_of_row w3 _ 2 _ _ _ HC3.out
      have c3 := cell_of_row w3 _ 3 _ _ _ HC3.out
      have c4 := cell_of_row w3 _ 4 _ _ _ HC3.out
      have c5 := cell_of_row w3 _ 5 _ _ _ HC3.out
      have c6 := cell_of_row w3 _ 6 _ _ _ HC3.out
      have c7 := cell_of_row w3 _ 7 _ _ _ HC3.out
      have c8 := cell_of_row w3 _ 8 _ _ _ HC3.out
      simp only [List.getElem?_toArray, List.getElem?_cons_zero, List.getElem?_cons_succ] at c0 c1 c2 c3 c4 c5 c6 c7 c8 r0 r1 r2 r3
      have CA := hide (rterm_any P3.out (by omega) HOK.out t HARGS.out)
      unfold St9.agg at CA
      simp only at CA
      generalize termS S.ctx v' t = o1 at *
      go_upto_region 11 with (go_at_call 120; refine CA.out.mono ?_; rintro e w4 ⟨rfl, hf4, hp4⟩)
      generalize hec : erc o1 = z at *
      have HF4 := hide (HF3.out.trans (hf4.mono fun k _ e => HZ3.out k e))
      clear hf4 c0 c1 c2 c3 c4 c5 c6 c7 c8 r0 r1 r2 r3 CA
      cases o1 with
      | error c =>
        have hec1 : c = z := hec
        subst hec1
        have hoo : Hid (.error c = o) := HQ2.out
        have hbc : (c == 0) = false := beq_eq_false_iff_ne.2 (HNZ.out c rfl)
        clear hec HQ2 HNZ hp4
        go_wp2_with fail
        go_ret
        exact Eks.bad hoo.out (HF0.out.trans (HF4.out.mono fun k _ e => HZS.out k e))
      | ok v2 =>
        have hec1 : 0 = z := hec
        subst hec1
        clear hec HNZ
        have P4 := hide ((HP.out.up (hp4 v2 rfl) HZ3.out).grow (show _ ≤ B + 4 * (i + 1) by omega))
        have HQ3 : Hid (termsM S.ctx v2 ((g.left ++ g.right).drop (i + 1)) = o) := HQ2.out
        clear hp4 HQ2
        go_wp2_with fail
        go_roundw
        case rel => exact ⟨i + 1, v2, by omega, by go_num, HF4, P4, HQ3⟩
        case measure => simp [intOf]; omega
    · have htx : g.right[i - nl]? = some t := by
        rw [List.getElem?_append_right (by rw [HNL.out]; omega), HNL.out] at ht0
        exact ht0
      obtain ⟨j, rfl⟩ : ∃ j, i = nl + j := ⟨i - nl, by omega⟩
      rw [show nl + j - nl = j by omega] at htx
      have hin' : ¬ ((nl + j : Nat) : Int) < (nl : Int) := by omega
      have hsub : ((nl + j : Nat) : Int) - (nl : Int) = (j : Int) := by omega
      have hjr : j < nr := by omega
      clear ht0
      obtain ⟨gg, oo, aa, ac, rfl, hgg, e0, e1, e2, e3, -, hargs⟩ := at_Term HR.out htx
      have HARGS := hide hargs
      have q0 := (World.cell?_of_block (HP.out.bel.block gg hgg)).trans e0
      have q1 := (World.cell?_of_block (HP.out.bel.block gg hgg)).trans e1
      have q2 := (World.cell?_of_block (HP.out.bel.block gg hgg)).trans e2
      have q3 := (World.cell?_of_block (HP.out.bel.block gg hgg)).trans e3
      have hgl : gg < wr.heap.size := by have := HP.out.bel.size; omega
      clear hargs e0 e1 e2 e3 htx
      go_upto_region 10 with fail
      obtain ⟨Z3, hP3, hz3, hn3, hf3, hb3, -, -⟩ := HP.out.box1 (.cells #[.int .i64 t.coef, .string ⟨t.pred.toArray⟩, .slice aa t.args.length ac, .int .i64 t.value] 202)
      obtain ⟨Q, hQ⟩ : ∃ Q, Q = wr.heap.size := ⟨_, rfl⟩
      rw [← hQ] at hn3 hb3 ⊢
      have P3 := hide hP3
      have HZ3 := hide hz3
      have HF3 := hide (HF.out.trans hf3)
      have r0 := cell_of_row _ Q 0 _ _ _ hb3
      have r1 := cell_of_row _ Q 1 _ _ _ hb3
      have r2 := cell_of_row _ Q 2 _ _ _ hb3
      have r3 := cell_of_row _ Q 3 _ _ _ hb3
      have HC3 := hide (hf3.at HN1.out (HF.out.at HN1.out HB1.out))
      clear hP3 hz3 hn3 hf3 hb3 q0 q1 q2 q3 d0 d1 d2
      generalize wr.alloc (.cells #[.int .i64 t.coef, .string ⟨t.pred.toArray⟩, .slice aa t.args.length ac, .int .i64 t.value] 202) = w3 at *
      clear hQ
      have c0 := cell_of_row w3 _ 0 _ _ _ HC3.out
      have c1 := cell_of_row w3 _ 1 _ _ _ HC3.out
      have c2 := cell_of_row w3 _ 2 _ _ _ HC3.out
      have c3 := cell_of_row w3 _ 3 _ _ _ HC3.out
      have c4 := cell_of_row w3 _ 4 _ _ _ HC3.out
      have c5 := cell_of_row w3 _ 5 _ _ _ HC3.out
      have c6 := cell_of_row w3 _ 6 _ _ _ HC3.out
      have c7 := cell_of_row w3 _ 7 _ _ _ HC3.out
      have c8 := cell_of_row w3 _ 8 _ _ _ HC3.out
      simp only [List.getElem?_toArray, List.getElem?_cons_zero, List.getElem?_cons_succ] at c0 c1 c2 c3 c4 c5 c6 c7 c8 r0 r1 r2 r3
      have CA := hide (rterm_any P3.out (by omega) HOK.out t HARGS.out)
      unfold St9.agg at CA
      simp only at CA
      generalize termS S.ctx v' t = o1 at *
      go_upto_region 11 with (go_at_call 120; refine CA.out.mono ?_; rintro e w4 ⟨rfl, hf4, hp4⟩)
      generalize hec : erc o1 = z at *
      have HF4 := hide (HF3.out.trans (hf4.mono fun k _ e => HZ3.out k e))
      clear hf4 c0 c1 c2 c3 c4 c5 c6 c7 c8 r0 r1 r2 r3 CA
      cases o1 with
      | error c =>
        have hec1 : c = z := hec
        subst hec1
        have hoo : Hid (.error c = o) := HQ2.out
        have hbc : (c == 0) = false := beq_eq_false_iff_ne.2 (HNZ.out c rfl)
        clear hec HQ2 HNZ hp4
        go_wp2_with fail
        go_ret
        exact Eks.bad hoo.out (HF0.out.trans (HF4.out.mono fun k _ e => HZS.out k e))
      | ok v2 =>
        have hec1 : 0 = z := hec
        subst hec1
        clear hec HNZ
        have P4 := hide ((HP.out.up (hp4 v2 rfl) HZ3.out).grow (show _ ≤ B + 4 * (nl + j + 1) by omega))
        have HQ3 : Hid (termsM S.ctx v2 ((g.left ++ g.right).drop (nl + j + 1)) = o) := HQ2.out
        clear hp4 HQ2
        go_wp2_with fail
        go_roundw
        case rel => exact ⟨nl + j + 1, v2, by omega, by go_num, HF4, P4, HQ3⟩
        case measure => simp [intOf]; omega
end
end Go.Proofs.YtbdlgglbcaoakaaGreat
