/- The page's guard. -/
import Derived.Test.YtfnobccminhjpaaGreatBkM9
import Derived.Test.YtfnobccminhjpaaGreatBkA9
namespace Go.Proofs.YtfnobccminhjpaaGreat
open Go.RowKit Go.Shelf Go.Maps Go.WideMaps

theorem terms_app (C : Ctx) : ∀ (l r : List TermM) (v : Scope), (termsM C v l >>= fun v' => termsM C v' r) = termsM C v (l ++ r)
  | [], r, v => rfl
  | t :: l, r, v => by
    show ((termM C v t >>= fun v' => termsM C v' l) >>= _) = (termM C v t >>= fun v' => termsM C v' (l ++ r))
    cases termM C v t with
    | error c => rfl
    | ok v' => exact terms_app C l r v'
section
variable {W0 : World} {S : StatM} {st : St9} {Z : Nat → Prop} {V B : Nat} {v : Scope} {X : World}
set_option maxRecDepth 100000 in
set_option maxHeartbeats 12800000 in
theorem rguard_any (h9 : Pk W0 S st Z V B v X) (hB : B + 64 ≤ 4096) (hok : PredsOk S) (g : GuardM) {la ra : Option Addr} {lc rc nl nr : Nat} (hnl : g.left.length = nl) (hnr : g.right.length = nr) (hl : Terms W0.heap.size W0 g.left (.slice la nl lc)) (hr : Terms W0.heap.size W0 g.right (.slice ra nr rc)) :
    Calls Tryz.prog 160 #[ptr V, st.agg, .agg #[.slice la nl lc, .int .i64 g.op, .slice ra nr rc]] X fun e X' => Eks W0 S st Z V (B + 64) X (guardM S.ctx v g) e X' := by
  have h := h9.sr
  have hll : nl ≤ 140737488351232 := by obtain ⟨_, _, _, _, h⟩ := hl.form; omega
  have hrl : nr ≤ 140737488351232 := by obtain ⟨_, _, _, _, h⟩ := hr.form; omega
  obtain ⟨tt, ht⟩ := h.title
  obtain ⟨a1, b1, f1, _, _⟩ := h.kinds.form
  obtain ⟨a2, b2, f2, _, _⟩ := h.members.form
  obtain ⟨a3, b3, f3, _, _⟩ := h.preds.form
  obtain ⟨a4, b4, f4, _, _⟩ := h.classes.form
  obtain ⟨a5, b5, f5, _, _⟩ := h.sources.form
  obtain ⟨a6, b6, f6, _, _⟩ := h.rules.form
  obtain ⟨a7, b7, f7, _, _⟩ := h.excepts.form
  obtain ⟨a8, b8, f8, _, _⟩ := h.totals.form
  obtain ⟨s0, s1, s2, s3, s4, s5, s6, s7, s8⟩ := st
  simp only at ht f1 f2 f3 f4 f5 f6 f7 f8
  subst ht f1 f2 f3 f4 f5 f6 f7 f8
  obtain ⟨Z2, hP2, hzs, hn1, hn2, hf0, hb1, hb2, hVl⟩ := h9.box2 (.cells #[.string tt, .slice a1 S.kinds.length b1, .slice a2 S.members.length b2, .slice a3 S.preds.length b3, .slice a4 S.classes.length b4, .slice a5 S.sources.length b5, .slice a6 S.rules.length b6, .slice a7 S.excepts.length b7, .slice a8 S.totals.length b8] 31) (.cells #[.slice la nl lc, .int .i64 g.op, .slice ra nr rc] 121)
  have H9 := hide h9
  have H2 := hide hP2
  have HZS := hide hzs
  have HN1 := hide hn1
  have HN2 := hide hn2
  have HF0 := hide hf0
  have HB1 := hide hb1
  have HB2 := hide hb2
  have HL := hide hl
  have HR := hide hr
  have HOK := hide hok
  have HNL := hide hnl
  have HNR := hide hnr
  obtain ⟨o, ho⟩ : ∃ o, guardM S.ctx v g = o := ⟨_, rfl⟩
  rw [ho]
  have HO := hide ho
  unfold guardM sideB at HO
  rw [hnl, hnr] at HO
  obtain ⟨H, hH⟩ : ∃ H, H = X.heap.size := ⟨_, rfl⟩
  rw [← hH] at HN1 HN2 HB1 HB2
  clear h9 h ho hP2 hzs hn1 hn2 hf0 hb1 hb2 hl hr hok hnl hnr
  unfold St9.agg at *
  simp only at *
  go_enter Tryz.func160, Tryz.ntmps160
  go_upto_region 1 with fail
  rw [← hH]
  generalize ((X.alloc (.cells #[.string tt, .slice a1 S.kinds.length b1, .slice a2 S.members.length b2, .slice a3 S.preds.length b3, .slice a4 S.classes.length b4, .slice a5 S.sources.length b5, .slice a6 S.rules.length b6, .slice a7 S.excepts.length b7, .slice a8 S.totals.length b8] 31)).alloc (.cells #[.slice la nl lc, .int .i64 g.op, .slice ra nr rc] 121)) = X2 at *
  clear hH
  have d0 := cell_of_row X2 _ 0 _ _ _ HB2.out
  have d1 := cell_of_row X2 _ 1 _ _ _ HB2.out
  have d2 := cell_of_row X2 _ 2 _ _ _ HB2.out
  simp only [List.getElem?_toArray, List.getElem?_cons_zero, List.getElem?_cons_succ] at d0 d1 d2
  have bad1 : ∀ (hv : (decide (1 ≤ g.op) && decide (g.op ≤ 6)) = false), Hid (.error 101 = o) := by
    intro hv
    have := HO.out
    rw [want_f hv] at this
    exact this
  by_cases ho1 : 1 ≤ g.op
  case neg =>
    have hoo := bad1 (by rw [decide_eq_false ho1]; rfl)
    have hx1 : g.op < 1 := by omega
    clear bad1
    go_wp2_with fail
    go_ret
    exact Eks.bad hoo.out HF0.out
  have hx1 : ¬ g.op < 1 := by omega
  by_cases ho2 : g.op ≤ 6
  case neg =>
    have hoo := bad1 (by rw [decide_eq_false ho2, Bool.and_false])
    have hx2 : 6 < g.op := by omega
    clear bad1
    go_wp2_with fail
    go_ret
    exact Eks.bad hoo.out HF0.out
  have hx2 : ¬ 6 < g.op := by omega
  have HO2 : Hid ((wantM ((decide (1 ≤ nl) && decide (nl ≤ 8)) && (decide (1 ≤ nr) && decide (nr ≤ 8))) 101 >>= fun _ => termsM S.ctx v g.left >>= fun v' => termsM S.ctx v' g.right) = o) := by
    have := HO.out
    rw [want_t (by rw [decide_eq_true ho1, decide_eq_true ho2]; rfl)] at this
    exact this
  clear bad1 HO ho1 ho2
  have bad : ∀ (hv : ((decide (1 ≤ nl) && decide (nl ≤ 8)) && (decide (1 ≤ nr) && decide (nr ≤ 8))) = false), Hid (.error 101 = o) := by
    intro hv
    have := HO2.out
    rw [want_f hv] at this
    exact this
  by_cases hl0 : nl = 0
  · have hoo := bad (by rw [hl0]; rfl)
    subst hl0
    clear bad
    go_wp2_with fail
    go_ret
    exact Eks.bad hoo.out HF0.out
  have hy0 : ((nl : Int) == 0) = false := beq_eq_false_iff_ne.2 (by omega)
  by_cases hl8 : 8 < nl
  · have hoo := bad (by rw [decide_eq_false (show ¬ nl ≤ 8 by omega), Bool.and_false, Bool.false_and])
    have hy8 : (8 : Int) < (nl : Int) := by omega
    clear bad
    go_wp2_with fail
    go_ret
    exact Eks.bad hoo.out HF0.out
  have hy8 : ¬ (8 : Int) < (nl : Int) := by omega
  by_cases hr0 : nr = 0
  · have hoo := bad (by rw [hr0, Bool.and_comm]; rfl)
    subst hr0
    clear bad
    go_wp2_with fail
    go_ret
    exact Eks.bad hoo.out HF0.out
  have hz0 : ((nr : Int) == 0) = false := beq_eq_false_iff_ne.2 (by omega)
  by_cases hr8 : 8 < nr
  · have hoo := bad (by rw [decide_eq_false (show ¬ nr ≤ 8 by omega), Bool.and_false, Bool.and_false])
    have hz8 : (8 : Int) < (nr : Int) := by omega
    clear bad
    go_wp2_with fail
    go_ret
    exact Eks.bad hoo.out HF0.out
  have hz8 : ¬ (8 : Int) < (nr : Int) := by omega
  have HO3 : Hid (termsM S.ctx v (g.left ++ g.right) = o) := by
    have := HO2.out
    rw [want_t (by rw [decide_eq_true (show 1 ≤ nl by omega), decide_eq_true (show nl ≤ 8 by omega), decide_eq_true (show 1 ≤ nr by omega), decide_eq_true (show nr ≤ 8 by omega)]; rfl)] at this
    rw [← terms_app]
    exact this
  have HTL : Hid ((g.left ++ g.right).length = nl + nr) := hide (by rw [List.length_append, HNL.out, HNR.out])
  clear HO2 bad
  go_wp2_with fail
  clear hx1 hx2 hy0 hy8 hz0 hz8
  go_loopw [7] (fun x wr => ∃ (i : Nat) (v' : Scope), i ≤ nl + nr ∧ x = .int .i64 i ∧ Hid (Fr Z2 X2 wr) ∧ Hid (Pk W0 S ⟨.string tt, .slice a1 S.kinds.length b1, .slice a2 S.members.length b2, .slice a3 S.preds.length b3, .slice a4 S.classes.length b4, .slice a5 S.sources.length b5, .slice a6 S.rules.length b6, .slice a7 S.excepts.length b7, .slice a8 S.totals.length b8⟩ Z2 V (B + 4 * i) v' wr) ∧ Hid (termsM S.ctx v' ((g.left ++ g.right).drop i) = o)) (fun x _ => nl + nr - (intOf x).toNat)
  case atStart => exact ⟨0, v, by omega, rfl, hide (.refl _ _), H2, hide (by simpa using HO3.out)⟩
  case round =>
    obtain ⟨i, v', hi, rfl, HF, HP, HQ⟩ := hrel
    clear HO3 d0 d1 d2
    have hbx := HF.out.at HN2.out HB2.out
    have d0 := cell_of_row wr _ 0 _ _ _ hbx
    have d1 := cell_of_row wr _ 1 _ _ _ hbx
    have d2 := cell_of_row wr _ 2 _ _ _ hbx
    simp only [List.getElem?_toArray, List.getElem?_cons_zero, List.getElem?_cons_succ] at d0 d1 d2
    have hHl := loc_lt hbx
    clear hbx
    by_cases hlt : i < nl + nr
    case neg =>
      have hi' : i = nl + nr := by omega
      have hoo : Hid (.ok v' = o) := by
        have := HQ.out
        rw [List.drop_of_length_le (by rw [HTL.out]; omega)] at this
        exact this
      have hge : ¬ (i : Int) < (nl : Int) + (nr : Int) := by omega
      clear hi'
      go_wp2_with fail
      go_ret
      exact Eks.ok hoo.out (HF0.out.trans (HF.out.mono fun k _ e => HZS.out k e)) (H9.out.up (HP.out.grow (by omega)) HZS.out)
    obtain ⟨t, ht0⟩ : ∃ t, (g.left ++ g.right)[i]? = some t := ⟨_, List.getElem?_eq_getElem (by rw [HTL.out]; exact hlt)⟩
    have hq := HQ.out
    rw [drop_c ht0] at hq
    unfold termsM at hq
    rw [termS_eq] at hq
    have HQ2 := hide hq
    have HNZ := hide (show Nz (termS S.ctx v' t) from by rw [← termS_eq]; exact nz_term _ _ _)
    have hlt' : (i : Int) < (nl : Int) + (nr : Int) := by omega
    clear hq HQ
    by_cases hin : i < nl
    · have htx : g.left[i]? = some t := by
        rw [List.getElem?_append_left (by rw [HNL.out]; exact hin)] at ht0
        exact ht0
      have hin' : (i : Int) < (nl : Int) := by omega
      clear ht0
      obtain ⟨gg, oo, aa, ac, rfl, hgg, e0, e1, e2, e3, -, hargs⟩ := at_Term HL.out htx
      have HARGS := hide hargs
      have q0 := (World.cell?_of_block (HP.out.bel.block gg hgg)).trans e0
      have q1 := (World.cell?_of_block (HP.out.bel.block gg hgg)).trans e1
      have q2 := (World.cell?_of_block (HP.out.bel.block gg hgg)).trans e2
      have q3 := (World.cell?_of_block (HP.out.bel.block gg hgg)).trans e3
      have hgl : gg < wr.heap.size := by have := HP.out.bel.size; omega
      clear hargs e0 e1 e2 e3 htx
      go_upto_region 10 with fail
      obtain ⟨Z3, hP3, hz3, hn3, hf3, hb3, -, -⟩ := HP.out.box1 (.cells #[.int .i64 t.coef, .string ⟨t.pred.toArray⟩, .slice aa t.args.length ac, .int .i64 t.value] 156)
      obtain ⟨Q, hQ⟩ : ∃ Q, Q = wr.heap.size := ⟨_, rfl⟩
      rw [← hQ] at hn3 hb3 ⊢
      have P3 := hide hP3
      have HZ3 := hide hz3
      have HF3 := hide (HF.out.trans hf3)
      have r0 := cell_of_row _ Q 0 _ _ _ hb3
      have r1 := cell_of_row _ Q 1 _ _ _ hb3
      have r2 := cell_of_row _ Q 2 _ _ _ hb3
      have r3 := cell_of_row _ Q 3 _ _ _ hb3
      have HC3 := hide (hf3.at HN1.out (HF.out.at HN1.out HB1.out))
      clear hP3 hz3 hn3 hf3 hb3 q0 q1 q2 q3 d0 d1 d2
      generalize wr.alloc (.cells #[.int .i64 t.coef, .string ⟨t.pred.toArray⟩, .slice aa t.args.length ac, .int .i64 t.value] 156) = w3 at *
      clear hQ
      have c0 := cell_of_row w3 _ 0 _ _ _ HC3.out
      have c1 := cell_of_row w3 _ 1 _ _ _ HC3.out
      have c2 := cell_of_row w3 _ 2 _ _ _ HC3.out
      have c3 := cell_of_row w3 _ 3 _ _ _ HC3.out
      have c4 := cell_of_row w3 _ 4 _ _ _ HC3.out
      have c5 := cell_of_row w3 _ 5 _ _ _ HC3.out
      have c6 := cell_of_row w3 _ 6 _ _ _ HC3.out
      have c7 := cell_of_row w3 _ 7 _ _ _ HC3.out
      have c8 := cell_of_row w3 _ 8 _ _ _ HC3.out
      simp only [List.getElem?_toArray, List.getElem?_cons_zero, List.getElem?_cons_succ] at c0 c1 c2 c3 c4 c5 c6 c7 c8 r0 r1 r2 r3
      have CA := hide (rterm_any P3.out (by omega) HOK.out t HARGS.out)
      unfold St9.agg at CA
      simp only at CA
      generalize termS S.ctx v' t = o1 at *
      go_upto_region 11 with (go_at_call 182; refine CA.out.mono ?_; rintro e w4 ⟨rfl, hf4, hp4⟩)
      generalize hec : erc o1 = z at *
      have HF4 := hide (HF3.out.trans (hf4.mono fun k _ e => HZ3.out k e))
      clear hf4 c0 c1 c2 c3 c4 c5 c6 c7 c8 r0 r1 r2 r3 CA
      cases o1 with
      | error c =>
        have hec1 : c = z := hec
        subst hec1
        have hoo : Hid (.error c = o) := HQ2.out
        have hbc : (c == 0) = false := beq_eq_false_iff_ne.2 (HNZ.out c rfl)
        clear hec HQ2 HNZ hp4
        go_wp2_with fail
        go_ret
        exact Eks.bad hoo.out (HF0.out.trans (HF4.out.mono fun k _ e => HZS.out k e))
      | ok v2 =>
        have hec1 : 0 = z := hec
        subst hec1
        clear hec HNZ
        have P4 := hide ((HP.out.up (hp4 v2 rfl) HZ3.out).grow (show _ ≤ B + 4 * (i + 1) by omega))
        have HQ3 : Hid (termsM S.ctx v2 ((g.left ++ g.right).drop (i + 1)) = o) := HQ2.out
        clear hp4 HQ2
        go_wp2_with fail
        go_roundw
        case rel => exact ⟨i + 1, v2, by omega, by go_num, HF4, P4, HQ3⟩
        case measure => simp [intOf]; omega
    · have htx : g.right[i - nl]? = some t := by
        rw [List.getElem?_append_right (by rw [HNL.out]; omega), HNL.out] at ht0
        exact ht0
      obtain ⟨j, rfl⟩ : ∃ j, i = nl + j := ⟨i - nl, by omega⟩
      rw [show nl + j - nl = j by omega] at htx
      have hin' : ¬ ((nl + j : Nat) : Int) < (nl : Int) := by omega
      have hsub : ((nl + j : Nat) : Int) - (nl : Int) = (j : Int) := by omega
      have hjr : j < nr := by omega
      clear ht0
      obtain ⟨gg, oo, aa, ac, rfl, hgg, e0, e1, e2, e3, -, hargs⟩ := at_Term HR.out htx
      have HARGS := hide hargs
      have q0 := (World.cell?_of_block (HP.out.bel.block gg hgg)).trans e0
      have q1 := (World.cell?_of_block (HP.out.bel.block gg hgg)).trans e1
      have q2 := (World.cell?_of_block (HP.out.bel.block gg hgg)).trans e2
      have q3 := (World.cell?_of_block (HP.out.bel.block gg hgg)).trans e3
      have hgl : gg < wr.heap.size := by have := HP.out.bel.size; omega
      clear hargs e0 e1 e2 e3 htx
      go_upto_region 10 with fail
      obtain ⟨Z3, hP3, hz3, hn3, hf3, hb3, -, -⟩ := HP.out.box1 (.cells #[.int .i64 t.coef, .string ⟨t.pred.toArray⟩, .slice aa t.args.length ac, .int .i64 t.value] 156)
      obtain ⟨Q, hQ⟩ : ∃ Q, Q = wr.heap.size := ⟨_, rfl⟩
      rw [← hQ] at hn3 hb3 ⊢
      have P3 := hide hP3
      have HZ3 := hide hz3
      have HF3 := hide (HF.out.trans hf3)
      have r0 := cell_of_row _ Q 0 _ _ _ hb3
      have r1 := cell_of_row _ Q 1 _ _ _ hb3
      have r2 := cell_of_row _ Q 2 _ _ _ hb3
      have r3 := cell_of_row _ Q 3 _ _ _ hb3
      have HC3 := hide (hf3.at HN1.out (HF.out.at HN1.out HB1.out))
      clear hP3 hz3 hn3 hf3 hb3 q0 q1 q2 q3 d0 d1 d2
      generalize wr.alloc (.cells #[.int .i64 t.coef, .string ⟨t.pred.toArray⟩, .slice aa t.args.length ac, .int .i64 t.value] 156) = w3 at *
      clear hQ
      have c0 := cell_of_row w3 _ 0 _ _ _ HC3.out
      have c1 := cell_of_row w3 _ 1 _ _ _ HC3.out
      have c2 := cell_of_row w3 _ 2 _ _ _ HC3.out
      have c3 := cell_of_row w3 _ 3 _ _ _ HC3.out
      have c4 := cell_of_row w3 _ 4 _ _ _ HC3.out
      have c5 := cell_of_row w3 _ 5 _ _ _ HC3.out
      have c6 := cell_of_row w3 _ 6 _ _ _ HC3.out
      have c7 := cell_of_row w3 _ 7 _ _ _ HC3.out
      have c8 := cell_of_row w3 _ 8 _ _ _ HC3.out
      simp only [List.getElem?_toArray, List.getElem?_cons_zero, List.getElem?_cons_succ] at c0 c1 c2 c3 c4 c5 c6 c7 c8 r0 r1 r2 r3
      have CA := hide (rterm_any P3.out (by omega) HOK.out t HARGS.out)
      unfold St9.agg at CA
      simp only at CA
      generalize termS S.ctx v' t = o1 at *
      go_upto_region 11 with (go_at_call 182; refine CA.out.mono ?_; rintro e w4 ⟨rfl, hf4, hp4⟩)
      generalize hec : erc o1 = z at *
      have HF4 := hide (HF3.out.trans (hf4.mono fun k _ e => HZ3.out k e))
      clear hf4 c0 c1 c2 c3 c4 c5 c6 c7 c8 r0 r1 r2 r3 CA
      cases o1 with
      | error c =>
        have hec1 : c = z := hec
        subst hec1
        have hoo : Hid (.error c = o) := HQ2.out
        have hbc : (c == 0) = false := beq_eq_false_iff_ne.2 (HNZ.out c rfl)
        clear hec HQ2 HNZ hp4
        go_wp2_with fail
        go_ret
        exact Eks.bad hoo.out (HF0.out.trans (HF4.out.mono fun k _ e => HZS.out k e))
      | ok v2 =>
        have hec1 : 0 = z := hec
        subst hec1
        clear hec HNZ
        have P4 := hide ((HP.out.up (hp4 v2 rfl) HZ3.out).grow (show _ ≤ B + 4 * (nl + j + 1) by omega))
        have HQ3 : Hid (termsM S.ctx v2 ((g.left ++ g.right).drop (nl + j + 1)) = o) := HQ2.out
        clear hp4 HQ2
        go_wp2_with fail
        go_roundw
        case rel => exact ⟨nl + j + 1, v2, by omega, by go_num, HF4, P4, HQ3⟩
        case measure => simp [intOf]; omega
end
end Go.Proofs.YtfnobccminhjpaaGreat
/- The page's loose. -/
namespace Go.Proofs.YtfnobccminhjpaaGreat
open Go.RowKit Go.Shelf Go.Maps Go.WideMaps

section
variable {W0 : World} {S : StatM} {st : St9} {Z : Nat → Prop} {V B : Nat} {v : Scope} {X : World}
set_option maxRecDepth 100000 in
set_option maxHeartbeats 12800000 in
theorem loose_any (h9 : Pk W0 S st Z V B v X) (hB : B + 1 ≤ 4096) (s : Bytes) : Calls Tryz.prog 161 #[ptr V, st.agg, str s] X fun e X' => Eks W0 S st Z V (B + 1) X (unlikeM S.ctx v s) e X' := by
  have h := h9.sr
  obtain ⟨hfk, hfm, _⟩ := fitB h9.fit
  obtain ⟨tt, ht⟩ := h.title
  obtain ⟨a1, b1, f1, _, _⟩ := h.kinds.form
  obtain ⟨a2, b2, f2, _, _⟩ := h.members.form
  obtain ⟨a3, b3, f3, _, _⟩ := h.preds.form
  obtain ⟨a4, b4, f4, _, _⟩ := h.classes.form
  obtain ⟨a5, b5, f5, _, _⟩ := h.sources.form
  obtain ⟨a6, b6, f6, _, _⟩ := h.rules.form
  obtain ⟨a7, b7, f7, _, _⟩ := h.excepts.form
  obtain ⟨a8, b8, f8, _, _⟩ := h.totals.form
  obtain ⟨s0, s1, s2, s3, s4, s5, s6, s7, s8⟩ := st
  simp only at ht f1 f2 f3 f4 f5 f6 f7 f8
  subst ht f1 f2 f3 f4 f5 f6 f7 f8
  have hA : Below X.heap.size X (X.alloc (.cells #[.string tt, .slice a1 S.kinds.length b1, .slice a2 S.members.length b2, .slice a3 S.preds.length b3, .slice a4 S.classes.length b4, .slice a5 S.sources.length b5, .slice a6 S.rules.length b6, .slice a7 S.excepts.length b7, .slice a8 S.totals.length b8] 31)) := (Below.refl _ X).alloc (Nat.le_refl _) _
  have K0 : Hid (Lw X.heap.size S ⟨.string tt, .slice a1 S.kinds.length b1, .slice a2 S.members.length b2, .slice a3 S.preds.length b3, .slice a4 S.classes.length b4, .slice a5 S.sources.length b5, .slice a6 S.rules.length b6, .slice a7 S.excepts.length b7, .slice a8 S.totals.length b8⟩ X (X.alloc (.cells #[.string tt, .slice a1 S.kinds.length b1, .slice a2 S.members.length b2, .slice a3 S.preds.length b3, .slice a4 S.classes.length b4, .slice a5 S.sources.length b5, .slice a6 S.rules.length b6, .slice a7 S.excepts.length b7, .slice a8 S.totals.length b8] 31))) := hide ⟨hA, h.keep fun g hg => hA.block g hg, heap_alloc_new X _⟩
  have H1 := hide (h9.below hA)
  have HF0 : Hid (Fr Z X (X.alloc (.cells #[.string tt, .slice a1 S.kinds.length b1, .slice a2 S.members.length b2, .slice a3 S.preds.length b3, .slice a4 S.classes.length b4, .slice a5 S.sources.length b5, .slice a6 S.rules.length b6, .slice a7 S.excepts.length b7, .slice a8 S.totals.length b8] 31))) := hide (.of_below hA)
  have CN := hide (rIsName_any s (X.alloc (.cells #[.string tt, .slice a1 S.kinds.length b1, .slice a2 S.members.length b2, .slice a3 S.preds.length b3, .slice a4 S.classes.length b4, .slice a5 S.sources.length b5, .slice a6 S.rules.length b6, .slice a7 S.excepts.length b7, .slice a8 S.totals.length b8] 31)))
  have CV := hide (rIsVar_any s (X.alloc (.cells #[.string tt, .slice a1 S.kinds.length b1, .slice a2 S.members.length b2, .slice a3 S.preds.length b3, .slice a4 S.classes.length b4, .slice a5 S.sources.length b5, .slice a6 S.rules.length b6, .slice a7 S.excepts.length b7, .slice a8 S.totals.length b8] 31)))
  have CM := hide (rmembersS K0.out.sr (by omega))
  obtain ⟨o, ho⟩ : ∃ o, unlikeM S.ctx v s = o := ⟨_, rfl⟩
  rw [ho]
  have HO := hide ho
  unfold unlikeM at HO
  obtain ⟨H, hH⟩ : ∃ H, H = X.heap.size := ⟨_, rfl⟩
  rw [← hH] at K0
  have hVl : V < X.heap.size := by obtain ⟨_, _, _, _, _, _, hb, _⟩ := h9.bk; exact loc_lt hb.box
  clear h9 h hA ho
  unfold St9.agg str at *
  simp only at *
  obtain ⟨c0, c1, c2, c3, c4, c5, c6, c7, c8, cf⟩ := K0.out.cells
  simp only at c0 c1 c2 c3 c4 c5 c6 c7 c8
  clear cf
  cases hnm : isNameB s with
  | true =>
    have hnv := name_not_var hnm
    rw [if_neg (by rw [hnv]; simp)] at HO
    rw [hnm] at CN
    have HO1 : Hid ((findM S.ctx.people s 82 >>= fun _ => .ok v) = o) := by
      have := HO.out
      unfold findMemberM at this
      rw [want_t hnm] at this
      exact this
    have hpl : S.ctx.people.length = S.members.length := List.length_map _
    clear HO CV
    by_cases hmem : s ∈ S.ctx.people
    · have hoo : .ok v = o := by
        have := HO1.out
        rw [findM_yes hmem] at this
        exact this
      have hfz := findZ_in hmem
      clear HO1
      generalize posB S.ctx.people s = p at *
      go_enter Tryz.func161, Tryz.ntmps161
      go_upto_region 1 with fail
      rw [← hH]
      clear hH
      go_wp2_with (first | (go_at_call 130; refine CN.out.mono ?_; rintro _ w1 ⟨rfl, hw⟩; subst w1))
      refine CM.out.mono ?_
      rintro _ w1 ⟨xa, xc, rfl, hat, hb1⟩
      have CF := hide (rfindS (c := xc) hat hpl (by omega) s)
      rw [hfz] at CF
      have HP1 := hide (H1.out.below hb1)
      have HF1 := hide (HF0.out.trans (.of_below hb1))
      clear hat hb1 CM c0 c1 c2 c3 c4 c5 c6 c7 c8
      go_wp2_with (first | (go_at_call 59; refine CF.out.mono ?_; rintro _ wz ⟨rfl, hwz⟩; subst wz))
      go_ret
      exact Eks.ok hoo HF1.out (HP1.out.grow (by omega))
    · have hoo : .error 82 = o := by
        have := HO1.out
        rw [findM_no hmem] at this
        exact this
      have hfz := findZ_out hmem
      clear HO1
      go_enter Tryz.func161, Tryz.ntmps161
      go_upto_region 1 with fail
      rw [← hH]
      clear hH
      go_wp2_with (first | (go_at_call 130; refine CN.out.mono ?_; rintro _ w1 ⟨rfl, hw⟩; subst w1))
      refine CM.out.mono ?_
      rintro _ w1 ⟨xa, xc, rfl, hat, hb1⟩
      have CF := hide (rfindS (c := xc) hat hpl (by omega) s)
      rw [hfz] at CF
      have HF1 := hide (HF0.out.trans (.of_below hb1))
      clear hat hb1 CM
      go_wp2_with (first | (go_at_call 59; refine CF.out.mono ?_; rintro _ wz ⟨rfl, hwz⟩; subst wz))
      go_ret
      exact Eks.bad hoo HF1.out
  | false =>
    rw [hnm] at CN
    cases hvr : isVarB s with
    | false =>
      rw [hvr] at CV
      have hoo : .error 71 = o := by
        have := HO.out
        rw [if_neg (by rw [hvr]; simp)] at this
        unfold findMemberM at this
        rw [want_f hnm] at this
        exact this
      go_enter Tryz.func161, Tryz.ntmps161
      go_upto_region 1 with fail
      rw [← hH]
      clear hH
      go_wp2_with (first | (go_at_call 130; refine CN.out.mono ?_; rintro _ w1 ⟨rfl, hw⟩; subst w1) | (go_at_call 58; refine CV.out.mono ?_; rintro _ w1 ⟨rfl, hw⟩; subst w1))
      go_ret
      exact Eks.bad hoo HF0.out
    | true =>
      rw [hvr] at CV
      have hoo : .ok (standM v s) = o := by
        have := HO.out
        rw [if_pos hvr] at this
        exact this
      obtain ⟨nv, kv, lv, N, Ks, L, hBp, hSim, hNB, hLB⟩ := H1.out.bk
      obtain ⟨la, lc, rfl⟩ := owns_slice hBp.rowL
      obtain ⟨p0, p1, p2⟩ := hBp.cells
      have HBp := hide hBp
      have HS2 := hide (hSim.stand (s := s))
      obtain ⟨iM, hiM, zM0, zM1, zM2⟩ := info_parts' infoS
      clear HO hBp hSim CM K0 c0 c1 c2 c3 c4 c5 c6 c7 c8
      go_enter Tryz.func161, Tryz.ntmps161
      go_upto_region 1 with fail
      rw [← hH]
      clear hH
      generalize X.alloc (.cells #[.string tt, .slice a1 S.kinds.length b1, .slice a2 S.members.length b2, .slice a3 S.preds.length b3, .slice a4 S.classes.length b4, .slice a5 S.sources.length b5, .slice a6 S.rules.length b6, .slice a7 S.excepts.length b7, .slice a8 S.totals.length b8] 31) = w1 at *
      go_upto_region 7 with (first | (go_at_call 130; refine CN.out.mono ?_; rintro _ w9 ⟨rfl, hw⟩; subst w9) | (go_at_call 58; refine CV.out.mono ?_; rintro _ w9 ⟨rfl, hw⟩; subst w9))
      go_upto_region 8 with (at_builtin; go_must (refine wpList_append_two _ rfl _ _ 22 rfl 0 9 iM _ 1 16 Tryz.underlying22 hiM zM0 zM1 zM2 rfl (by decide) _ _ _ rfl (HBp.out.rowL.alloc _) ⟨w1.heap.size, 0, none⟩ 1 [.string ⟨s.toArray⟩] rfl rfl (news_at rfl) (by simp [Value.oneCell']) (by unfold maxLen; omega) (by omega) (Nat.zero_le _) ?_))
      intro g cap w2 hown hg
      obtain ⟨hB2, hF2, q0, qf⟩ := HBp.out.growL H1.out.new hown hg
      have HB2 := hide hB2
      have HF2 := hide hF2
      clear hB2 hF2 hown hg p0 p1 p2
      go_wp2_with fail
      go_ret
      exact Eks.ok hoo (HF0.out.trans HF2.out) (H1.out.fr HF2.out ⟨_, _, _, _, _, _, HB2.out, HS2.out, by omega, by simp; omega⟩)
end
end Go.Proofs.YtfnobccminhjpaaGreat
/- The page's premise. -/
namespace Go.Proofs.YtfnobccminhjpaaGreat
open Go.RowKit Go.Shelf Go.Maps Go.WideMaps

def premS (C : Ctx) (v : Scope) (p : PremM) : Er Scope :=
  if p.kind = 1 then literalS C v p.lit
  else if p.kind = 2 then guardM C v p.guard
  else if p.kind = 3 then unlikeM C v p.a >>= fun v' => unlikeM C v' p.b
  else .error 1
theorem premS_eq (C : Ctx) (v : Scope) (p : PremM) : premM C v p = premS C v p := by
  unfold premM premS
  rw [literalS_eq]
theorem Eks.up {W0 : World} {S : StatM} {st : St9} {Z Z2 : Nat → Prop} {V B B1 B2 : Nat} {v : Scope} {X X2 X' : World} {o : Er Scope} {e : Ending} (h9 : Pk W0 S st Z V B v X) (hz : ∀ k, Z2 k → Z k) (hf : Fr Z X X2) (hB : B1 ≤ B2) (h : Eks W0 S st Z2 V B1 X2 o e X') : Eks W0 S st Z V B2 X o e X' :=
  ⟨h.1, hf.trans (h.2.1.mono fun k _ e => hz k e), fun v' e => h9.up ((h.2.2 v' e).grow hB) hz⟩
section
variable {W0 : World} {S : StatM} {st : St9} {Z : Nat → Prop} {V B : Nat} {v : Scope} {X : World}
set_option maxRecDepth 100000 in
set_option maxHeartbeats 12800000 in
theorem rprem_any (h9 : Pk W0 S st Z V B v X) (hB : B + 64 ≤ 4096) (hok : PredsOk S) (p : PremM) {ka la ra : Option Addr} {kc lc rc : Nat} (hk : Strs W0.heap.size W0 p.lit.args (.slice ka p.lit.args.length kc)) (hl : Terms W0.heap.size W0 p.guard.left (.slice la p.guard.left.length lc)) (hr : Terms W0.heap.size W0 p.guard.right (.slice ra p.guard.right.length rc)) :
    Calls Tryz.prog 117 #[ptr V, st.agg, .agg #[.int .i64 p.kind, .bool p.lit.neg, .string ⟨p.lit.pred.toArray⟩, .slice ka p.lit.args.length kc, .bool p.lit.hasValue, .int .i64 p.lit.value, .slice la p.guard.left.length lc, .int .i64 p.guard.op, .slice ra p.guard.right.length rc, .string ⟨p.a.toArray⟩, .string ⟨p.b.toArray⟩]] X fun e X' => Eks W0 S st Z V (B + 64) X (premS S.ctx v p) e X' := by
  have h := h9.sr
  obtain ⟨tt, ht⟩ := h.title
  obtain ⟨a1, b1, f1, _, _⟩ := h.kinds.form
  obtain ⟨a2, b2, f2, _, _⟩ := h.members.form
  obtain ⟨a3, b3, f3, _, _⟩ := h.preds.form
  obtain ⟨a4, b4, f4, _, _⟩ := h.classes.form
  obtain ⟨a5, b5, f5, _, _⟩ := h.sources.form
  obtain ⟨a6, b6, f6, _, _⟩ := h.rules.form
  obtain ⟨a7, b7, f7, _, _⟩ := h.excepts.form
  obtain ⟨a8, b8, f8, _, _⟩ := h.totals.form
  obtain ⟨s0, s1, s2, s3, s4, s5, s6, s7, s8⟩ := st
  simp only at ht f1 f2 f3 f4 f5 f6 f7 f8
  subst ht f1 f2 f3 f4 f5 f6 f7 f8
  obtain ⟨Z2, hP2, hzs, hn1, hn2, hf0, hb1, hb2, hVl⟩ := h9.box2 (.cells #[.string tt, .slice a1 S.kinds.length b1, .slice a2 S.members.length b2, .slice a3 S.preds.length b3, .slice a4 S.classes.length b4, .slice a5 S.sources.length b5, .slice a6 S.rules.length b6, .slice a7 S.excepts.length b7, .slice a8 S.totals.length b8] 31) (.cells #[.int .i64 p.kind, .bool p.lit.neg, .string ⟨p.lit.pred.toArray⟩, .slice ka p.lit.args.length kc, .bool p.lit.hasValue, .int .i64 p.lit.value, .slice la p.guard.left.length lc, .int .i64 p.guard.op, .slice ra p.guard.right.length rc, .string ⟨p.a.toArray⟩, .string ⟨p.b.toArray⟩] 123)
  have H9 := hide h9
  have H2 := hide hP2
  have HZS := hide hzs
  have HN1 := hide hn1
  have HN2 := hide hn2
  have HF0 := hide hf0
  have HB1 := hide hb1
  have HB2 := hide hb2
  have HK := hide hk
  have HL := hide hl
  have HR := hide hr
  have HOK := hide hok
  obtain ⟨o, ho⟩ : ∃ o, premS S.ctx v p = o := ⟨_, rfl⟩
  rw [ho]
  have HO := hide ho
  unfold premS at HO
  obtain ⟨H, hH⟩ : ∃ H, H = X.heap.size := ⟨_, rfl⟩
  rw [← hH] at HN1 HN2 HB1 HB2
  clear h9 h ho hP2 hzs hn1 hn2 hf0 hb1 hb2 hl hr hok hk
  unfold St9.agg at *
  simp only at *
  go_enter Tryz.func117, Tryz.ntmps117
  go_upto_region 1 with fail
  rw [← hH]
  generalize ((X.alloc (.cells #[.string tt, .slice a1 S.kinds.length b1, .slice a2 S.members.length b2, .slice a3 S.preds.length b3, .slice a4 S.classes.length b4, .slice a5 S.sources.length b5, .slice a6 S.rules.length b6, .slice a7 S.excepts.length b7, .slice a8 S.totals.length b8] 31)).alloc (.cells #[.int .i64 p.kind, .bool p.lit.neg, .string ⟨p.lit.pred.toArray⟩, .slice ka p.lit.args.length kc, .bool p.lit.hasValue, .int .i64 p.lit.value, .slice la p.guard.left.length lc, .int .i64 p.guard.op, .slice ra p.guard.right.length rc, .string ⟨p.a.toArray⟩, .string ⟨p.b.toArray⟩] 123)) = X2 at *
  clear hH
  have c0 := cell_of_row X2 _ 0 _ _ _ HB1.out
  have c1 := cell_of_row X2 _ 1 _ _ _ HB1.out
  have c2 := cell_of_row X2 _ 2 _ _ _ HB1.out
  have c3 := cell_of_row X2 _ 3 _ _ _ HB1.out
  have c4 := cell_of_row X2 _ 4 _ _ _ HB1.out
  have c5 := cell_of_row X2 _ 5 _ _ _ HB1.out
  have c6 := cell_of_row X2 _ 6 _ _ _ HB1.out
  have c7 := cell_of_row X2 _ 7 _ _ _ HB1.out
  have c8 := cell_of_row X2 _ 8 _ _ _ HB1.out
  have d0 := cell_of_row X2 _ 0 _ _ _ HB2.out
  have d1 := cell_of_row X2 _ 1 _ _ _ HB2.out
  have d2 := cell_of_row X2 _ 2 _ _ _ HB2.out
  have d3 := cell_of_row X2 _ 3 _ _ _ HB2.out
  have d4 := cell_of_row X2 _ 4 _ _ _ HB2.out
  have d5 := cell_of_row X2 _ 5 _ _ _ HB2.out
  have d6 := cell_of_row X2 _ 6 _ _ _ HB2.out
  have d7 := cell_of_row X2 _ 7 _ _ _ HB2.out
  have d8 := cell_of_row X2 _ 8 _ _ _ HB2.out
  have d9 := cell_of_row X2 _ 9 _ _ _ HB2.out
  have d10 := cell_of_row X2 _ 10 _ _ _ HB2.out
  simp only [List.getElem?_toArray, List.getElem?_cons_zero, List.getElem?_cons_succ] at c0 c1 c2 c3 c4 c5 c6 c7 c8 d0 d1 d2 d3 d4 d5 d6 d7 d8 d9 d10
  by_cases k1 : p.kind = 1
  · rw [if_pos k1] at HO
    have CL := hide (rlit_any H2.out (by omega) HOK.out p.lit HK.out)
    rw [HO.out] at CL
    unfold St9.agg at CL
    simp only at CL
    rw [k1] at d0
    clear k1
    go_wp2_with (go_at_call 94; refine CL.out.mono ?_; rintro e w4 ⟨rfl, hf4, hp4⟩)
    go_ret
    exact Eks.up H9.out HZS.out HF0.out (by omega) ⟨rfl, hf4, hp4⟩
  rw [if_neg k1] at HO
  have k1b : (p.kind == 1) = false := beq_eq_false_iff_ne.2 k1
  by_cases k2 : p.kind = 2
  · rw [if_pos k2] at HO
    have CL := hide (rguard_any H2.out hB HOK.out p.guard rfl rfl HL.out HR.out)
    rw [HO.out] at CL
    unfold St9.agg at CL
    simp only at CL
    rw [k2] at d0
    clear k1 k1b k2
    go_wp2_with (go_at_call 160; refine CL.out.mono ?_; rintro e w4 ⟨rfl, hf4, hp4⟩)
    go_ret
    exact Eks.up H9.out HZS.out HF0.out (by omega) ⟨rfl, hf4, hp4⟩
  rw [if_neg k2] at HO
  have k2b : (p.kind == 2) = false := beq_eq_false_iff_ne.2 k2
  by_cases k3 : p.kind = 3
  · rw [if_pos k3] at HO
    have CL := hide (loose_any H2.out (by omega) p.a)
    have HNZ := hide (nz_unlike S.ctx v p.a)
    unfold St9.agg str at CL
    simp only at CL
    rw [k3] at d0
    clear k1 k1b k2 k2b k3
    generalize unlikeM S.ctx v p.a = o1 at *
    go_upto_region 8 with (go_at_call 161; refine CL.out.mono ?_; rintro e w4 ⟨rfl, hf4, hp4⟩)
    generalize hec : erc o1 = z at *
    cases o1 with
    | error c =>
      have hec1 : c = z := hec
      subst hec1
      have hoo : Hid (.error c = o) := HO.out
      have hbc : (c == 0) = false := beq_eq_false_iff_ne.2 (HNZ.out c rfl)
      clear hec HO HNZ hp4
      go_wp2_with fail
      go_ret
      exact Eks.bad hoo.out (HF0.out.trans (hf4.mono fun k _ e => HZS.out k e))
    | ok v2 =>
      have hec1 : 0 = z := hec
      subst hec1
      have HF4 := hide hf4
      have P4 := hide (hp4 v2 rfl)
      have HB14 := hide (hf4.at HN1.out HB1.out)
      have HB24 := hide (hf4.at HN2.out HB2.out)
      have CL2 := hide (loose_any P4.out (by omega) p.b)
      have HO2 : Hid (unlikeM S.ctx v2 p.b = o) := HO.out
      rw [HO2.out] at CL2
      unfold St9.agg str at CL2
      simp only at CL2
      clear hec HNZ hp4 hf4 CL c0 c1 c2 c3 c4 c5 c6 c7 c8 d0 d1 d2 d3 d4 d5 d6 d7 d8 d9 d10
      have c0 := cell_of_row w4 _ 0 _ _ _ HB14.out
      have c1 := cell_of_row w4 _ 1 _ _ _ HB14.out
      have c2 := cell_of_row w4 _ 2 _ _ _ HB14.out
      have c3 := cell_of_row w4 _ 3 _ _ _ HB14.out
      have c4 := cell_of_row w4 _ 4 _ _ _ HB14.out
      have c5 := cell_of_row w4 _ 5 _ _ _ HB14.out
      have c6 := cell_of_row w4 _ 6 _ _ _ HB14.out
      have c7 := cell_of_row w4 _ 7 _ _ _ HB14.out
      have c8 := cell_of_row w4 _ 8 _ _ _ HB14.out
      have d10 := cell_of_row w4 _ 10 _ _ _ HB24.out
      simp only [List.getElem?_toArray, List.getElem?_cons_zero, List.getElem?_cons_succ] at c0 c1 c2 c3 c4 c5 c6 c7 c8 d10
      go_wp2_with (go_at_call 161; refine CL2.out.mono ?_; rintro e w5 ⟨rfl, hf5, hp5⟩)
      go_ret
      exact Eks.up H9.out HZS.out HF0.out (by omega) ⟨rfl, HF4.out.trans hf5, hp5⟩
  rw [if_neg k3] at HO
  have k3b : (p.kind == 3) = false := beq_eq_false_iff_ne.2 k3
  have hoo : Hid (.error 1 = o) := HO.out
  go_wp2_with fail
  go_ret
  exact Eks.bad hoo.out HF0.out
end
end Go.Proofs.YtfnobccminhjpaaGreat
