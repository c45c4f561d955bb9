/- The page's term. -/
import Derived.Test.YtbdlgglbcaoakaaGreatBkT9
namespace Go.Proofs.YtbdlgglbcaoakaaGreat
open Go.RowKit Go.Shelf Go.Maps Go.WideMaps

def termS (C : Ctx) (v : Scope) (t : TermM) : Er Scope :=
  if t.pred = [] then wantM (decide (t.coef = 0) && decide ((t.args.length : Int) = 0)) 101 >>= fun _ => wantM (mayB t.value) 22 >>= fun _ => .ok v
  else findPredM C t.pred >>= fun p => wantM (decide (p.sort = 2)) 84 >>= fun _ => wantM (!decide (t.coef = 0) && decide (-1000 ≤ t.coef) && decide (t.coef ≤ 1000) && decide (t.value = 0)) 101 >>= fun _ => argumentsS C v p t.args
theorem termS_eq (C : Ctx) (v : Scope) (t : TermM) : termM C v t = termS C v t := by
  unfold termM termS
  simp only [argumentsS_eq]
section
variable {W0 : World} {S : StatM} {st : St9} {Z : Nat → Prop} {V B : Nat} {v : Scope} {X : World}
set_option maxRecDepth 100000 in
set_option maxHeartbeats 12800000 in
theorem rterm_any (h9 : Pk W0 S st Z V B v X) (hB : B + 4 ≤ 4096) (hok : PredsOk S) (t : TermM) {aa : Option Addr} {ac : Nat} (hl : Strs W0.heap.size W0 t.args (.slice aa t.args.length ac)) :
    Calls Tryz.prog 120 #[ptr V, st.agg, .agg #[.int .i64 t.coef, .string ⟨t.pred.toArray⟩, .slice aa t.args.length ac, .int .i64 t.value]] X fun e X' => Eks W0 S st Z V (B + 4) X (termS S.ctx v t) e X' := by
  have h := h9.sr
  obtain ⟨hfk, hfm, hfp, _⟩ := fitB h9.fit
  have hal : t.args.length ≤ 140737488351232 := by obtain ⟨_, _, _, _, h⟩ := hl.form; exact h
  obtain ⟨tt, ht⟩ := h.title
  obtain ⟨a1, b1, f1, _, _⟩ := h.kinds.form
  obtain ⟨a2, b2, f2, _, _⟩ := h.members.form
  obtain ⟨a3, b3, f3, _, _⟩ := h.preds.form
  obtain ⟨a4, b4, f4, _, _⟩ := h.classes.form
  obtain ⟨a5, b5, f5, _, _⟩ := h.sources.form
  obtain ⟨a6, b6, f6, _, _⟩ := h.rules.form
  obtain ⟨a7, b7, f7, _, _⟩ := h.excepts.form
  obtain ⟨a8, b8, f8, _, _⟩ := h.totals.form
  obtain ⟨s0, s1, s2, s3, s4, s5, s6, s7, s8⟩ := st
  simp only at ht f1 f2 f3 f4 f5 f6 f7 f8
  subst ht f1 f2 f3 f4 f5 f6 f7 f8
  obtain ⟨Z2, hP2, hzs, hn1, hn2, hf0, hb1, hb2, hVl⟩ := h9.box2 (.cells #[.string tt, .slice a1 S.kinds.length b1, .slice a2 S.members.length b2, .slice a3 S.preds.length b3, .slice a4 S.classes.length b4, .slice a5 S.sources.length b5, .slice a6 S.rules.length b6, .slice a7 S.excepts.length b7, .slice a8 S.totals.length b8] 31) (.cells #[.int .i64 t.coef, .string ⟨t.pred.toArray⟩, .slice aa t.args.length ac, .int .i64 t.value] 202)
  have H9 := hide h9
  have H2 := hide hP2
  have HZS := hide hzs
  have HN1 := hide hn1
  have HN2 := hide hn2
  have HF0 := hide hf0
  have HB1 := hide hb1
  have HB2 := hide hb2
  have HL := hide hl
  have HOK := hide hok
  have HPR := hide h9.srW.preds
  have HNL : Hid (S.ctx.names.length = S.preds.length) := hide (List.length_map _)
  obtain ⟨o, ho⟩ : ∃ o, termS S.ctx v t = o := ⟨_, rfl⟩
  rw [ho]
  have HO := hide ho
  unfold termS at HO
  obtain ⟨H, hH⟩ : ∃ H, H = X.heap.size := ⟨_, rfl⟩
  rw [← hH] at HN1 HN2 HB1 HB2
  clear h9 h ho hP2 hzs hn1 hn2 hf0 hb1 hb2 hl hok
  unfold St9.agg at *
  simp only at *
  go_enter Tryz.func120, Tryz.ntmps120
  go_upto_region 1 with fail
  rw [← hH]
  generalize ((X.alloc (.cells #[.string tt, .slice a1 S.kinds.length b1, .slice a2 S.members.length b2, .slice a3 S.preds.length b3, .slice a4 S.classes.length b4, .slice a5 S.sources.length b5, .slice a6 S.rules.length b6, .slice a7 S.excepts.length b7, .slice a8 S.totals.length b8] 31)).alloc (.cells #[.int .i64 t.coef, .string ⟨t.pred.toArray⟩, .slice aa t.args.length ac, .int .i64 t.value] 202)) = X2 at *
  clear hH
  have d0 := cell_of_row X2 _ 0 _ _ _ HB2.out
  have d1 := cell_of_row X2 _ 1 _ _ _ HB2.out
  have d2 := cell_of_row X2 _ 2 _ _ _ HB2.out
  have d3 := cell_of_row X2 _ 3 _ _ _ HB2.out
  simp only [List.getElem?_toArray, List.getElem?_cons_zero, List.getElem?_cons_succ] at d0 d1 d2 d3
  by_cases hpe : t.pred = []
  case pos =>
    rw [if_pos hpe] at HO
    rw [hpe] at d1
    have CM := hide (rMay_any t.value X2)
    by_cases hc0 : t.coef = 0
    case neg =>
      have hoo : Hid (.error 101 = o) := by
        have := HO.out
        rw [want_f (by rw [decide_eq_false hc0]; rfl)] at this
        exact this
      have hbc : (t.coef == 0) = false := beq_eq_false_iff_ne.2 hc0
      clear hpe
      go_wp2_with fail
      go_ret
      exact Eks.bad hoo.out HF0.out
    have hbc : (t.coef == 0) = true := by rw [hc0]; rfl
    by_cases ha0 : (t.args.length : Int) = 0
    case neg =>
      have hoo : Hid (.error 101 = o) := by
        have := HO.out
        rw [want_f (by rw [decide_eq_false ha0, Bool.and_false])] at this
        exact this
      have hbl : (0 : Int) < (t.args.length : Int) := by omega
      clear hpe
      go_wp2_with fail
      go_ret
      exact Eks.bad hoo.out HF0.out
    have hbl : ¬ (0 : Int) < (t.args.length : Int) := by omega
    cases hmay : mayB t.value with
    | false =>
      have hoo : Hid (.error 22 = o) := by
        have := HO.out
        rw [want_t (by rw [decide_eq_true hc0, decide_eq_true ha0]; rfl)] at this
        change (wantM (mayB t.value) 22 >>= fun _ => .ok v) = o at this
        rw [want_f hmay] at this
        exact this
      rw [hmay] at CM
      clear hpe
      go_wp2_with (go_at_call 79; refine CM.out.mono ?_; rintro _ w5 ⟨rfl, hw⟩; subst w5)
      go_ret
      exact Eks.bad hoo.out HF0.out
    | true =>
      have hoo : Hid (.ok v = o) := by
        have := HO.out
        rw [want_t (by rw [decide_eq_true hc0, decide_eq_true ha0]; rfl)] at this
        change (wantM (mayB t.value) 22 >>= fun _ => .ok v) = o at this
        rw [want_t hmay] at this
        exact this
      rw [hmay] at CM
      clear hpe
      go_wp2_with (go_at_call 79; refine CM.out.mono ?_; rintro _ w5 ⟨rfl, hw⟩; subst w5)
      go_ret
      exact Eks.ok hoo.out HF0.out (H9.out.up (H2.out.grow (by omega)) HZS.out)
  rw [if_neg hpe] at HO
  have hpb : (t.pred == []) = false := beq_eq_false_iff_ne.2 hpe
  go_upto_region 7 with fail
  clear hpe hpb d0 d1 d2 d3
  have FS : Hid (∀ Y, Below X2.heap.size X2 Y → (fun Y : World => Y.cell? ⟨H, 0, none⟩ = some (.string tt) ∧ Y.cell? ⟨H, 1, none⟩ = some (.slice a1 S.kinds.length b1) ∧ Y.cell? ⟨H, 2, none⟩ = some (.slice a2 S.members.length b2) ∧ Y.cell? ⟨H, 3, none⟩ = some (.slice a3 S.preds.length b3) ∧ Y.cell? ⟨H, 4, none⟩ = some (.slice a4 S.classes.length b4) ∧ Y.cell? ⟨H, 5, none⟩ = some (.slice a5 S.sources.length b5) ∧ Y.cell? ⟨H, 6, none⟩ = some (.slice a6 S.rules.length b6) ∧ Y.cell? ⟨H, 7, none⟩ = some (.slice a7 S.excepts.length b7) ∧ Y.cell? ⟨H, 8, none⟩ = some (.slice a8 S.totals.length b8) ∧ Y.cell? ⟨H + 1, 0, none⟩ = some (.int .i64 t.coef) ∧ Y.cell? ⟨H + 1, 1, none⟩ = some (.string ⟨t.pred.toArray⟩) ∧ Y.cell? ⟨H + 1, 2, none⟩ = some (.slice aa t.args.length ac) ∧ Y.cell? ⟨H + 1, 3, none⟩ = some (.int .i64 t.value) ∧ Below X2.heap.size X2 Y) Y) := by
    refine hide fun Y hY => ?_
    have q1 := (hY.block _ (loc_lt HB1.out)).trans HB1.out
    have q2 := (hY.block _ (loc_lt HB2.out)).trans HB2.out
    exact ⟨cell_of_row Y _ 0 _ _ _ q1, cell_of_row Y _ 1 _ _ _ q1, cell_of_row Y _ 2 _ _ _ q1, cell_of_row Y _ 3 _ _ _ q1, cell_of_row Y _ 4 _ _ _ q1, cell_of_row Y _ 5 _ _ _ q1, cell_of_row Y _ 6 _ _ _ q1, cell_of_row Y _ 7 _ _ _ q1, cell_of_row Y _ 8 _ _ _ q1, cell_of_row Y _ 0 _ _ _ q2, cell_of_row Y _ 1 _ _ _ q2, cell_of_row Y _ 2 _ _ _ q2, cell_of_row Y _ 3 _ _ _ q2, hY⟩
  have CP := hide (fun Y (hY : (fun Y : World => Y.cell? ⟨H, 0, none⟩ = some (.string tt) ∧ Y.cell? ⟨H, 1, none⟩ = some (.slice a1 S.kinds.length b1) ∧ Y.cell? ⟨H, 2, none⟩ = some (.slice a2 S.members.length b2) ∧ Y.cell? ⟨H, 3, none⟩ = some (.slice a3 S.preds.length b3) ∧ Y.cell? ⟨H, 4, none⟩ = some (.slice a4 S.classes.length b4) ∧ Y.cell? ⟨H, 5, none⟩ = some (.slice a5 S.sources.length b5) ∧ Y.cell? ⟨H, 6, none⟩ = some (.slice a6 S.rules.length b6) ∧ Y.cell? ⟨H, 7, none⟩ = some (.slice a7 S.excepts.length b7) ∧ Y.cell? ⟨H, 8, none⟩ = some (.slice a8 S.totals.length b8) ∧ Y.cell? ⟨H + 1, 0, none⟩ = some (.int .i64 t.coef) ∧ Y.cell? ⟨H + 1, 1, none⟩ = some (.string ⟨t.pred.toArray⟩) ∧ Y.cell? ⟨H + 1, 2, none⟩ = some (.slice aa t.args.length ac) ∧ Y.cell? ⟨H + 1, 3, none⟩ = some (.int .i64 t.value) ∧ Below X2.heap.size X2 Y) Y) => rpredsS (H2.out.below hY.2.2.2.2.2.2.2.2.2.2.2.2.2).sr (by omega))
  have GS : Hid (∀ Y Y', (fun Y : World => Y.cell? ⟨H, 0, none⟩ = some (.string tt) ∧ Y.cell? ⟨H, 1, none⟩ = some (.slice a1 S.kinds.length b1) ∧ Y.cell? ⟨H, 2, none⟩ = some (.slice a2 S.members.length b2) ∧ Y.cell? ⟨H, 3, none⟩ = some (.slice a3 S.preds.length b3) ∧ Y.cell? ⟨H, 4, none⟩ = some (.slice a4 S.classes.length b4) ∧ Y.cell? ⟨H, 5, none⟩ = some (.slice a5 S.sources.length b5) ∧ Y.cell? ⟨H, 6, none⟩ = some (.slice a6 S.rules.length b6) ∧ Y.cell? ⟨H, 7, none⟩ = some (.slice a7 S.excepts.length b7) ∧ Y.cell? ⟨H, 8, none⟩ = some (.slice a8 S.totals.length b8) ∧ Y.cell? ⟨H + 1, 0, none⟩ = some (.int .i64 t.coef) ∧ Y.cell? ⟨H + 1, 1, none⟩ = some (.string ⟨t.pred.toArray⟩) ∧ Y.cell? ⟨H + 1, 2, none⟩ = some (.slice aa t.args.length ac) ∧ Y.cell? ⟨H + 1, 3, none⟩ = some (.int .i64 t.value) ∧ Below X2.heap.size X2 Y) Y → Below Y.heap.size Y Y' → (fun Y : World => Y.cell? ⟨H, 0, none⟩ = some (.string tt) ∧ Y.cell? ⟨H, 1, none⟩ = some (.slice a1 S.kinds.length b1) ∧ Y.cell? ⟨H, 2, none⟩ = some (.slice a2 S.members.length b2) ∧ Y.cell? ⟨H, 3, none⟩ = some (.slice a3 S.preds.length b3) ∧ Y.cell? ⟨H, 4, none⟩ = some (.slice a4 S.classes.length b4) ∧ Y.cell? ⟨H, 5, none⟩ = some (.slice a5 S.sources.length b5) ∧ Y.cell? ⟨H, 6, none⟩ = some (.slice a6 S.rules.length b6) ∧ Y.cell? ⟨H, 7, none⟩ = some (.slice a7 S.excepts.length b7) ∧ Y.cell? ⟨H, 8, none⟩ = some (.slice a8 S.totals.length b8) ∧ Y.cell? ⟨H + 1, 0, none⟩ = some (.int .i64 t.coef) ∧ Y.cell? ⟨H + 1, 1, none⟩ = some (.string ⟨t.pred.toArray⟩) ∧ Y.cell? ⟨H + 1, 2, none⟩ = some (.slice aa t.args.length ac) ∧ Y.cell? ⟨H + 1, 3, none⟩ = some (.int .i64 t.value) ∧ Below X2.heap.size X2 Y) Y') := hide fun Y Y' hY hb => FS.out Y' (hY.2.2.2.2.2.2.2.2.2.2.2.2.2.trans (hb.mono hY.2.2.2.2.2.2.2.2.2.2.2.2.2.size))
  unfold St9.agg at CP
  simp only at CP
  go_region_held3 (fun Y : World => Y.cell? ⟨H, 0, none⟩ = some (.string tt) ∧ Y.cell? ⟨H, 1, none⟩ = some (.slice a1 S.kinds.length b1) ∧ Y.cell? ⟨H, 2, none⟩ = some (.slice a2 S.members.length b2) ∧ Y.cell? ⟨H, 3, none⟩ = some (.slice a3 S.preds.length b3) ∧ Y.cell? ⟨H, 4, none⟩ = some (.slice a4 S.classes.length b4) ∧ Y.cell? ⟨H, 5, none⟩ = some (.slice a5 S.sources.length b5) ∧ Y.cell? ⟨H, 6, none⟩ = some (.slice a6 S.rules.length b6) ∧ Y.cell? ⟨H, 7, none⟩ = some (.slice a7 S.excepts.length b7) ∧ Y.cell? ⟨H, 8, none⟩ = some (.slice a8 S.totals.length b8) ∧ Y.cell? ⟨H + 1, 0, none⟩ = some (.int .i64 t.coef) ∧ Y.cell? ⟨H + 1, 1, none⟩ = some (.string ⟨t.pred.toArray⟩) ∧ Y.cell? ⟨H + 1, 2, none⟩ = some (.slice aa t.args.length ac) ∧ Y.cell? ⟨H + 1, 3, none⟩ = some (.int .i64 t.value) ∧ Below X2.heap.size X2 Y) (first | assumption | exact FS.out _ (below_drew X2) | exact GS.out _ _ ‹_› ‹_›) (first | (go_at_call 78; refine (CP.out _ ‹_›).mono ?_; rintro e wa ⟨xa, xc, rfl, hat, hba⟩) | (go_at_call 34; refine (rfindS hat HNL.out (by omega) t.pred).mono ?_; rintro e wx ⟨rfl, hw⟩; subst wx))
  have hbl := (below_drew X2).trans hba
  have P1 := hide (H2.out.below hbl)
  have HF1 := hide (HF0.out.trans (.of_below hbl))
  have HX1 : Hid (Fr Z2 X2 wa) := hide (.of_below hbl)
  have HS1 := hide (FS.out _ hbl)
  clear hat hba hbl CP GS FS
  by_cases hm : t.pred ∈ S.ctx.names
  case neg =>
    rw [findZ_out hm]
    have hoo : Hid (.error 82 = o) := by
      have := HO.out
      rw [findP_no hm] at this
      exact this
    go_wp2_with fail
    go_ret
    exact Eks.bad hoo.out HF1.out
  rw [findZ_in hm]
  have hpl : posB S.ctx.names t.pred < S.preds.length := by rw [← HNL.out]; exact pos_lt hm
  obtain ⟨p, hp⟩ : ∃ p, S.preds[posB S.ctx.names t.pred]? = some p := ⟨_, List.getElem?_eq_getElem hpl⟩
  have hpd : S.ctx.preds.getD (posB S.ctx.names t.pred) noPred = p := by show S.preds.getD _ noPred = p; rw [List.getD_eq_getElem?_getD, hp]; rfl
  have HO2 : Hid ((wantM (decide (p.sort = 2)) 84 >>= fun _ => wantM (!decide (t.coef = 0) && decide (-1000 ≤ t.coef) && decide (t.coef ≤ 1000) && decide (t.value = 0)) 101 >>= fun _ => argumentsS S.ctx v p t.args) = o) := by
    have := HO.out
    rw [findP_yes hm, hpd] at this
    exact this
  obtain ⟨gp, op, ka, kc, va, vc, rfl, hgp, p0, p1, p2, p3, -, hpk, hpv⟩ := at_P HPR.out hp
  have HPO := hide (HOK.out p (List.mem_of_getElem? hp))
  have HPK := hide hpk
  have q1 := (World.cell?_of_block (P1.out.bel.block gp hgp)).trans p1
  obtain ⟨c0, c1, c2, c3, c4, c5, c6, c7, c8, d0, d1, d2, d3, -⟩ := HS1.out
  clear HO hpd hp hm hpk hpv
  generalize posB S.ctx.names t.pred = ip at *
  by_cases hs2 : p.sort = 2
  case neg =>
    have hoo : Hid (.error 84 = o) := by
      have := HO2.out
      rw [want_f (decide_eq_false hs2)] at this
      exact this
    have hbq : (p.sort == 2) = false := beq_eq_false_iff_ne.2 hs2
    clear hs2
    go_wp2_with fail
    go_ret
    exact Eks.bad hoo.out HF1.out
  have HO3 : Hid ((wantM (!decide (t.coef = 0) && decide (-1000 ≤ t.coef) && decide (t.coef ≤ 1000) && decide (t.value = 0)) 101 >>= fun _ => argumentsS S.ctx v p t.args) = o) := by
    have := HO2.out
    rw [want_t (decide_eq_true hs2)] at this
    exact this
  have hbq : (p.sort == 2) = true := by rw [hs2]; rfl
  have HQ9 := hide hs2
  clear HO2 hs2
  have bad : ∀ (hv : (!decide (t.coef = 0) && decide (-1000 ≤ t.coef) && decide (t.coef ≤ 1000) && decide (t.value = 0)) = false), Hid (.error 101 = o) := by
    intro hv
    have := HO3.out
    rw [want_f hv] at this
    exact this
  by_cases hc0 : t.coef = 0
  case pos =>
    have hoo := bad (by rw [decide_eq_true hc0]; rfl)
    have hbc : (t.coef == 0) = true := by rw [hc0]; rfl
    clear bad
    go_wp2_with fail
    go_ret
    exact Eks.bad hoo.out HF1.out
  have hbc : (t.coef == 0) = false := beq_eq_false_iff_ne.2 hc0
  by_cases hc1 : -1000 ≤ t.coef
  case neg =>
    have hoo := bad (by rw [decide_eq_false hc1]; simp)
    have hb1 : t.coef < -1000 := by omega
    clear hc1 bad
    go_wp2_with fail
    go_ret
    exact Eks.bad hoo.out HF1.out
  have hb1 : ¬ t.coef < -1000 := by omega
  by_cases hc2 : t.coef ≤ 1000
  case neg =>
    have hoo := bad (by rw [decide_eq_false hc2]; simp)
    have hb2 : 1000 < t.coef := by omega
    clear hc1 hc2 bad
    go_wp2_with fail
    go_ret
    exact Eks.bad hoo.out HF1.out
  have hb2 : ¬ 1000 < t.coef := by omega
  by_cases hv0 : t.value = 0
  case neg =>
    have hoo := bad (by rw [decide_eq_false hv0]; simp)
    have hb3 : (t.value == 0) = false := beq_eq_false_iff_ne.2 hv0
    clear hc1 hc2 bad
    go_wp2_with fail
    go_ret
    exact Eks.bad hoo.out HF1.out
  have hb3 : (t.value == 0) = true := by rw [hv0]; rfl
  have HO4 : Hid (argumentsS S.ctx v p t.args = o) := by
    have := HO3.out
    rw [want_t (by rw [decide_eq_false hc0, decide_eq_true hc1, decide_eq_true hc2, decide_eq_true hv0]; rfl)] at this
    exact this
  clear HO3 bad hc1 hc2
  go_upto_region 14 with fail
  clear hb1 hb2 hb3 hbc hbq hc0 hv0 q1 c0 c1 c2 c3 c4 c5 c6 c7 c8 d0 d1 d2 d3 HS1
  have CA := hide (rargs_any (P1.out.below (below_drew wa)) hB p (va := va) (vc := vc) HPK.out HPO.out.1 HPO.out.2 t.args HL.out)
  rw [HO4.out] at CA
  unfold St9.agg str at *
  simp only at CA
  have FS : Hid (∀ Y, Fr Z2 X2 Y → (fun Y : World => Y.cell? ⟨H, 0, none⟩ = some (.string tt) ∧ Y.cell? ⟨H, 1, none⟩ = some (.slice a1 S.kinds.length b1) ∧ Y.cell? ⟨H, 2, none⟩ = some (.slice a2 S.members.length b2) ∧ Y.cell? ⟨H, 3, none⟩ = some (.slice (some ⟨gp, op, none⟩) S.preds.length b3) ∧ Y.cell? ⟨H, 4, none⟩ = some (.slice a4 S.classes.length b4) ∧ Y.cell? ⟨H, 5, none⟩ = some (.slice a5 S.sources.length b5) ∧ Y.cell? ⟨H, 6, none⟩ = some (.slice a6 S.rules.length b6) ∧ Y.cell? ⟨H, 7, none⟩ = some (.slice a7 S.excepts.length b7) ∧ Y.cell? ⟨H, 8, none⟩ = some (.slice a8 S.totals.length b8) ∧ Y.cell? ⟨H + 1, 0, none⟩ = some (.int .i64 t.coef) ∧ Y.cell? ⟨H + 1, 1, none⟩ = some (.string ⟨t.pred.toArray⟩) ∧ Y.cell? ⟨H + 1, 2, none⟩ = some (.slice aa t.args.length ac) ∧ Y.cell? ⟨H + 1, 3, none⟩ = some (.int .i64 t.value) ∧ Y.cell? ⟨gp, op + ip * 4, none⟩ = some (.string ⟨p.name.toArray⟩) ∧ Y.cell? ⟨gp, op + ip * 4 + 1, none⟩ = some (.int .i64 p.sort) ∧ Y.cell? ⟨gp, op + ip * 4 + 2, none⟩ = some (.slice ka p.kinds.length kc) ∧ Y.cell? ⟨gp, op + ip * 4 + 3, none⟩ = some (.slice va p.values.length vc) ∧ Fr Z2 X2 Y) Y) := by
    refine hide fun Y hY => ?_
    have q1 := hY.at HN1.out HB1.out
    have q2 := hY.at HN2.out HB2.out
    have q3 := H2.out.strs hY
    exact ⟨cell_of_row Y _ 0 _ _ _ q1, cell_of_row Y _ 1 _ _ _ q1, cell_of_row Y _ 2 _ _ _ q1, cell_of_row Y _ 3 _ _ _ q1, cell_of_row Y _ 4 _ _ _ q1, cell_of_row Y _ 5 _ _ _ q1, cell_of_row Y _ 6 _ _ _ q1, cell_of_row Y _ 7 _ _ _ q1, cell_of_row Y _ 8 _ _ _ q1, cell_of_row Y _ 0 _ _ _ q2, cell_of_row Y _ 1 _ _ _ q2, cell_of_row Y _ 2 _ _ _ q2, cell_of_row Y _ 3 _ _ _ q2, (World.cell?_of_block (q3 gp hgp)).trans p0, (World.cell?_of_block (q3 gp hgp)).trans p1, (World.cell?_of_block (q3 gp hgp)).trans p2, (World.cell?_of_block (q3 gp hgp)).trans p3, hY⟩
  clear p0 p1 p2 p3
  go_region_held3 (fun Y : World => Y.cell? ⟨H, 0, none⟩ = some (.string tt) ∧ Y.cell? ⟨H, 1, none⟩ = some (.slice a1 S.kinds.length b1) ∧ Y.cell? ⟨H, 2, none⟩ = some (.slice a2 S.members.length b2) ∧ Y.cell? ⟨H, 3, none⟩ = some (.slice (some ⟨gp, op, none⟩) S.preds.length b3) ∧ Y.cell? ⟨H, 4, none⟩ = some (.slice a4 S.classes.length b4) ∧ Y.cell? ⟨H, 5, none⟩ = some (.slice a5 S.sources.length b5) ∧ Y.cell? ⟨H, 6, none⟩ = some (.slice a6 S.rules.length b6) ∧ Y.cell? ⟨H, 7, none⟩ = some (.slice a7 S.excepts.length b7) ∧ Y.cell? ⟨H, 8, none⟩ = some (.slice a8 S.totals.length b8) ∧ Y.cell? ⟨H + 1, 0, none⟩ = some (.int .i64 t.coef) ∧ Y.cell? ⟨H + 1, 1, none⟩ = some (.string ⟨t.pred.toArray⟩) ∧ Y.cell? ⟨H + 1, 2, none⟩ = some (.slice aa t.args.length ac) ∧ Y.cell? ⟨H + 1, 3, none⟩ = some (.int .i64 t.value) ∧ Y.cell? ⟨gp, op + ip * 4, none⟩ = some (.string ⟨p.name.toArray⟩) ∧ Y.cell? ⟨gp, op + ip * 4 + 1, none⟩ = some (.int .i64 p.sort) ∧ Y.cell? ⟨gp, op + ip * 4 + 2, none⟩ = some (.slice ka p.kinds.length kc) ∧ Y.cell? ⟨gp, op + ip * 4 + 3, none⟩ = some (.slice va p.values.length vc) ∧ Fr Z2 X2 Y) (first | assumption | exact FS.out _ (Fr.trans HX1.out (.of_below (below_drew wa))) | exact FS.out _ ‹_›) (first | (go_at_call 107; refine CA.out.mono ?_; rintro e wb ⟨rfl, hfa, hpa⟩; have hfb := Fr.trans (Fr.trans HX1.out (.of_below (below_drew wa))) hfa))
  have HPA : Hid (∀ v', o = .ok v' → Pk W0 S ⟨.string tt, .slice a1 S.kinds.length b1, .slice a2 S.members.length b2, .slice (some ⟨gp, op, none⟩) S.preds.length b3, .slice a4 S.classes.length b4, .slice a5 S.sources.length b5, .slice a6 S.rules.length b6, .slice a7 S.excepts.length b7, .slice a8 S.totals.length b8⟩ Z V (B + 4) v' wb) := hide fun v' e => H9.out.up (hpa v' e) HZS.out
  have HFB := hide (HF0.out.trans (hfb.mono fun k _ e => HZS.out k e))
  clear hfa hpa hfb CA
  go_wp2_with fail
  go_ret
  exact ⟨rfl, HFB.out, HPA.out⟩
end
end Go.Proofs.YtbdlgglbcaoakaaGreat
