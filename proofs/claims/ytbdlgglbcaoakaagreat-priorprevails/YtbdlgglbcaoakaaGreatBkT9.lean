/- The page's literal. -/
import Derived.Test.YtbdlgglbcaoakaaGreatBkA9
namespace Go.Proofs.YtbdlgglbcaoakaaGreat
open Go.RowKit Go.Shelf Go.Maps Go.WideMaps

def literalS (C : Ctx) (v : Scope) (l : LitM) : Er Scope :=
  findPredM C l.pred >>= fun p =>
  wantM (!decide (p.sort = 2)) 84 >>= fun _ =>
  argumentsS C v p l.args >>= fun v' =>
  wantM (l.hasValue == decide (p.sort = 3)) 84 >>= fun _ =>
  wantM (l.hasValue || decide (l.value = 0)) 84 >>= fun _ =>
  wantM (!l.hasValue || decide (l.value ∈ p.values)) 85 >>= fun _ => .ok v'
theorem bnd_w {α β : Type} {b : Bool} {c : Int} {f : Unit → Er α} {g : α → Er β} : ((wantM b c >>= f) >>= g) = (wantM b c >>= fun u => f u >>= g) := by cases b <;> rfl
theorem literalS_eq (C : Ctx) (v : Scope) (l : LitM) : (literalM C v l >>= fun x => .ok x.1) = literalS C v l := by
  unfold literalM literalS
  cases hp : findPredM C l.pred with
  | error c => rfl
  | ok p =>
    show (wantM (!decide (p.sort = 2)) 84 >>= fun _ => argumentsM C v p l.args >>= fun x => _) >>= _ = _
    rw [bnd_w]
    congr 1
    funext _
    rw [← argumentsS_eq]
    cases ha : argumentsM C v p l.args with
    | error c => rfl
    | ok x =>
      show (wantM (l.hasValue == decide (p.sort = 3)) 84 >>= fun _ => _) >>= _ = (wantM (l.hasValue == decide (p.sort = 3)) 84 >>= fun _ => _)
      rw [bnd_w]
      congr 1
      funext _
      rw [bnd_w]
      congr 1
      funext _
      rw [bnd_w]
      rfl
def PredsOk (S : StatM) : Prop := ∀ p ∈ S.preds, p.kinds.length ≤ 4 ∧ ∀ k ∈ p.kinds, k ∈ S.kinds
section
variable {W0 : World} {S : StatM} {st : St9} {Z : Nat → Prop} {V B : Nat} {v : Scope} {X : World}
set_option maxRecDepth 100000 in
set_option maxHeartbeats 12800000 in
theorem rlit_any (h9 : Pk W0 S st Z V B v X) (hB : B + 4 ≤ 4096) (hok : PredsOk S) (l : LitM) {aa : Option Addr} {ac : Nat} (hl : Strs W0.heap.size W0 l.args (.slice aa l.args.length ac)) :
    Calls Tryz.prog 85 #[ptr V, st.agg, .agg #[.bool l.neg, .string ⟨l.pred.toArray⟩, .slice aa l.args.length ac, .bool l.hasValue, .int .i64 l.value]] X fun e X' => Eks W0 S st Z V (B + 4) X (literalS S.ctx v l) e X' := by
  have h := h9.sr
  obtain ⟨hfk, hfm, hfp, _⟩ := fitB h9.fit
  obtain ⟨tt, ht⟩ := h.title
  obtain ⟨a1, b1, f1, _, _⟩ := h.kinds.form
  obtain ⟨a2, b2, f2, _, _⟩ := h.members.form
  obtain ⟨a3, b3, f3, _, _⟩ := h.preds.form
  obtain ⟨a4, b4, f4, _, _⟩ := h.classes.form
  obtain ⟨a5, b5, f5, _, _⟩ := h.sources.form
  obtain ⟨a6, b6, f6, _, _⟩ := h.rules.form
  obtain ⟨a7, b7, f7, _, _⟩ := h.excepts.form
  obtain ⟨a8, b8, f8, _, _⟩ := h.totals.form
  obtain ⟨s0, s1, s2, s3, s4, s5, s6, s7, s8⟩ := st
  simp only at ht f1 f2 f3 f4 f5 f6 f7 f8
  subst ht f1 f2 f3 f4 f5 f6 f7 f8
  obtain ⟨Z2, hP2, hzs, hn1, hn2, hf0, hb1, hb2, hVl⟩ := h9.box2 (.cells #[.string tt, .slice a1 S.kinds.length b1, .slice a2 S.members.length b2, .slice a3 S.preds.length b3, .slice a4 S.classes.length b4, .slice a5 S.sources.length b5, .slice a6 S.rules.length b6, .slice a7 S.excepts.length b7, .slice a8 S.totals.length b8] 31) (.cells #[.bool l.neg, .string ⟨l.pred.toArray⟩, .slice aa l.args.length ac, .bool l.hasValue, .int .i64 l.value] 47)
  have H9 := hide h9
  have H2 := hide hP2
  have HZS := hide hzs
  have HN1 := hide hn1
  have HN2 := hide hn2
  have HF0 := hide hf0
  have HB1 := hide hb1
  have HB2 := hide hb2
  have HL := hide hl
  have HOK := hide hok
  have HPR := hide h9.srW.preds
  have HNL : Hid (S.ctx.names.length = S.preds.length) := hide (List.length_map _)
  obtain ⟨o, ho⟩ : ∃ o, literalS S.ctx v l = o := ⟨_, rfl⟩
  rw [ho]
  have HO := hide ho
  unfold literalS at HO
  obtain ⟨H, hH⟩ : ∃ H, H = X.heap.size := ⟨_, rfl⟩
  rw [← hH] at HN1 HN2 HB1 HB2
  clear h9 h ho hP2 hzs hn1 hn2 hf0 hb1 hb2 hl hok
  unfold St9.agg at *
  simp only at *
  go_enter Tryz.func85, Tryz.ntmps85
  go_upto_region 1 with fail
  rw [← hH]
  generalize ((X.alloc (.cells #[.string tt, .slice a1 S.kinds.length b1, .slice a2 S.members.length b2, .slice a3 S.preds.length b3, .slice a4 S.classes.length b4, .slice a5 S.sources.length b5, .slice a6 S.rules.length b6, .slice a7 S.excepts.length b7, .slice a8 S.totals.length b8] 31)).alloc (.cells #[.bool l.neg, .string ⟨l.pred.toArray⟩, .slice aa l.args.length ac, .bool l.hasValue, .int .i64 l.value] 47)) = X2 at *
  clear hH
  have FS : Hid (∀ Y, Below X2.heap.size X2 Y → (fun Y : World => Y.cell? ⟨H, 0, none⟩ = some (.string tt) ∧ Y.cell? ⟨H, 1, none⟩ = some (.slice a1 S.kinds.length b1) ∧ Y.cell? ⟨H, 2, none⟩ = some (.slice a2 S.members.length b2) ∧ Y.cell? ⟨H, 3, none⟩ = some (.slice a3 S.preds.length b3) ∧ Y.cell? ⟨H, 4, none⟩ = some (.slice a4 S.classes.length b4) ∧ Y.cell? ⟨H, 5, none⟩ = some (.slice a5 S.sources.length b5) ∧ Y.cell? ⟨H, 6, none⟩ = some (.slice a6 S.rules.length b6) ∧ Y.cell? ⟨H, 7, none⟩ = some (.slice a7 S.excepts.length b7) ∧ Y.cell? ⟨H, 8, none⟩ = some (.slice a8 S.totals.length b8) ∧ Y.cell? ⟨H + 1, 0, none⟩ = some (.bool l.neg) ∧ Y.cell? ⟨H + 1, 1, none⟩ = some (.string ⟨l.pred.toArray⟩) ∧ Y.cell? ⟨H + 1, 2, none⟩ = some (.slice aa l.args.length ac) ∧ Y.cell? ⟨H + 1, 3, none⟩ = some (.bool l.hasValue) ∧ Y.cell? ⟨H + 1, 4, none⟩ = some (.int .i64 l.value) ∧ Below X2.heap.size X2 Y) Y) := by
    refine hide fun Y hY => ?_
    have q1 := (hY.block _ (loc_lt HB1.out)).trans HB1.out
    have q2 := (hY.block _ (loc_lt HB2.out)).trans HB2.out
    exact ⟨cell_of_row Y _ 0 _ _ _ q1, cell_of_row Y _ 1 _ _ _ q1, cell_of_row Y _ 2 _ _ _ q1, cell_of_row Y _ 3 _ _ _ q1, cell_of_row Y _ 4 _ _ _ q1, cell_of_row Y _ 5 _ _ _ q1, cell_of_row Y _ 6 _ _ _ q1, cell_of_row Y _ 7 _ _ _ q1, cell_of_row Y _ 8 _ _ _ q1, cell_of_row Y _ 0 _ _ _ q2, cell_of_row Y _ 1 _ _ _ q2, cell_of_row Y _ 2 _ _ _ q2, cell_of_row Y _ 3 _ _ _ q2, cell_of_row Y _ 4 _ _ _ q2, hY⟩
  have CP := hide (fun Y (hY : (fun Y : World => Y.cell? ⟨H, 0, none⟩ = some (.string tt) ∧ Y.cell? ⟨H, 1, none⟩ = some (.slice a1 S.kinds.length b1) ∧ Y.cell? ⟨H, 2, none⟩ = some (.slice a2 S.members.length b2) ∧ Y.cell? ⟨H, 3, none⟩ = some (.slice a3 S.preds.length b3) ∧ Y.cell? ⟨H, 4, none⟩ = some (.slice a4 S.classes.length b4) ∧ Y.cell? ⟨H, 5, none⟩ = some (.slice a5 S.sources.length b5) ∧ Y.cell? ⟨H, 6, none⟩ = some (.slice a6 S.rules.length b6) ∧ Y.cell? ⟨H, 7, none⟩ = some (.slice a7 S.excepts.length b7) ∧ Y.cell? ⟨H, 8, none⟩ = some (.slice a8 S.totals.length b8) ∧ Y.cell? ⟨H + 1, 0, none⟩ = some (.bool l.neg) ∧ Y.cell? ⟨H + 1, 1, none⟩ = some (.string ⟨l.pred.toArray⟩) ∧ Y.cell? ⟨H + 1, 2, none⟩ = some (.slice aa l.args.length ac) ∧ Y.cell? ⟨H + 1, 3, none⟩ = some (.bool l.hasValue) ∧ Y.cell? ⟨H + 1, 4, none⟩ = some (.int .i64 l.value) ∧ Below X2.heap.size X2 Y) Y) => rpredsS (H2.out.below hY.2.2.2.2.2.2.2.2.2.2.2.2.2.2).sr (by omega))
  have GS : Hid (∀ Y Y', (fun Y : World => Y.cell? ⟨H, 0, none⟩ = some (.string tt) ∧ Y.cell? ⟨H, 1, none⟩ = some (.slice a1 S.kinds.length b1) ∧ Y.cell? ⟨H, 2, none⟩ = some (.slice a2 S.members.length b2) ∧ Y.cell? ⟨H, 3, none⟩ = some (.slice a3 S.preds.length b3) ∧ Y.cell? ⟨H, 4, none⟩ = some (.slice a4 S.classes.length b4) ∧ Y.cell? ⟨H, 5, none⟩ = some (.slice a5 S.sources.length b5) ∧ Y.cell? ⟨H, 6, none⟩ = some (.slice a6 S.rules.length b6) ∧ Y.cell? ⟨H, 7, none⟩ = some (.slice a7 S.excepts.length b7) ∧ Y.cell? ⟨H, 8, none⟩ = some (.slice a8 S.totals.length b8) ∧ Y.cell? ⟨H + 1, 0, none⟩ = some (.bool l.neg) ∧ Y.cell? ⟨H + 1, 1, none⟩ = some (.string ⟨l.pred.toArray⟩) ∧ Y.cell? ⟨H + 1, 2, none⟩ = some (.slice aa l.args.length ac) ∧ Y.cell? ⟨H + 1, 3, none⟩ = some (.bool l.hasValue) ∧ Y.cell? ⟨H + 1, 4, none⟩ = some (.int .i64 l.value) ∧ Below X2.heap.size X2 Y) Y → Below Y.heap.size Y Y' → (fun Y : World => Y.cell? ⟨H, 0, none⟩ = some (.string tt) ∧ Y.cell? ⟨H, 1, none⟩ = some (.slice a1 S.kinds.length b1) ∧ Y.cell? ⟨H, 2, none⟩ = some (.slice a2 S.members.length b2) ∧ Y.cell? ⟨H, 3, none⟩ = some (.slice a3 S.preds.length b3) ∧ Y.cell? ⟨H, 4, none⟩ = some (.slice a4 S.classes.length b4) ∧ Y.cell? ⟨H, 5, none⟩ = some (.slice a5 S.sources.length b5) ∧ Y.cell? ⟨H, 6, none⟩ = some (.slice a6 S.rules.length b6) ∧ Y.cell? ⟨H, 7, none⟩ = some (.slice a7 S.excepts.length b7) ∧ Y.cell? ⟨H, 8, none⟩ = some (.slice a8 S.totals.length b8) ∧ Y.cell? ⟨H + 1, 0, none⟩ = some (.bool l.neg) ∧ Y.cell? ⟨H + 1, 1, none⟩ = some (.string ⟨l.pred.toArray⟩) ∧ Y.cell? ⟨H + 1, 2, none⟩ = some (.slice aa l.args.length ac) ∧ Y.cell? ⟨H + 1, 3, none⟩ = some (.bool l.hasValue) ∧ Y.cell? ⟨H + 1, 4, none⟩ = some (.int .i64 l.value) ∧ Below X2.heap.size X2 Y) Y') := hide fun Y Y' hY hb => FS.out Y' (hY.2.2.2.2.2.2.2.2.2.2.2.2.2.2.trans (hb.mono hY.2.2.2.2.2.2.2.2.2.2.2.2.2.2.size))
  unfold St9.agg at CP
  simp only at CP
  go_region_held3 (fun Y : World => Y.cell? ⟨H, 0, none⟩ = some (.string tt) ∧ Y.cell? ⟨H, 1, none⟩ = some (.slice a1 S.kinds.length b1) ∧ Y.cell? ⟨H, 2, none⟩ = some (.slice a2 S.members.length b2) ∧ Y.cell? ⟨H, 3, none⟩ = some (.slice a3 S.preds.length b3) ∧ Y.cell? ⟨H, 4, none⟩ = some (.slice a4 S.classes.length b4) ∧ Y.cell? ⟨H, 5, none⟩ = some (.slice a5 S.sources.length b5) ∧ Y.cell? ⟨H, 6, none⟩ = some (.slice a6 S.rules.length b6) ∧ Y.cell? ⟨H, 7, none⟩ = some (.slice a7 S.excepts.length b7) ∧ Y.cell? ⟨H, 8, none⟩ = some (.slice a8 S.totals.length b8) ∧ Y.cell? ⟨H + 1, 0, none⟩ = some (.bool l.neg) ∧ Y.cell? ⟨H + 1, 1, none⟩ = some (.string ⟨l.pred.toArray⟩) ∧ Y.cell? ⟨H + 1, 2, none⟩ = some (.slice aa l.args.length ac) ∧ Y.cell? ⟨H + 1, 3, none⟩ = some (.bool l.hasValue) ∧ Y.cell? ⟨H + 1, 4, none⟩ = some (.int .i64 l.value) ∧ Below X2.heap.size X2 Y) (first | assumption | exact FS.out _ (below_drew X2) | exact GS.out _ _ ‹_› ‹_›) (first | (go_at_call 78; refine (CP.out _ ‹_›).mono ?_; rintro e wa ⟨xa, xc, rfl, hat, hba⟩) | (go_at_call 34; refine (rfindS hat HNL.out (by omega) l.pred).mono ?_; rintro e wx ⟨rfl, hw⟩; subst wx))
  have hbl := (below_drew X2).trans hba
  have P1 := hide (H2.out.below hbl)
  have HF1 := hide (HF0.out.trans (.of_below hbl))
  have HS1 := hide (FS.out _ hbl)
  have HB11 := hide ((hbl.block _ (loc_lt HB1.out)).trans HB1.out)
  have HB21 := hide ((hbl.block _ (loc_lt HB2.out)).trans HB2.out)
  clear hat hba hbl CP GS FS
  by_cases hm : l.pred ∈ S.ctx.names
  case neg =>
    rw [findZ_out hm]
    have hoo : Hid (.error 82 = o) := by
      have := HO.out
      rw [findP_no hm] at this
      exact this
    go_wp2_with fail
    go_ret
    exact Eks.bad hoo.out HF1.out
  rw [findZ_in hm]
  have hpl : posB S.ctx.names l.pred < S.preds.length := by rw [← HNL.out]; exact pos_lt hm
  obtain ⟨p, hp⟩ : ∃ p, S.preds[posB S.ctx.names l.pred]? = some p := ⟨_, List.getElem?_eq_getElem hpl⟩
  have hpd : S.ctx.preds.getD (posB S.ctx.names l.pred) noPred = p := by show S.preds.getD _ noPred = p; rw [List.getD_eq_getElem?_getD, hp]; rfl
  have HO2 : Hid ((wantM (!decide (p.sort = 2)) 84 >>= fun _ => argumentsS S.ctx v p l.args >>= fun v' => wantM (l.hasValue == decide (p.sort = 3)) 84 >>= fun _ => wantM (l.hasValue || decide (l.value = 0)) 84 >>= fun _ => wantM (!l.hasValue || decide (l.value ∈ p.values)) 85 >>= fun _ => .ok v') = o) := by
    have := HO.out
    rw [findP_yes hm, hpd] at this
    exact this
  obtain ⟨gp, op, ka, kc, va, vc, rfl, hgp, p0, p1, p2, p3, -, hpk, hpv⟩ := at_P HPR.out hp
  have HPO := hide (HOK.out p (List.mem_of_getElem? hp))
  have HPK := hide hpk
  have HPV := hide hpv
  have hvl : p.values.length ≤ 140737488351232 := by obtain ⟨_, _, _, _, h⟩ := hpv.form; exact h
  have q0 := (World.cell?_of_block (P1.out.bel.block gp hgp)).trans p0
  have q1 := (World.cell?_of_block (P1.out.bel.block gp hgp)).trans p1
  have q2 := (World.cell?_of_block (P1.out.bel.block gp hgp)).trans p2
  have q3 := (World.cell?_of_block (P1.out.bel.block gp hgp)).trans p3
  unfold str at q0
  obtain ⟨c0, c1, c2, c3, c4, c5, c6, c7, c8, d0, d1, d2, d3, d4, -⟩ := HS1.out
  clear HO hpd hp hm p0 p1 p2 p3 hpk hpv
  generalize posB S.ctx.names l.pred = ip at *
  go_upto_region 5 with fail
  obtain ⟨Z3, hP3, hz3, hn3, hf3, hb3, -, -⟩ := P1.out.box1 (.cells #[.string ⟨p.name.toArray⟩, .int .i64 p.sort, .slice ka p.kinds.length kc, .slice va p.values.length vc] 119)
  obtain ⟨Q, hQ⟩ : ∃ Q, Q = wa.heap.size := ⟨_, rfl⟩
  rw [← hQ] at hn3 hb3 ⊢
  have P3 := hide hP3
  have HZ3 := hide hz3
  have HN3 := hide hn3
  have HF3 := hide (HF1.out.trans (hf3.mono fun k _ e => HZS.out k e))
  have HB3 := hide hb3
  have HB13 := hide (hf3.at HN1.out HB11.out)
  have HB23 := hide (hf3.at HN2.out HB21.out)
  have HN13 : Hid (¬ Z3 H) := hide fun e => HN1.out (hz3 _ e)
  have HN23 : Hid (¬ Z3 (H + 1)) := hide fun e => HN2.out (hz3 _ e)
  clear hP3 hz3 hn3 hf3 hb3 c0 c1 c2 c3 c4 c5 c6 c7 c8 d0 d1 d2 d3 d4 q0 q1 q2 q3 HS1 HB11 HB21
  generalize wa.alloc (.cells #[.string ⟨p.name.toArray⟩, .int .i64 p.sort, .slice ka p.kinds.length kc, .slice va p.values.length vc] 119) = w3 at *
  clear hQ
  have c0 := cell_of_row w3 _ 0 _ _ _ HB13.out
  have c1 := cell_of_row w3 _ 1 _ _ _ HB13.out
  have c2 := cell_of_row w3 _ 2 _ _ _ HB13.out
  have c3 := cell_of_row w3 _ 3 _ _ _ HB13.out
  have c4 := cell_of_row w3 _ 4 _ _ _ HB13.out
  have c5 := cell_of_row w3 _ 5 _ _ _ HB13.out
  have c6 := cell_of_row w3 _ 6 _ _ _ HB13.out
  have c7 := cell_of_row w3 _ 7 _ _ _ HB13.out
  have c8 := cell_of_row w3 _ 8 _ _ _ HB13.out
  have d0 := cell_of_row w3 _ 0 _ _ _ HB23.out
  have d1 := cell_of_row w3 _ 1 _ _ _ HB23.out
  have d2 := cell_of_row w3 _ 2 _ _ _ HB23.out
  have d3 := cell_of_row w3 _ 3 _ _ _ HB23.out
  have d4 := cell_of_row w3 _ 4 _ _ _ HB23.out
  have r0 := cell_of_row w3 _ 0 _ _ _ HB3.out
  have r1 := cell_of_row w3 _ 1 _ _ _ HB3.out
  have r2 := cell_of_row w3 _ 2 _ _ _ HB3.out
  have r3 := cell_of_row w3 _ 3 _ _ _ HB3.out
  simp only [List.getElem?_toArray, List.getElem?_cons_zero, List.getElem?_cons_succ] at c0 c1 c2 c3 c4 c5 c6 c7 c8 d0 d1 d2 d3 d4 r0 r1 r2 r3
  by_cases hs2 : p.sort = 2
  case pos =>
    have hoo : Hid (.error 84 = o) := by
      have := HO2.out
      rw [want_f (by rw [decide_eq_true hs2]; rfl)] at this
      exact this
    have hbq : (p.sort == 2) = true := by rw [hs2]; rfl
    clear hs2
    go_wp2_with fail
    go_ret
    exact Eks.bad hoo.out HF3.out
  have HO3 : Hid ((argumentsS S.ctx v p l.args >>= fun v' => wantM (l.hasValue == decide (p.sort = 3)) 84 >>= fun _ => wantM (l.hasValue || decide (l.value = 0)) 84 >>= fun _ => wantM (!l.hasValue || decide (l.value ∈ p.values)) 85 >>= fun _ => .ok v') = o) := by
    have := HO2.out
    rw [want_t (by rw [decide_eq_false hs2]; rfl)] at this
    exact this
  have hbq : (p.sort == 2) = false := beq_eq_false_iff_ne.2 hs2
  clear HO2 hs2
  have CA := hide (rargs_any P3.out hB p (va := va) (vc := vc) HPK.out HPO.out.1 HPO.out.2 l.args HL.out)
  have HNZ := hide (show Nz (argumentsS S.ctx v p l.args) from by rw [← argumentsS_eq]; exact Nz.bind (nz_arguments _ _ _ _) fun _ => Nz.ok _)
  unfold St9.agg at CA
  simp only at CA
  generalize argumentsS S.ctx v p l.args = o1 at *
  go_upto_region 8 with (go_at_call 107; refine CA.out.mono ?_; rintro e w4 ⟨rfl, hf4, hp4⟩)
  generalize hec : erc o1 = z at *
  have HF4 := hide (HF3.out.trans (hf4.mono fun k _ e => HZS.out k (HZ3.out k e)))
  have HB24 := hide (hf4.at HN23.out HB23.out)
  have HB34 := hide (hf4.at HN3.out HB3.out)
  have HAT := hide (P3.out.strs hf4)
  clear hf4 c0 c1 c2 c3 c4 c5 c6 c7 c8 d0 d1 d2 d3 d4 r0 r1 r2 r3 CA
  cases o1 with
  | error c =>
    have hec1 : c = z := hec
    subst hec1
    have hoo : Hid (.error c = o) := HO3.out
    have hbc : (c == 0) = false := beq_eq_false_iff_ne.2 (HNZ.out c rfl)
    clear hec HO3 HNZ hp4
    go_wp2_with fail
    go_ret
    exact Eks.bad hoo.out HF4.out
  | ok v2 =>
  have hec1 : 0 = z := hec
  subst hec1
  clear hec HNZ
  have P4 := hide (H9.out.up (hp4 v2 rfl) fun k e => HZS.out k (HZ3.out k e))
  have HO4 : Hid ((wantM (l.hasValue == decide (p.sort = 3)) 84 >>= fun _ => wantM (l.hasValue || decide (l.value = 0)) 84 >>= fun _ => wantM (!l.hasValue || decide (l.value ∈ p.values)) 85 >>= fun _ => .ok v2) = o) := HO3.out
  have d3 := cell_of_row w4 _ 3 _ _ _ HB24.out
  have d4 := cell_of_row w4 _ 4 _ _ _ HB24.out
  have r1 := cell_of_row w4 _ 1 _ _ _ HB34.out
  have r3 := cell_of_row w4 _ 3 _ _ _ HB34.out
  simp only [List.getElem?_toArray, List.getElem?_cons_zero, List.getElem?_cons_succ] at d3 d4 r1 r3
  have CH := hide (rhas_any (c := vc) (Moneys.at1 (Moneys.keep HAT.out HPV.out)) hvl l.value)
  clear HO3 hp4
  have bad84 : ∀ (hv : l.hasValue = true ∧ p.sort ≠ 3 ∨ l.hasValue = false ∧ p.sort = 3 ∨ l.hasValue = false ∧ l.value ≠ 0), Hid (.error 84 = o) := by
    intro hv
    have := HO4.out
    refine hide (Eq.trans ?_ this)
    rcases hv with ⟨h1, h2⟩ | ⟨h1, h2⟩ | ⟨h1, h2⟩
    · rw [want_f (by rw [h1, decide_eq_false h2]; rfl)]; rfl
    · rw [want_f (by rw [h1, decide_eq_true h2]; rfl)]; rfl
    · by_cases h3 : p.sort = 3
      · rw [want_f (by rw [h1, decide_eq_true h3]; rfl)]; rfl
      · rw [want_t (by rw [h1, decide_eq_false h3]; rfl)]
        show _ = (wantM (l.hasValue || decide (l.value = 0)) 84 >>= _)
        rw [want_f (by rw [h1, decide_eq_false h2]; rfl)]; rfl
  cases hhv : l.hasValue with
  | true =>
    rw [hhv] at d3
    by_cases h3 : p.sort = 3
    case neg =>
      have hoo := bad84 (.inl ⟨hhv, h3⟩)
      have hb9 : (p.sort == 3) = false := beq_eq_false_iff_ne.2 h3
      clear h3 bad84
      go_wp2_with fail
      go_ret
      exact Eks.bad hoo.out HF4.out
    have hb9 : (p.sort == 3) = true := by rw [h3]; rfl
    by_cases hin : l.value ∈ p.values
    · have hoo : Hid (.ok v2 = o) := by
        have := HO4.out
        rw [hhv, decide_eq_true h3, decide_eq_true hin] at this
        exact this
      rw [decide_eq_true hin] at CH
      clear h3 bad84 hin
      go_wp2_with (go_at_call 80; refine CH.out.mono ?_; rintro _ w5 ⟨rfl, hw⟩; subst w5)
      go_ret
      exact Eks.ok hoo.out HF4.out P4.out
    · have hoo : Hid (.error 85 = o) := by
        have := HO4.out
        rw [hhv, decide_eq_true h3, decide_eq_false hin] at this
        exact this
      rw [decide_eq_false hin] at CH
      clear h3 bad84 hin
      go_wp2_with (go_at_call 80; refine CH.out.mono ?_; rintro _ w5 ⟨rfl, hw⟩; subst w5)
      go_ret
      exact Eks.bad hoo.out HF4.out
  | false =>
    rw [hhv] at d3
    by_cases h3 : p.sort = 3
    case pos =>
      have hoo := bad84 (.inr (.inl ⟨hhv, h3⟩))
      have hb9 : (p.sort == 3) = true := by rw [h3]; rfl
      clear h3 bad84
      go_wp2_with fail
      go_ret
      exact Eks.bad hoo.out HF4.out
    have hb9 : (p.sort == 3) = false := beq_eq_false_iff_ne.2 h3
    by_cases h0 : l.value = 0
    · have hoo : Hid (.ok v2 = o) := by
        have := HO4.out
        rw [hhv, decide_eq_false h3, decide_eq_true h0] at this
        exact this
      rw [h0] at d4
      clear h3 bad84 h0
      go_wp2_with fail
      go_ret
      exact Eks.ok hoo.out HF4.out P4.out
    · have hoo := bad84 (.inr (.inr ⟨hhv, h0⟩))
      have hb0 : (l.value == 0) = false := beq_eq_false_iff_ne.2 h0
      clear h3 bad84 h0
      go_wp2_with fail
      go_ret
      exact Eks.bad hoo.out HF4.out
end
end Go.Proofs.YtbdlgglbcaoakaaGreat
