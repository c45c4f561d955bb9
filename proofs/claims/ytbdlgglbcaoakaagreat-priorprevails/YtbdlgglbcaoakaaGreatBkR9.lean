/- The page's rule. -/
import Derived.Test.YtbdlgglbcaoakaaGreatBkL9
namespace Go.Proofs.YtbdlgglbcaoakaaGreat
open Go.RowKit Go.Shelf Go.Maps Go.WideMaps

theorem rschemasS {S : StatM} {st : St9} {w : World} (h : SR w.heap.size w S st) (hl : S.rules.length * 24 ≤ 140737488351232) : Calls Tryz.prog 82 #[st.agg] w fun e w' => ∃ xa xc, e = .returned (.slice xa S.rules.length xc) ∧ At1 w' xa (strs S.heads) ∧ Below w.heap.size w w' := by
  refine (rschemas_any h hl).mono ?_
  rintro e w' ⟨v, rfl, hv, hb⟩
  have e1 : (S.rules.map (·.name)).length = S.rules.length := List.length_map _
  rw [e1] at hv
  obtain ⟨xa, xc, rfl⟩ := owns_slice hv
  exact ⟨xa, xc, rfl, owns_at1 (owns_down hv (Nat.zero_le _)), hb⟩
theorem rsourcesS {S : StatM} {st : St9} {w : World} (h : SR w.heap.size w S st) (hl : S.sources.length * 24 ≤ 140737488351232) : Calls Tryz.prog 37 #[st.agg] w fun e w' => ∃ xa xc, e = .returned (.slice xa S.sources.length xc) ∧ At1 w' xa (strs S.srcs) ∧ Below w.heap.size w w' := by
  refine (rsources_any h hl).mono ?_
  rintro e w' ⟨v, rfl, hv, hb⟩
  have e1 : (S.sources.map (·.1)).length = S.sources.length := List.length_map _
  rw [e1] at hv
  obtain ⟨xa, xc, rfl⟩ := owns_slice hv
  exact ⟨xa, xc, rfl, owns_at1 (owns_down hv (Nat.zero_le _)), hb⟩
theorem rnamedS {w : World} {a : Option Addr} {l : List Bytes} {c n m : Nat} {s : Bytes} (h : At1 w a (strs l)) (hm : l.length = m) (hl : m ≤ 140737488351232) (hn : n < m) (hs : l.getD n [] = s) :
    Calls Tryz.prog 32 #[.slice a m c, .int .i64 n] w fun e w' => e = .returned (.int .i64 (erc (calledM l s n))) ∧ w' = w := by
  subst hm hs
  exact rnamed_any h hl hn
/-- How the page's rule ends. -/
def Eu (W0 : World) (S : StatM) (st : St9) (Z : Nat → Prop) (V : Nat) (t : RuleM) (X : World) (o : Er Unit) (e : Ending) (X' : World) : Prop :=
  e = .returned (.int .i64 (erc o)) ∧ Fr Z X X' ∧ (o = .ok () → ∃ v, partsM S.ctx t = .ok v ∧ Pk W0 S st Z V 2048 v X')
theorem Eu.bad {W0 : World} {S : StatM} {st : St9} {Z : Nat → Prop} {V : Nat} {t : RuleM} {X X' : World} {o : Er Unit} {c : Int} (h : .error c = o) (hf : Fr Z X X') : Eu W0 S st Z V t X o (.returned (.int .i64 c)) X' := by subst h; exact ⟨rfl, hf, fun e => by cases e⟩
theorem parts_S (C : Ctx) (t : RuleM) : (bodyM C [] t.body >>= fun v => literalS C v t.head) = partsM C t := by
  unfold partsM
  simp only [literalS_eq]
section
variable {W0 : World} {S : StatM} {st : St9} {Z : Nat → Prop} {V : Nat} {X : World}
set_option maxRecDepth 100000 in
set_option maxHeartbeats 25600000 in
theorem rrule_any (h9 : Pk W0 S st Z V 0 [] X) (hok : PredsOk S) {n : Nat} {t : RuleM} (hn : S.rules[n]? = some t) :
    Calls Tryz.prog 38 #[ptr V, st.agg, .int .i64 n] X fun e X' => Eu W0 S st Z V t X (ruleM S.ctx S.srcs S.heads n t) e X' := by
  have h := h9.sr
  obtain ⟨hfk, hfm, hfp, hfc, hfs, hfr, _⟩ := fitB h9.fit
  have hlt : n < S.rules.length := (List.getElem?_eq_some_iff.1 hn).1
  have HRW := hide h9.srW.rules
  obtain ⟨tt, ht⟩ := h.title
  obtain ⟨a1, b1, f1, _, _⟩ := h.kinds.form
  obtain ⟨a2, b2, f2, _, _⟩ := h.members.form
  obtain ⟨a3, b3, f3, _, _⟩ := h.preds.form
  obtain ⟨a4, b4, f4, _, _⟩ := h.classes.form
  obtain ⟨a5, b5, f5, _, _⟩ := h.sources.form
  obtain ⟨a6, b6, f6, _, _⟩ := h.rules.form
  obtain ⟨a7, b7, f7, _, _⟩ := h.excepts.form
  obtain ⟨a8, b8, f8, _, _⟩ := h.totals.form
  obtain ⟨s0, s1, s2, s3, s4, s5, s6, s7, s8⟩ := st
  simp only at ht f1 f2 f3 f4 f5 f6 f7 f8
  subst ht f1 f2 f3 f4 f5 f6 f7 f8
  obtain ⟨Z1, hP1, hzs, hn1, hf0, hb1, hVl, -⟩ := h9.box1 (.cells #[.string tt, .slice a1 S.kinds.length b1, .slice a2 S.members.length b2, .slice a3 S.preds.length b3, .slice a4 S.classes.length b4, .slice a5 S.sources.length b5, .slice a6 S.rules.length b6, .slice a7 S.excepts.length b7, .slice a8 S.totals.length b8] 31)
  obtain ⟨gr, orr, ba, bc, ha, hc, rfl, hgr, e0, e1, e2, e3, e4, e5, e6, e7, e8, e9, e10, -, -, -, hbody, hhead⟩ := at_R HRW.out hn
  have hbl : t.body.length ≤ 140737488351232 := by obtain ⟨_, _, _, _, h⟩ := hbody.form; exact h
  have H9 := hide h9
  have P1 := hide hP1
  have HZ1 := hide hzs
  have HN1 := hide hn1
  have HF0 := hide hf0
  have HB1 := hide hb1
  have HBD := hide hbody
  have HHD := hide hhead
  have HOK := hide hok
  have HNL : Hid (S.heads.length = S.rules.length) := hide (List.length_map _)
  have HSL : Hid (S.srcs.length = S.sources.length) := hide (List.length_map _)
  have HNM : Hid (S.heads.getD n [] = t.name) := hide (by show (S.rules.map (·.name)).getD n [] = t.name; rw [List.getD_eq_getElem?_getD, List.getElem?_map, hn]; rfl)
  have CS := hide (rschemasS hP1.sr (by omega))
  obtain ⟨o, ho⟩ : ∃ o, ruleM S.ctx S.srcs S.heads n t = o := ⟨_, rfl⟩
  rw [ho]
  have HO := hide ho
  unfold ruleM at HO
  obtain ⟨H, hH⟩ : ∃ H, H = X.heap.size := ⟨_, rfl⟩
  rw [← hH] at HN1 HB1
  clear h9 h ho hP1 hzs hn1 hf0 hb1 hok hn hbody hhead
  unfold St9.agg str at *
  simp only at *
  have c0 := cell_of_row _ _ 0 _ _ _ HB1.out
  have c1 := cell_of_row _ _ 1 _ _ _ HB1.out
  have c2 := cell_of_row _ _ 2 _ _ _ HB1.out
  have c3 := cell_of_row _ _ 3 _ _ _ HB1.out
  have c4 := cell_of_row _ _ 4 _ _ _ HB1.out
  have c5 := cell_of_row _ _ 5 _ _ _ HB1.out
  have c6 := cell_of_row _ _ 6 _ _ _ HB1.out
  have c7 := cell_of_row _ _ 7 _ _ _ HB1.out
  have c8 := cell_of_row _ _ 8 _ _ _ HB1.out
  simp only [List.getElem?_toArray, List.getElem?_cons_zero, List.getElem?_cons_succ] at c0 c1 c2 c3 c4 c5 c6 c7 c8
  go_enter Tryz.func38, Tryz.ntmps38
  go_upto_region 1 with fail
  rw [← hH]
  generalize (X.alloc (.cells #[.string tt, .slice a1 S.kinds.length b1, .slice a2 S.members.length b2, .slice a3 S.preds.length b3, .slice a4 S.classes.length b4, .slice a5 S.sources.length b5, .slice (some ⟨gr, orr, none⟩) S.rules.length b6, .slice a7 S.excepts.length b7, .slice a8 S.totals.length b8] 31)) = X1 at *
  clear hH
  go_wp2_with fail
  refine CS.out.mono ?_
  rintro _ w1 ⟨xa, xc, rfl, hat, hb⟩
  have CN := hide (rnamedS (c := xc) hat HNL.out (by omega) hlt HNM.out)
  have P1b := hide (P1.out.below hb)
  have HF1 := hide (HF0.out.trans (.of_below hb))
  have HB1b := hide ((hb.block _ (loc_lt HB1.out)).trans HB1.out)
  clear hat hb CS c0 c1 c2 c3 c4 c5 c6 c7 c8 HF0 HB1 P1
  have c0 := cell_of_row w1 _ 0 _ _ _ HB1b.out
  have c1 := cell_of_row w1 _ 1 _ _ _ HB1b.out
  have c2 := cell_of_row w1 _ 2 _ _ _ HB1b.out
  have c3 := cell_of_row w1 _ 3 _ _ _ HB1b.out
  have c4 := cell_of_row w1 _ 4 _ _ _ HB1b.out
  have c5 := cell_of_row w1 _ 5 _ _ _ HB1b.out
  have c6 := cell_of_row w1 _ 6 _ _ _ HB1b.out
  have c7 := cell_of_row w1 _ 7 _ _ _ HB1b.out
  have c8 := cell_of_row w1 _ 8 _ _ _ HB1b.out
  simp only [List.getElem?_toArray, List.getElem?_cons_zero, List.getElem?_cons_succ] at c0 c1 c2 c3 c4 c5 c6 c7 c8
  have HNZ := hide (nz_called S.heads t.name n)
  generalize calledM S.heads t.name n = oc at *
  go_upto_region 2 with (go_at_call 32; refine CN.out.mono ?_; rintro _ w9 ⟨rfl, hw⟩; subst w9)
  generalize hec : erc oc = z at *
  cases oc with
  | error c =>
    have hec1 : c = z := hec
    subst hec1
    have hoo : Hid (.error c = o) := HO.out
    have hbc : (c == 0) = false := beq_eq_false_iff_ne.2 (HNZ.out c rfl)
    clear hec HO HNZ
    go_wp2_with fail
    go_ret
    exact Eu.bad hoo.out HF1.out
  | ok u =>
  have hec1 : 0 = z := hec
  subst hec1
  clear hec HNZ CN
  have HO1 : Hid ((findM S.srcs t.source 88 >>= fun _ => wantM (dayB t.day && (decide (t.till = 0) || dayB t.till)) 31 >>= fun _ => wantM (decide (t.till = 0) || decide (t.day < t.till)) 7 >>= fun _ => wantM (decide (1 ≤ t.arrow) && decide (t.arrow ≤ 3)) 1 >>= fun _ => wantM (decide ((t.body.length : Int) ≤ 16)) 3 >>= fun _ => partsM S.ctx t >>= fun v => wantM (!decide ((-1 : Int) ∈ v.kinds)) 86) = o) := HO.out
  clear HO
  have hgl : gr < w1.heap.size := by have := P1b.out.bel.size; omega
  have q0 := (World.cell?_of_block (P1b.out.bel.block gr hgr)).trans e0
  have q1 := (World.cell?_of_block (P1b.out.bel.block gr hgr)).trans e1
  have q2 := (World.cell?_of_block (P1b.out.bel.block gr hgr)).trans e2
  have q3 := (World.cell?_of_block (P1b.out.bel.block gr hgr)).trans e3
  have q4 := (World.cell?_of_block (P1b.out.bel.block gr hgr)).trans e4
  have q5 := (World.cell?_of_block (P1b.out.bel.block gr hgr)).trans e5
  have q6 := (World.cell?_of_block (P1b.out.bel.block gr hgr)).trans e6
  have q7 := (World.cell?_of_block (P1b.out.bel.block gr hgr)).trans e7
  have q8 := (World.cell?_of_block (P1b.out.bel.block gr hgr)).trans e8
  have q9 := (World.cell?_of_block (P1b.out.bel.block gr hgr)).trans e9
  have q10 := (World.cell?_of_block (P1b.out.bel.block gr hgr)).trans e10
  clear e0 e1 e2 e3 e4 e5 e6 e7 e8 e9 e10
  go_upto_region 5 with fail
  obtain ⟨Z2, hP2, hz2, hn2, hf2, hb2, -, -⟩ := P1b.out.box1 (.cells #[.string ⟨t.name.toArray⟩, .string ⟨t.source.toArray⟩, .int .i64 t.day, .int .i64 t.till, .slice ba t.body.length bc, .int .i64 t.arrow, .bool t.head.neg, .string ⟨t.head.pred.toArray⟩, .slice ha t.head.args.length hc, .bool t.head.hasValue, .int .i64 t.head.value] 49)
  obtain ⟨Q, hQ⟩ : ∃ Q, Q = w1.heap.size := ⟨_, rfl⟩
  rw [← hQ] at hn2 hb2 ⊢
  have P2 := hide hP2
  have HZ2 : Hid (∀ k, Z2 k → Z k) := hide fun k e => HZ1.out k (hz2 k e)
  have HNQ := hide hn2
  have HNH : Hid (¬ Z2 H) := hide fun e => HN1.out (hz2 _ e)
  have HF2 := hide (HF1.out.trans (hf2.mono fun k _ e => HZ1.out k e))
  have HBQ := hide hb2
  have HBH := hide (hf2.at HN1.out HB1b.out)
  clear hP2 hz2 hn2 hf2 hb2 c0 c1 c2 c3 c4 c5 c6 c7 c8 q0 q1 q2 q3 q4 q5 q6 q7 q8 q9 q10 HF1 HB1b P1b HN1 HZ1
  generalize w1.alloc (.cells #[.string ⟨t.name.toArray⟩, .string ⟨t.source.toArray⟩, .int .i64 t.day, .int .i64 t.till, .slice ba t.body.length bc, .int .i64 t.arrow, .bool t.head.neg, .string ⟨t.head.pred.toArray⟩, .slice ha t.head.args.length hc, .bool t.head.hasValue, .int .i64 t.head.value] 49) = w2 at *
  clear hQ
  have FS : Hid (∀ Y, Below w2.heap.size w2 Y → (fun Y : World => Y.cell? ⟨H, 0, none⟩ = some (.string tt) ∧ Y.cell? ⟨H, 1, none⟩ = some (.slice a1 S.kinds.length b1) ∧ Y.cell? ⟨H, 2, none⟩ = some (.slice a2 S.members.length b2) ∧ Y.cell? ⟨H, 3, none⟩ = some (.slice a3 S.preds.length b3) ∧ Y.cell? ⟨H, 4, none⟩ = some (.slice a4 S.classes.length b4) ∧ Y.cell? ⟨H, 5, none⟩ = some (.slice a5 S.sources.length b5) ∧ Y.cell? ⟨H, 6, none⟩ = some (.slice (some ⟨gr, orr, none⟩) S.rules.length b6) ∧ Y.cell? ⟨H, 7, none⟩ = some (.slice a7 S.excepts.length b7) ∧ Y.cell? ⟨H, 8, none⟩ = some (.slice a8 S.totals.length b8) ∧ Y.cell? ⟨Q, 0, none⟩ = some (.string ⟨t.name.toArray⟩) ∧ Y.cell? ⟨Q, 1, none⟩ = some (.string ⟨t.source.toArray⟩) ∧ Y.cell? ⟨Q, 2, none⟩ = some (.int .i64 t.day) ∧ Y.cell? ⟨Q, 3, none⟩ = some (.int .i64 t.till) ∧ Y.cell? ⟨Q, 4, none⟩ = some (.slice ba t.body.length bc) ∧ Y.cell? ⟨Q, 5, none⟩ = some (.int .i64 t.arrow) ∧ Y.cell? ⟨Q, 6, none⟩ = some (.bool t.head.neg) ∧ Y.cell? ⟨Q, 7, none⟩ = some (.string ⟨t.head.pred.toArray⟩) ∧ Y.cell? ⟨Q, 8, none⟩ = some (.slice ha t.head.args.length hc) ∧ Y.cell? ⟨Q, 9, none⟩ = some (.bool t.head.hasValue) ∧ Y.cell? ⟨Q, 10, none⟩ = some (.int .i64 t.head.value) ∧ Below w2.heap.size w2 Y) Y) := by
    refine hide fun Y hY => ?_
    have q1 := (hY.block _ (loc_lt HBH.out)).trans HBH.out
    have q2 := (hY.block _ (loc_lt HBQ.out)).trans HBQ.out
    exact ⟨cell_of_row Y _ 0 _ _ _ q1, cell_of_row Y _ 1 _ _ _ q1, cell_of_row Y _ 2 _ _ _ q1, cell_of_row Y _ 3 _ _ _ q1, cell_of_row Y _ 4 _ _ _ q1, cell_of_row Y _ 5 _ _ _ q1, cell_of_row Y _ 6 _ _ _ q1, cell_of_row Y _ 7 _ _ _ q1, cell_of_row Y _ 8 _ _ _ q1, cell_of_row Y _ 0 _ _ _ q2, cell_of_row Y _ 1 _ _ _ q2, cell_of_row Y _ 2 _ _ _ q2, cell_of_row Y _ 3 _ _ _ q2, cell_of_row Y _ 4 _ _ _ q2, cell_of_row Y _ 5 _ _ _ q2, cell_of_row Y _ 6 _ _ _ q2, cell_of_row Y _ 7 _ _ _ q2, cell_of_row Y _ 8 _ _ _ q2, cell_of_row Y _ 9 _ _ _ q2, cell_of_row Y _ 10 _ _ _ q2, hY⟩
  have CP := hide (fun Y (hY : (fun Y : World => Y.cell? ⟨H, 0, none⟩ = some (.string tt) ∧ Y.cell? ⟨H, 1, none⟩ = some (.slice a1 S.kinds.length b1) ∧ Y.cell? ⟨H, 2, none⟩ = some (.slice a2 S.members.length b2) ∧ Y.cell? ⟨H, 3, none⟩ = some (.slice a3 S.preds.length b3) ∧ Y.cell? ⟨H, 4, none⟩ = some (.slice a4 S.classes.length b4) ∧ Y.cell? ⟨H, 5, none⟩ = some (.slice a5 S.sources.length b5) ∧ Y.cell? ⟨H, 6, none⟩ = some (.slice (some ⟨gr, orr, none⟩) S.rules.length b6) ∧ Y.cell? ⟨H, 7, none⟩ = some (.slice a7 S.excepts.length b7) ∧ Y.cell? ⟨H, 8, none⟩ = some (.slice a8 S.totals.length b8) ∧ Y.cell? ⟨Q, 0, none⟩ = some (.string ⟨t.name.toArray⟩) ∧ Y.cell? ⟨Q, 1, none⟩ = some (.string ⟨t.source.toArray⟩) ∧ Y.cell? ⟨Q, 2, none⟩ = some (.int .i64 t.day) ∧ Y.cell? ⟨Q, 3, none⟩ = some (.int .i64 t.till) ∧ Y.cell? ⟨Q, 4, none⟩ = some (.slice ba t.body.length bc) ∧ Y.cell? ⟨Q, 5, none⟩ = some (.int .i64 t.arrow) ∧ Y.cell? ⟨Q, 6, none⟩ = some (.bool t.head.neg) ∧ Y.cell? ⟨Q, 7, none⟩ = some (.string ⟨t.head.pred.toArray⟩) ∧ Y.cell? ⟨Q, 8, none⟩ = some (.slice ha t.head.args.length hc) ∧ Y.cell? ⟨Q, 9, none⟩ = some (.bool t.head.hasValue) ∧ Y.cell? ⟨Q, 10, none⟩ = some (.int .i64 t.head.value) ∧ Below w2.heap.size w2 Y) Y) => rsourcesS (P2.out.below hY.2.2.2.2.2.2.2.2.2.2.2.2.2.2.2.2.2.2.2.2).sr (by omega))
  have GS : Hid (∀ Y Y', (fun Y : World => Y.cell? ⟨H, 0, none⟩ = some (.string tt) ∧ Y.cell? ⟨H, 1, none⟩ = some (.slice a1 S.kinds.length b1) ∧ Y.cell? ⟨H, 2, none⟩ = some (.slice a2 S.members.length b2) ∧ Y.cell? ⟨H, 3, none⟩ = some (.slice a3 S.preds.length b3) ∧ Y.cell? ⟨H, 4, none⟩ = some (.slice a4 S.classes.length b4) ∧ Y.cell? ⟨H, 5, none⟩ = some (.slice a5 S.sources.length b5) ∧ Y.cell? ⟨H, 6, none⟩ = some (.slice (some ⟨gr, orr, none⟩) S.rules.length b6) ∧ Y.cell? ⟨H, 7, none⟩ = some (.slice a7 S.excepts.length b7) ∧ Y.cell? ⟨H, 8, none⟩ = some (.slice a8 S.totals.length b8) ∧ Y.cell? ⟨Q, 0, none⟩ = some (.string ⟨t.name.toArray⟩) ∧ Y.cell? ⟨Q, 1, none⟩ = some (.string ⟨t.source.toArray⟩) ∧ Y.cell? ⟨Q, 2, none⟩ = some (.int .i64 t.day) ∧ Y.cell? ⟨Q, 3, none⟩ = some (.int .i64 t.till) ∧ Y.cell? ⟨Q, 4, none⟩ = some (.slice ba t.body.length bc) ∧ Y.cell? ⟨Q, 5, none⟩ = some (.int .i64 t.arrow) ∧ Y.cell? ⟨Q, 6, none⟩ = some (.bool t.head.neg) ∧ Y.cell? ⟨Q, 7, none⟩ = some (.string ⟨t.head.pred.toArray⟩) ∧ Y.cell? ⟨Q, 8, none⟩ = some (.slice ha t.head.args.length hc) ∧ Y.cell? ⟨Q, 9, none⟩ = some (.bool t.head.hasValue) ∧ Y.cell? ⟨Q, 10, none⟩ = some (.int .i64 t.head.value) ∧ Below w2.heap.size w2 Y) Y → Below Y.heap.size Y Y' → (fun Y : World => Y.cell? ⟨H, 0, none⟩ = some (.string tt) ∧ Y.cell? ⟨H, 1, none⟩ = some (.slice a1 S.kinds.length b1) ∧ Y.cell? ⟨H, 2, none⟩ = some (.slice a2 S.members.length b2) ∧ Y.cell? ⟨H, 3, none⟩ = some (.slice a3 S.preds.length b3) ∧ Y.cell? ⟨H, 4, none⟩ = some (.slice a4 S.classes.length b4) ∧ Y.cell? ⟨H, 5, none⟩ = some (.slice a5 S.sources.length b5) ∧ Y.cell? ⟨H, 6, none⟩ = some (.slice (some ⟨gr, orr, none⟩) S.rules.length b6) ∧ Y.cell? ⟨H, 7, none⟩ = some (.slice a7 S.excepts.length b7) ∧ Y.cell? ⟨H, 8, none⟩ = some (.slice a8 S.totals.length b8) ∧ Y.cell? ⟨Q, 0, none⟩ = some (.string ⟨t.name.toArray⟩) ∧ Y.cell? ⟨Q, 1, none⟩ = some (.string ⟨t.source.toArray⟩) ∧ Y.cell? ⟨Q, 2, none⟩ = some (.int .i64 t.day) ∧ Y.cell? ⟨Q, 3, none⟩ = some (.int .i64 t.till) ∧ Y.cell? ⟨Q, 4, none⟩ = some (.slice ba t.body.length bc) ∧ Y.cell? ⟨Q, 5, none⟩ = some (.int .i64 t.arrow) ∧ Y.cell? ⟨Q, 6, none⟩ = some (.bool t.head.neg) ∧ Y.cell? ⟨Q, 7, none⟩ = some (.string ⟨t.head.pred.toArray⟩) ∧ Y.cell? ⟨Q, 8, none⟩ = some (.slice ha t.head.args.length hc) ∧ Y.cell? ⟨Q, 9, none⟩ = some (.bool t.head.hasValue) ∧ Y.cell? ⟨Q, 10, none⟩ = some (.int .i64 t.head.value) ∧ Below w2.heap.size w2 Y) Y') := hide fun Y Y' hY hb => FS.out Y' (hY.2.2.2.2.2.2.2.2.2.2.2.2.2.2.2.2.2.2.2.2.trans (hb.mono hY.2.2.2.2.2.2.2.2.2.2.2.2.2.2.2.2.2.2.2.2.size))
  unfold St9.agg at CP
  simp only at CP
  go_region_held3 (fun Y : World => Y.cell? ⟨H, 0, none⟩ = some (.string tt) ∧ Y.cell? ⟨H, 1, none⟩ = some (.slice a1 S.kinds.length b1) ∧ Y.cell? ⟨H, 2, none⟩ = some (.slice a2 S.members.length b2) ∧ Y.cell? ⟨H, 3, none⟩ = some (.slice a3 S.preds.length b3) ∧ Y.cell? ⟨H, 4, none⟩ = some (.slice a4 S.classes.length b4) ∧ Y.cell? ⟨H, 5, none⟩ = some (.slice a5 S.sources.length b5) ∧ Y.cell? ⟨H, 6, none⟩ = some (.slice (some ⟨gr, orr, none⟩) S.rules.length b6) ∧ Y.cell? ⟨H, 7, none⟩ = some (.slice a7 S.excepts.length b7) ∧ Y.cell? ⟨H, 8, none⟩ = some (.slice a8 S.totals.length b8) ∧ Y.cell? ⟨Q, 0, none⟩ = some (.string ⟨t.name.toArray⟩) ∧ Y.cell? ⟨Q, 1, none⟩ = some (.string ⟨t.source.toArray⟩) ∧ Y.cell? ⟨Q, 2, none⟩ = some (.int .i64 t.day) ∧ Y.cell? ⟨Q, 3, none⟩ = some (.int .i64 t.till) ∧ Y.cell? ⟨Q, 4, none⟩ = some (.slice ba t.body.length bc) ∧ Y.cell? ⟨Q, 5, none⟩ = some (.int .i64 t.arrow) ∧ Y.cell? ⟨Q, 6, none⟩ = some (.bool t.head.neg) ∧ Y.cell? ⟨Q, 7, none⟩ = some (.string ⟨t.head.pred.toArray⟩) ∧ Y.cell? ⟨Q, 8, none⟩ = some (.slice ha t.head.args.length hc) ∧ Y.cell? ⟨Q, 9, none⟩ = some (.bool t.head.hasValue) ∧ Y.cell? ⟨Q, 10, none⟩ = some (.int .i64 t.head.value) ∧ Below w2.heap.size w2 Y) (first | assumption | exact FS.out _ (below_drew w2) | exact GS.out _ _ ‹_› ‹_›) (first | (go_at_call 37; refine (CP.out _ ‹_›).mono ?_; rintro e wa ⟨xa, xc, rfl, hat, hba⟩) | (go_at_call 34; refine (rfindS hat HSL.out (by omega) t.source).mono ?_; rintro e wx ⟨rfl, hw⟩; subst wx))
  have hbw := (below_drew w2).trans hba
  have P3 := hide (P2.out.below hbw)
  have HF3 := hide (HF2.out.trans (.of_below hbw))
  have HX3 : Hid (Fr Z2 w2 wa) := hide (.of_below hbw)
  have HS1 := hide (FS.out _ hbw)
  clear hat hba hbw CP GS FS
  by_cases hm : t.source ∈ S.srcs
  case neg =>
    rw [findZ_out hm]
    have hoo : Hid (.error 88 = o) := by
      have := HO1.out
      rw [findM_no hm] at this
      exact this
    go_wp2_with fail
    go_ret
    exact Eu.bad hoo.out HF3.out
  rw [findZ_in hm]
  have HO2 : Hid ((wantM (dayB t.day && (decide (t.till = 0) || dayB t.till)) 31 >>= fun _ => wantM (decide (t.till = 0) || decide (t.day < t.till)) 7 >>= fun _ => wantM (decide (1 ≤ t.arrow) && decide (t.arrow ≤ 3)) 1 >>= fun _ => wantM (decide ((t.body.length : Int) ≤ 16)) 3 >>= fun _ => partsM S.ctx t >>= fun v => wantM (!decide ((-1 : Int) ∈ v.kinds)) 86) = o) := by
    have := HO1.out
    rw [findM_yes hm] at this
    exact this
  clear HO1 hm
  generalize posB S.srcs t.source = ip at *
  obtain ⟨c0, c1, c2, c3, c4, c5, c6, c7, c8, d0, d1, d2, d3, d4, d5, d6, d7, d8, d9, d10, -⟩ := HS1.out
  have CD1 := hide (rday_any t.day wa)
  have CD2 := hide (rday_any t.till wa)
  cases hd1 : dayB t.day with
  | false =>
    rw [hd1] at CD1
    have hoo : Hid (.error 31 = o) := by
      have := HO2.out
      rw [want_f (by rw [hd1]; rfl)] at this
      exact this
    go_wp2_with (go_at_call 83; refine CD1.out.mono ?_; rintro _ w9 ⟨rfl, hw⟩; subst w9)
    go_ret
    exact Eu.bad hoo.out HF3.out
  | true =>
  rw [hd1] at CD1
  have rest : (dayB t.day && (decide (t.till = 0) || dayB t.till)) = true → (decide (t.till = 0) || decide (t.day < t.till)) = true → Hid ((wantM (decide (1 ≤ t.arrow) && decide (t.arrow ≤ 3)) 1 >>= fun _ => wantM (decide ((t.body.length : Int) ≤ 16)) 3 >>= fun _ => partsM S.ctx t >>= fun v => wantM (!decide ((-1 : Int) ∈ v.kinds)) 86) = o) := by
    intro r1 r2
    have := HO2.out
    rw [want_t r1] at this
    change (wantM (decide (t.till = 0) || decide (t.day < t.till)) 7 >>= _) = o at this
    rw [want_t r2] at this
    exact this
  by_cases ht0 : t.till = 0
  · have HR := rest (by rw [hd1, decide_eq_true ht0]; rfl) (by rw [decide_eq_true ht0]; rfl)
    rw [ht0] at d3
    clear rest HO2 CD2
    go_upto_region 11 with (go_at_call 83; refine CD1.out.mono ?_; rintro _ w9 ⟨rfl, hw⟩; subst w9)
    rw [← ht0] at d3
    clear ht0 CD1
    by_cases ha1 : 1 ≤ t.arrow
    case neg =>
      have hoo : Hid (.error 1 = o) := by
        have := HR.out
        rw [want_f (by rw [decide_eq_false ha1]; rfl)] at this
        exact this
      have hx1 : t.arrow < 1 := by omega
      go_wp2_with fail
      go_ret
      exact Eu.bad hoo.out HF3.out
    have hx1 : ¬ t.arrow < 1 := by omega
    by_cases ha3 : t.arrow ≤ 3
    case neg =>
      have hoo : Hid (.error 1 = o) := by
        have := HR.out
        rw [want_f (by rw [decide_eq_false ha3, Bool.and_false])] at this
        exact this
      have hx3 : 3 < t.arrow := by omega
      go_wp2_with fail
      go_ret
      exact Eu.bad hoo.out HF3.out
    have hx3 : ¬ 3 < t.arrow := by omega
    have HR2 : Hid ((wantM (decide ((t.body.length : Int) ≤ 16)) 3 >>= fun _ => partsM S.ctx t >>= fun v => wantM (!decide ((-1 : Int) ∈ v.kinds)) 86) = o) := by
      have := HR.out
      rw [want_t (by rw [decide_eq_true ha1, decide_eq_true ha3]; rfl)] at this
      exact this
    by_cases hb16 : (t.body.length : Int) ≤ 16
    case neg =>
      have hoo : Hid (.error 3 = o) := by
        have := HR2.out
        rw [want_f (decide_eq_false hb16)] at this
        exact this
      have hxb : (16 : Int) < (t.body.length : Int) := by omega
      go_wp2_with fail
      go_ret
      exact Eu.bad hoo.out HF3.out
    have hxb : ¬ (16 : Int) < (t.body.length : Int) := by omega
    have HR3 : Hid ((partsM S.ctx t >>= fun v => wantM (!decide ((-1 : Int) ∈ v.kinds)) 86) = o) := by
      have := HR2.out
      rw [want_t (decide_eq_true hb16)] at this
      exact this
    obtain ⟨op, hop⟩ : ∃ op, partsM S.ctx t = op := ⟨_, rfl⟩
    have HPT := hide hop
    rw [hop] at HR3
    have HQ0 : Hid ((bodyM S.ctx [] t.body >>= fun v => literalS S.ctx v t.head) = op) := hide ((parts_S S.ctx t).trans hop)
    have hb16' : t.body.length ≤ 16 := by omega
    clear HR HR2 ha1 ha3 hb16 hop
    go_wp2_with fail
    clear hx1 hx3 hxb c0 c1 c2 c3 c4 c5 c6 c7 c8 d0 d1 d2 d3 d4 d5 d6 d7 d8 d9 d10
    go_loopw [9] (fun x wr => ∃ (i : Nat) (v' : Scope), i ≤ t.body.length ∧ x = .int .i64 i ∧ Hid (Fr Z2 w2 wr) ∧ Hid (Pk W0 S ⟨.string tt, .slice a1 S.kinds.length b1, .slice a2 S.members.length b2, .slice a3 S.preds.length b3, .slice a4 S.classes.length b4, .slice a5 S.sources.length b5, .slice (some ⟨gr, orr, none⟩) S.rules.length b6, .slice a7 S.excepts.length b7, .slice a8 S.totals.length b8⟩ Z2 V (64 * i) v' wr) ∧ Hid ((bodyM S.ctx v' (t.body.drop i) >>= fun v => literalS S.ctx v t.head) = op)) (fun x _ => t.body.length - (intOf x).toNat)
    case atStart => exact ⟨0, [], by omega, rfl, HX3, P3, hide (by simpa using HQ0.out)⟩
    case round =>
      obtain ⟨i, v', hi, rfl, HF, HP, HQ⟩ := hrel
      clear HQ0 HX3 P3
      have hbxQ := HF.out.at HNQ.out HBQ.out
      have hbxH := HF.out.at HNH.out HBH.out
      by_cases hil : i < t.body.length
      · obtain ⟨p, hp0⟩ : ∃ p, t.body[i]? = some p := ⟨_, List.getElem?_eq_getElem hil⟩
        obtain ⟨gb, ob, ka, kc, la, lc, ra, rc, rfl, hgb, f0, f1, f2, f3, f4, f5, f6, f7, f8, f9, f10, -, -, -, hpk, hpl, hpr⟩ := at_Prem HBD.out hp0
        have CA := hide (rprem_any (HP.out.below (below_drew wr)) (by omega) HOK.out p hpk hpl hpr)
        have HNZ := hide (show Nz (premS S.ctx v' p) from by rw [← premS_eq]; exact nz_prem _ _ _)
        have hq := HQ.out
        rw [drop_c hp0] at hq
        unfold bodyM at hq
        rw [premS_eq] at hq
        have HQ2 := hide hq
        have FS : Hid (∀ Y, Fr Z2 w2 Y → (fun Y : World => Y.cell? ⟨H, 0, none⟩ = some (.string tt) ∧ Y.cell? ⟨H, 1, none⟩ = some (.slice a1 S.kinds.length b1) ∧ Y.cell? ⟨H, 2, none⟩ = some (.slice a2 S.members.length b2) ∧ Y.cell? ⟨H, 3, none⟩ = some (.slice a3 S.preds.length b3) ∧ Y.cell? ⟨H, 4, none⟩ = some (.slice a4 S.classes.length b4) ∧ Y.cell? ⟨H, 5, none⟩ = some (.slice a5 S.sources.length b5) ∧ Y.cell? ⟨H, 6, none⟩ = some (.slice (some ⟨gr, orr, none⟩) S.rules.length b6) ∧ Y.cell? ⟨H, 7, none⟩ = some (.slice a7 S.excepts.length b7) ∧ Y.cell? ⟨H, 8, none⟩ = some (.slice a8 S.totals.length b8) ∧ Y.cell? ⟨Q, 0, none⟩ = some (.string ⟨t.name.toArray⟩) ∧ Y.cell? ⟨Q, 1, none⟩ = some (.string ⟨t.source.toArray⟩) ∧ Y.cell? ⟨Q, 2, none⟩ = some (.int .i64 t.day) ∧ Y.cell? ⟨Q, 3, none⟩ = some (.int .i64 t.till) ∧ Y.cell? ⟨Q, 4, none⟩ = some (.slice (some ⟨gb, ob, none⟩) t.body.length bc) ∧ Y.cell? ⟨Q, 5, none⟩ = some (.int .i64 t.arrow) ∧ Y.cell? ⟨Q, 6, none⟩ = some (.bool t.head.neg) ∧ Y.cell? ⟨Q, 7, none⟩ = some (.string ⟨t.head.pred.toArray⟩) ∧ Y.cell? ⟨Q, 8, none⟩ = some (.slice ha t.head.args.length hc) ∧ Y.cell? ⟨Q, 9, none⟩ = some (.bool t.head.hasValue) ∧ Y.cell? ⟨Q, 10, none⟩ = some (.int .i64 t.head.value) ∧ Y.cell? ⟨gb, ob + i * 11, none⟩ = some (.int .i64 p.kind) ∧ Y.cell? ⟨gb, ob + i * 11 + 1, none⟩ = some (.bool p.lit.neg) ∧ Y.cell? ⟨gb, ob + i * 11 + 2, none⟩ = some (.string ⟨p.lit.pred.toArray⟩) ∧ Y.cell? ⟨gb, ob + i * 11 + 3, none⟩ = some (.slice ka p.lit.args.length kc) ∧ Y.cell? ⟨gb, ob + i * 11 + 4, none⟩ = some (.bool p.lit.hasValue) ∧ Y.cell? ⟨gb, ob + i * 11 + 5, none⟩ = some (.int .i64 p.lit.value) ∧ Y.cell? ⟨gb, ob + i * 11 + 6, none⟩ = some (.slice la p.guard.left.length lc) ∧ Y.cell? ⟨gb, ob + i * 11 + 7, none⟩ = some (.int .i64 p.guard.op) ∧ Y.cell? ⟨gb, ob + i * 11 + 8, none⟩ = some (.slice ra p.guard.right.length rc) ∧ Y.cell? ⟨gb, ob + i * 11 + 9, none⟩ = some (.string ⟨p.a.toArray⟩) ∧ Y.cell? ⟨gb, ob + i * 11 + 10, none⟩ = some (.string ⟨p.b.toArray⟩) ∧ Fr Z2 w2 Y) Y) := by
          refine hide fun Y hY => ?_
          have q1 := hY.at HNH.out HBH.out
          have q2 := hY.at HNQ.out HBQ.out
          have q3 := P2.out.strs hY
          exact ⟨cell_of_row Y _ 0 _ _ _ q1, cell_of_row Y _ 1 _ _ _ q1, cell_of_row Y _ 2 _ _ _ q1, cell_of_row Y _ 3 _ _ _ q1, cell_of_row Y _ 4 _ _ _ q1, cell_of_row Y _ 5 _ _ _ q1, cell_of_row Y _ 6 _ _ _ q1, cell_of_row Y _ 7 _ _ _ q1, cell_of_row Y _ 8 _ _ _ q1, cell_of_row Y _ 0 _ _ _ q2, cell_of_row Y _ 1 _ _ _ q2, cell_of_row Y _ 2 _ _ _ q2, cell_of_row Y _ 3 _ _ _ q2, cell_of_row Y _ 4 _ _ _ q2, cell_of_row Y _ 5 _ _ _ q2, cell_of_row Y _ 6 _ _ _ q2, cell_of_row Y _ 7 _ _ _ q2, cell_of_row Y _ 8 _ _ _ q2, cell_of_row Y _ 9 _ _ _ q2, cell_of_row Y _ 10 _ _ _ q2, (World.cell?_of_block (q3 gb hgb)).trans f0, (World.cell?_of_block (q3 gb hgb)).trans f1, (World.cell?_of_block (q3 gb hgb)).trans f2, (World.cell?_of_block (q3 gb hgb)).trans f3, (World.cell?_of_block (q3 gb hgb)).trans f4, (World.cell?_of_block (q3 gb hgb)).trans f5, (World.cell?_of_block (q3 gb hgb)).trans f6, (World.cell?_of_block (q3 gb hgb)).trans f7, (World.cell?_of_block (q3 gb hgb)).trans f8, (World.cell?_of_block (q3 gb hgb)).trans f9, (World.cell?_of_block (q3 gb hgb)).trans f10, hY⟩
        have d4 := cell_of_row wr _ 4 _ _ _ hbxQ
        simp only [List.getElem?_toArray, List.getElem?_cons_zero, List.getElem?_cons_succ] at d4
        unfold St9.agg at CA
        simp only at CA
        generalize premS S.ctx v' p = o1 at *
        clear hq HQ hp0 hgb f0 f1 f2 f3 f4 f5 f6 f7 f8 f9 f10 hpk hpl hpr hbxQ hbxH
        go_upto_region 18 with fail
        go_region_held3 (fun Y : World => Y.cell? ⟨H, 0, none⟩ = some (.string tt) ∧ Y.cell? ⟨H, 1, none⟩ = some (.slice a1 S.kinds.length b1) ∧ Y.cell? ⟨H, 2, none⟩ = some (.slice a2 S.members.length b2) ∧ Y.cell? ⟨H, 3, none⟩ = some (.slice a3 S.preds.length b3) ∧ Y.cell? ⟨H, 4, none⟩ = some (.slice a4 S.classes.length b4) ∧ Y.cell? ⟨H, 5, none⟩ = some (.slice a5 S.sources.length b5) ∧ Y.cell? ⟨H, 6, none⟩ = some (.slice (some ⟨gr, orr, none⟩) S.rules.length b6) ∧ Y.cell? ⟨H, 7, none⟩ = some (.slice a7 S.excepts.length b7) ∧ Y.cell? ⟨H, 8, none⟩ = some (.slice a8 S.totals.length b8) ∧ Y.cell? ⟨Q, 0, none⟩ = some (.string ⟨t.name.toArray⟩) ∧ Y.cell? ⟨Q, 1, none⟩ = some (.string ⟨t.source.toArray⟩) ∧ Y.cell? ⟨Q, 2, none⟩ = some (.int .i64 t.day) ∧ Y.cell? ⟨Q, 3, none⟩ = some (.int .i64 t.till) ∧ Y.cell? ⟨Q, 4, none⟩ = some (.slice (some ⟨gb, ob, none⟩) t.body.length bc) ∧ Y.cell? ⟨Q, 5, none⟩ = some (.int .i64 t.arrow) ∧ Y.cell? ⟨Q, 6, none⟩ = some (.bool t.head.neg) ∧ Y.cell? ⟨Q, 7, none⟩ = some (.string ⟨t.head.pred.toArray⟩) ∧ Y.cell? ⟨Q, 8, none⟩ = some (.slice ha t.head.args.length hc) ∧ Y.cell? ⟨Q, 9, none⟩ = some (.bool t.head.hasValue) ∧ Y.cell? ⟨Q, 10, none⟩ = some (.int .i64 t.head.value) ∧ Y.cell? ⟨gb, ob + i * 11, none⟩ = some (.int .i64 p.kind) ∧ Y.cell? ⟨gb, ob + i * 11 + 1, none⟩ = some (.bool p.lit.neg) ∧ Y.cell? ⟨gb, ob + i * 11 + 2, none⟩ = some (.string ⟨p.lit.pred.toArray⟩) ∧ Y.cell? ⟨gb, ob + i * 11 + 3, none⟩ = some (.slice ka p.lit.args.length kc) ∧ Y.cell? ⟨gb, ob + i * 11 + 4, none⟩ = some (.bool p.lit.hasValue) ∧ Y.cell? ⟨gb, ob + i * 11 + 5, none⟩ = some (.int .i64 p.lit.value) ∧ Y.cell? ⟨gb, ob + i * 11 + 6, none⟩ = some (.slice la p.guard.left.length lc) ∧ Y.cell? ⟨gb, ob + i * 11 + 7, none⟩ = some (.int .i64 p.guard.op) ∧ Y.cell? ⟨gb, ob + i * 11 + 8, none⟩ = some (.slice ra p.guard.right.length rc) ∧ Y.cell? ⟨gb, ob + i * 11 + 9, none⟩ = some (.string ⟨p.a.toArray⟩) ∧ Y.cell? ⟨gb, ob + i * 11 + 10, none⟩ = some (.string ⟨p.b.toArray⟩) ∧ Fr Z2 w2 Y) (first | assumption | exact FS.out _ (Fr.trans HF.out (.of_below (below_drew wr))) | exact FS.out _ ‹_›) (first | (go_at_call 84; refine CA.out.mono ?_; rintro e wb ⟨rfl, hfa, hpa⟩; have hfb := Fr.trans (Fr.trans HF.out (.of_below (below_drew wr))) hfa))
        generalize hec : erc o1 = z at *
        cases o1 with
        | error c =>
          have hec1 : c = z := hec
          subst hec1
          have hoo : Hid (.error c = o) := by
            have h1 : .error c = op := HQ2.out
            have h2 := HR3.out
            rw [← h1] at h2
            exact h2
          have hbc : (c == 0) = false := beq_eq_false_iff_ne.2 (HNZ.out c rfl)
          clear hec HQ2 HNZ hpa d4 FS CA
          go_wp2_with fail
          go_ret
          exact Eu.bad hoo.out (HF2.out.trans (hfb.mono fun k _ e => HZ2.out k e))
        | ok v2 =>
          have hec1 : 0 = z := hec
          subst hec1
          have HPA := hide ((hpa v2 rfl).grow (show _ ≤ 64 * (i + 1) by omega))
          have HQ3 : Hid ((bodyM S.ctx v2 (t.body.drop (i + 1)) >>= fun v => literalS S.ctx v t.head) = op) := HQ2.out
          have HFB := hide hfb
          clear hec hpa hfb hfa HQ2 HNZ d4 FS CA
          go_wp2_with fail
          go_roundw
          case rel => exact ⟨i + 1, v2, by omega, by go_num, HFB, HPA, HQ3⟩
          case measure => simp [intOf]; omega
      · have hi' : i = t.body.length := by omega
        have HQ2 : Hid (literalS S.ctx v' t.head = op) := by
          have := HQ.out
          rw [hi', List.drop_length] at this
          exact this
        have hil' : ¬ (i : Int) < (t.body.length : Int) := by omega
        have CA := hide (rlit_any HP.out (by omega) HOK.out t.head HHD.out)
        have HNZ := hide (show Nz (literalS S.ctx v' t.head) from by rw [← literalS_eq]; exact Nz.bind (nz_literal _ _ _) fun _ => Nz.ok _)
        rw [HQ2.out] at CA HNZ
        unfold St9.agg at CA
        simp only at CA
        have c0 := cell_of_row wr _ 0 _ _ _ hbxH
        have c1 := cell_of_row wr _ 1 _ _ _ hbxH
        have c2 := cell_of_row wr _ 2 _ _ _ hbxH
        have c3 := cell_of_row wr _ 3 _ _ _ hbxH
        have c4 := cell_of_row wr _ 4 _ _ _ hbxH
        have c5 := cell_of_row wr _ 5 _ _ _ hbxH
        have c6 := cell_of_row wr _ 6 _ _ _ hbxH
        have c7 := cell_of_row wr _ 7 _ _ _ hbxH
        have c8 := cell_of_row wr _ 8 _ _ _ hbxH
        have d0 := cell_of_row wr _ 0 _ _ _ hbxQ
        have d1 := cell_of_row wr _ 1 _ _ _ hbxQ
        have d2 := cell_of_row wr _ 2 _ _ _ hbxQ
        have d3 := cell_of_row wr _ 3 _ _ _ hbxQ
        have d4 := cell_of_row wr _ 4 _ _ _ hbxQ
        have d5 := cell_of_row wr _ 5 _ _ _ hbxQ
        have d6 := cell_of_row wr _ 6 _ _ _ hbxQ
        have d7 := cell_of_row wr _ 7 _ _ _ hbxQ
        have d8 := cell_of_row wr _ 8 _ _ _ hbxQ
        have d9 := cell_of_row wr _ 9 _ _ _ hbxQ
        have d10 := cell_of_row wr _ 10 _ _ _ hbxQ
        simp only [List.getElem?_toArray, List.getElem?_cons_zero, List.getElem?_cons_succ] at c0 c1 c2 c3 c4 c5 c6 c7 c8 d0 d1 d2 d3 d4 d5 d6 d7 d8 d9 d10
        clear hi' HQ HQ2 hbxQ hbxH
        go_upto_region 22 with (go_at_call 85; refine CA.out.mono ?_; rintro e w5 ⟨rfl, hf5, hp5⟩)
        generalize hec : erc op = z at *
        have HF5 := hide (HF2.out.trans ((HF.out.trans hf5).mono fun k _ e => HZ2.out k e))
        clear hf5 CA c0 c1 c2 c3 c4 c5 c6 c7 c8 d0 d1 d2 d3 d4 d5 d6 d7 d8 d9 d10
        cases op with
        | error c =>
          have hec1 : c = z := hec
          subst hec1
          have hoo : Hid (.error c = o) := HR3.out
          have hbc : (c == 0) = false := beq_eq_false_iff_ne.2 (HNZ.out c rfl)
          clear hec HNZ hp5 HR3
          go_wp2_with fail
          go_ret
          exact Eu.bad hoo.out HF5.out
        | ok v2 =>
          have hec1 : 0 = z := hec
          subst hec1
          have P5 := hide ((H9.out.up (hp5 v2 rfl) HZ2.out).grow (show _ ≤ 2048 by omega))
          have HR4 : Hid (wantM (!decide ((-1 : Int) ∈ v2.kinds)) 86 = o) := HR3.out
          obtain ⟨nv, kv, lv, N, Ks, L, hBp, hSim, hNB, hLB⟩ := P5.out.bk
          obtain ⟨na, nc, rfl⟩ := owns_slice hBp.rowN
          obtain ⟨la, lc, rfl⟩ := owns_slice hBp.rowL
          have HBp := hide hBp
          have HFree := hide hSim.free
          clear hec HNZ hp5 HR3 hBp hSim
          go_wp2_with fail
          go_loopw [10] (fun x wz => ∃ (j : Nat), j ≤ L.length ∧ x = .int .i64 j ∧ Hid (Lk w5 wz) ∧ Hid (∀ y ∈ L.take j, y ∈ N)) (fun x _ => L.length - (intOf x).toNat)
          case atStart => exact ⟨0, by omega, rfl, hide .of, hide (by simp)⟩
          case round =>
            obtain ⟨j, hj, rfl, HLK, HAL⟩ := hrel
            have HB5 := hide (HBp.out.below HLK.out.below)
            obtain ⟨p0, -, p2⟩ := HB5.out.cells
            by_cases hjl : j < L.length
            · obtain ⟨y, hy0⟩ : ∃ y, L[j]? = some y := ⟨_, List.getElem?_eq_getElem hjl⟩
              have hyd : L.getD j [] = y := by rw [List.getD_eq_getElem?_getD, hy0]; rfl
              obtain ⟨g1, o1, rfl, yc⟩ := (owns_at1 HB5.out.rowL).str hjl
              rw [hyd] at yc
              have CF := hide (fun q => rfindS (w := wr.drewN q) (c := nc) ((Lk.refl.drewN q).at1 (owns_at1 HB5.out.rowN)) rfl (by omega) y)
              by_cases hyn : y ∈ N
              · rw [findZ_in hyn] at CF
                have HAL2 : Hid (∀ y ∈ L.take (j + 1), y ∈ N) := by
                  refine hide fun u hu => ?_
                  rw [take_snoc hy0] at hu
                  rcases List.mem_append.1 hu with h1 | h1
                  · exact HAL.out u h1
                  · simp at h1; rw [h1]; exact hyn
                clear hy0 hyd hyn
                generalize posB N y = py at *
                go_upto_region 27 with fail
                go_quiet ((go_at_call 34; exact Calls.quiet_of_same (CF.out _)))
                rename Nat => nq2
                go_wp2_with fail
                go_roundw
                case rel => exact ⟨j + 1, by omega, by go_num, hide (HLK.out.drewN nq2), HAL2⟩
                case measure => simp [intOf]; omega
              · rw [findZ_out hyn] at CF
                have hoo : Hid (.error 86 = o) := by
                  have h1 := HFree.out.2 ⟨y, List.mem_of_getElem? hy0, hyn⟩
                  have := HR4.out
                  rw [want_f (by rw [decide_eq_true h1]; rfl)] at this
                  exact this
                clear hy0 hyd hyn
                go_upto_region 27 with fail
                go_quiet ((go_at_call 34; exact Calls.quiet_of_same (CF.out _)))
                rename Nat => nq2
                go_wp2_with fail
                go_ret
                exact Eu.bad hoo.out (HF5.out.trans (.of_below (HLK.out.drewN nq2).below))
            · have hj' : j = L.length := by omega
              have hoo : Hid (.ok () = o) := by
                have h1 : ¬ (-1 : Int) ∈ v2.kinds := by
                  intro hh
                  obtain ⟨y, hy, hn⟩ := HFree.out.1 hh
                  have h2 := HAL.out
                  rw [hj', List.take_length] at h2
                  exact hn (h2 y hy)
                have := HR4.out
                rw [want_t (by rw [decide_eq_false h1]; rfl)] at this
                exact this
              have hjl' : ¬ (j : Int) < (L.length : Int) := by omega
              clear hj'
              go_wp2_with fail
              go_ret
              have HPZ := P5.out.below HLK.out.below
              have h8 := hoo.out
              exact ⟨by rw [← h8]; rfl, HF5.out.trans (.of_below HLK.out.below), fun _ => ⟨v2, HPT.out, HPZ⟩⟩
  have ht0b : (t.till == 0) = false := beq_eq_false_iff_ne.2 ht0
  cases hd2 : dayB t.till with
  | false =>
    rw [hd2] at CD2
    have hoo : Hid (.error 31 = o) := by
      have := HO2.out
      rw [want_f (by rw [hd1, hd2, decide_eq_false ht0]; rfl)] at this
      exact this
    go_upto_region 8 with (first | (go_at_call 83; refine CD1.out.mono ?_; rintro _ w9 ⟨rfl, hw⟩; subst w9) | (go_at_call 83; refine CD2.out.mono ?_; rintro _ w9 ⟨rfl, hw⟩; subst w9))
    go_wp2_with fail
    go_ret
    exact Eu.bad hoo.out HF3.out
  | true =>
  rw [hd2] at CD2
  by_cases hdt : t.day < t.till
  case neg =>
    have hoo : Hid (.error 7 = o) := by
      have := HO2.out
      rw [want_t (by rw [hd1, hd2]; simp)] at this
      change (wantM (decide (t.till = 0) || decide (t.day < t.till)) 7 >>= _) = o at this
      rw [want_f (by rw [decide_eq_false ht0, decide_eq_false hdt]; rfl)] at this
      exact this
    have hle : t.till ≤ t.day := by omega
    go_wp2_with (first | (go_at_call 83; refine CD1.out.mono ?_; rintro _ w9 ⟨rfl, hw⟩; subst w9) | (go_at_call 83; refine CD2.out.mono ?_; rintro _ w9 ⟨rfl, hw⟩; subst w9))
    go_ret
    exact Eu.bad hoo.out HF3.out
  have HR := rest (by rw [hd1, hd2]; simp) (by rw [decide_eq_true hdt]; simp)
  have hle : ¬ t.till ≤ t.day := by omega
  clear rest HO2
  go_upto_region 11 with (first | (go_at_call 83; refine CD1.out.mono ?_; rintro _ w9 ⟨rfl, hw⟩; subst w9) | (go_at_call 83; refine CD2.out.mono ?_; rintro _ w9 ⟨rfl, hw⟩; subst w9))
  clear ht0b ht0 hdt hle CD1 CD2
  by_cases ha1 : 1 ≤ t.arrow
  case neg =>
    have hoo : Hid (.error 1 = o) := by
      have := HR.out
      rw [want_f (by rw [decide_eq_false ha1]; rfl)] at this
      exact this
    have hx1 : t.arrow < 1 := by omega
    go_wp2_with fail
    go_ret
    exact Eu.bad hoo.out HF3.out
  have hx1 : ¬ t.arrow < 1 := by omega
  by_cases ha3 : t.arrow ≤ 3
  case neg =>
    have hoo : Hid (.error 1 = o) := by
      have := HR.out
      rw [want_f (by rw [decide_eq_false ha3, Bool.and_false])] at this
      exact this
    have hx3 : 3 < t.arrow := by omega
    go_wp2_with fail
    go_ret
    exact Eu.bad hoo.out HF3.out
  have hx3 : ¬ 3 < t.arrow := by omega
  have HR2 : Hid ((wantM (decide ((t.body.length : Int) ≤ 16)) 3 >>= fun _ => partsM S.ctx t >>= fun v => wantM (!decide ((-1 : Int) ∈ v.kinds)) 86) = o) := by
    have := HR.out
    rw [want_t (by rw [decide_eq_true ha1, decide_eq_true ha3]; rfl)] at this
    exact this
  by_cases hb16 : (t.body.length : Int) ≤ 16
  case neg =>
    have hoo : Hid (.error 3 = o) := by
      have := HR2.out
      rw [want_f (decide_eq_false hb16)] at this
      exact this
    have hxb : (16 : Int) < (t.body.length : Int) := by omega
    go_wp2_with fail
    go_ret
    exact Eu.bad hoo.out HF3.out
  have hxb : ¬ (16 : Int) < (t.body.length : Int) := by omega
  have HR3 : Hid ((partsM S.ctx t >>= fun v => wantM (!decide ((-1 : Int) ∈ v.kinds)) 86) = o) := by
    have := HR2.out
    rw [want_t (decide_eq_true hb16)] at this
    exact this
  obtain ⟨op, hop⟩ : ∃ op, partsM S.ctx t = op := ⟨_, rfl⟩
  have HPT := hide hop
  rw [hop] at HR3
  have HQ0 : Hid ((bodyM S.ctx [] t.body >>= fun v => literalS S.ctx v t.head) = op) := hide ((parts_S S.ctx t).trans hop)
  have hb16' : t.body.length ≤ 16 := by omega
  clear HR HR2 ha1 ha3 hb16 hop
  go_wp2_with fail
  clear hx1 hx3 hxb c0 c1 c2 c3 c4 c5 c6 c7 c8 d0 d1 d2 d3 d4 d5 d6 d7 d8 d9 d10
  go_loopw [9] (fun x wr => ∃ (i : Nat) (v' : Scope), i ≤ t.body.length ∧ x = .int .i64 i ∧ Hid (Fr Z2 w2 wr) ∧ Hid (Pk W0 S ⟨.string tt, .slice a1 S.kinds.length b1, .slice a2 S.members.length b2, .slice a3 S.preds.length b3, .slice a4 S.classes.length b4, .slice a5 S.sources.length b5, .slice (some ⟨gr, orr, none⟩) S.rules.length b6, .slice a7 S.excepts.length b7, .slice a8 S.totals.length b8⟩ Z2 V (64 * i) v' wr) ∧ Hid ((bodyM S.ctx v' (t.body.drop i) >>= fun v => literalS S.ctx v t.head) = op)) (fun x _ => t.body.length - (intOf x).toNat)
  case atStart => exact ⟨0, [], by omega, rfl, HX3, P3, hide (by simpa using HQ0.out)⟩
  case round =>
    obtain ⟨i, v', hi, rfl, HF, HP, HQ⟩ := hrel
    clear HQ0 HX3 P3
    have hbxQ := HF.out.at HNQ.out HBQ.out
    have hbxH := HF.out.at HNH.out HBH.out
    by_cases hil : i < t.body.length
    · obtain ⟨p, hp0⟩ : ∃ p, t.body[i]? = some p := ⟨_, List.getElem?_eq_getElem hil⟩
      obtain ⟨gb, ob, ka, kc, la, lc, ra, rc, rfl, hgb, f0, f1, f2, f3, f4, f5, f6, f7, f8, f9, f10, -, -, -, hpk, hpl, hpr⟩ := at_Prem HBD.out hp0
      have CA := hide (rprem_any (HP.out.below (below_drew wr)) (by omega) HOK.out p hpk hpl hpr)
      have HNZ := hide (show Nz (premS S.ctx v' p) from by rw [← premS_eq]; exact nz_prem _ _ _)
      have hq := HQ.out
      rw [drop_c hp0] at hq
      unfold bodyM at hq
      rw [premS_eq] at hq
      have HQ2 := hide hq
      have FS : Hid (∀ Y, Fr Z2 w2 Y → (fun Y : World => Y.cell? ⟨H, 0, none⟩ = some (.string tt) ∧ Y.cell? ⟨H, 1, none⟩ = some (.slice a1 S.kinds.length b1) ∧ Y.cell? ⟨H, 2, none⟩ = some (.slice a2 S.members.length b2) ∧ Y.cell? ⟨H, 3, none⟩ = some (.slice a3 S.preds.length b3) ∧ Y.cell? ⟨H, 4, none⟩ = some (.slice a4 S.classes.length b4) ∧ Y.cell? ⟨H, 5, none⟩ = some (.slice a5 S.sources.length b5) ∧ Y.cell? ⟨H, 6, none⟩ = some (.slice (some ⟨gr, orr, none⟩) S.rules.length b6) ∧ Y.cell? ⟨H, 7, none⟩ = some (.slice a7 S.excepts.length b7) ∧ Y.cell? ⟨H, 8, none⟩ = some (.slice a8 S.totals.length b8) ∧ Y.cell? ⟨Q, 0, none⟩ = some (.string ⟨t.name.toArray⟩) ∧ Y.cell? ⟨Q, 1, none⟩ = some (.string ⟨t.source.toArray⟩) ∧ Y.cell? ⟨Q, 2, none⟩ = some (.int .i64 t.day) ∧ Y.cell? ⟨Q, 3, none⟩ = some (.int .i64 t.till) ∧ Y.cell? ⟨Q, 4, none⟩ = some (.slice (some ⟨gb, ob, none⟩) t.body.length bc) ∧ Y.cell? ⟨Q, 5, none⟩ = some (.int .i64 t.arrow) ∧ Y.cell? ⟨Q, 6, none⟩ = some (.bool t.head.neg) ∧ Y.cell? ⟨Q, 7, none⟩ = some (.string ⟨t.head.pred.toArray⟩) ∧ Y.cell? ⟨Q, 8, none⟩ = some (.slice ha t.head.args.length hc) ∧ Y.cell? ⟨Q, 9, none⟩ = some (.bool t.head.hasValue) ∧ Y.cell? ⟨Q, 10, none⟩ = some (.int .i64 t.head.value) ∧ Y.cell? ⟨gb, ob + i * 11, none⟩ = some (.int .i64 p.kind) ∧ Y.cell? ⟨gb, ob + i * 11 + 1, none⟩ = some (.bool p.lit.neg) ∧ Y.cell? ⟨gb, ob + i * 11 + 2, none⟩ = some (.string ⟨p.lit.pred.toArray⟩) ∧ Y.cell? ⟨gb, ob + i * 11 + 3, none⟩ = some (.slice ka p.lit.args.length kc) ∧ Y.cell? ⟨gb, ob + i * 11 + 4, none⟩ = some (.bool p.lit.hasValue) ∧ Y.cell? ⟨gb, ob + i * 11 + 5, none⟩ = some (.int .i64 p.lit.value) ∧ Y.cell? ⟨gb, ob + i * 11 + 6, none⟩ = some (.slice la p.guard.left.length lc) ∧ Y.cell? ⟨gb, ob + i * 11 + 7, none⟩ = some (.int .i64 p.guard.op) ∧ Y.cell? ⟨gb, ob + i * 11 + 8, none⟩ = some (.slice ra p.guard.right.length rc) ∧ Y.cell? ⟨gb, ob + i * 11 + 9, none⟩ = some (.string ⟨p.a.toArray⟩) ∧ Y.cell? ⟨gb, ob + i * 11 + 10, none⟩ = some (.string ⟨p.b.toArray⟩) ∧ Fr Z2 w2 Y) Y) := by
        refine hide fun Y hY => ?_
        have q1 := hY.at HNH.out HBH.out
        have q2 := hY.at HNQ.out HBQ.out
        have q3 := P2.out.strs hY
        exact ⟨cell_of_row Y _ 0 _ _ _ q1, cell_of_row Y _ 1 _ _ _ q1, cell_of_row Y _ 2 _ _ _ q1, cell_of_row Y _ 3 _ _ _ q1, cell_of_row Y _ 4 _ _ _ q1, cell_of_row Y _ 5 _ _ _ q1, cell_of_row Y _ 6 _ _ _ q1, cell_of_row Y _ 7 _ _ _ q1, cell_of_row Y _ 8 _ _ _ q1, cell_of_row Y _ 0 _ _ _ q2, cell_of_row Y _ 1 _ _ _ q2, cell_of_row Y _ 2 _ _ _ q2, cell_of_row Y _ 3 _ _ _ q2, cell_of_row Y _ 4 _ _ _ q2, cell_of_row Y _ 5 _ _ _ q2, cell_of_row Y _ 6 _ _ _ q2, cell_of_row Y _ 7 _ _ _ q2, cell_of_row Y _ 8 _ _ _ q2, cell_of_row Y _ 9 _ _ _ q2, cell_of_row Y _ 10 _ _ _ q2, (World.cell?_of_block (q3 gb hgb)).trans f0, (World.cell?_of_block (q3 gb hgb)).trans f1, (World.cell?_of_block (q3 gb hgb)).trans f2, (World.cell?_of_block (q3 gb hgb)).trans f3, (World.cell?_of_block (q3 gb hgb)).trans f4, (World.cell?_of_block (q3 gb hgb)).trans f5, (World.cell?_of_block (q3 gb hgb)).trans f6, (World.cell?_of_block (q3 gb hgb)).trans f7, (World.cell?_of_block (q3 gb hgb)).trans f8, (World.cell?_of_block (q3 gb hgb)).trans f9, (World.cell?_of_block (q3 gb hgb)).trans f10, hY⟩
      have d4 := cell_of_row wr _ 4 _ _ _ hbxQ
      simp only [List.getElem?_toArray, List.getElem?_cons_zero, List.getElem?_cons_succ] at d4
      unfold St9.agg at CA
      simp only at CA
      generalize premS S.ctx v' p = o1 at *
      clear hq HQ hp0 hgb f0 f1 f2 f3 f4 f5 f6 f7 f8 f9 f10 hpk hpl hpr hbxQ hbxH
      go_upto_region 18 with fail
      go_region_held3 (fun Y : World => Y.cell? ⟨H, 0, none⟩ = some (.string tt) ∧ Y.cell? ⟨H, 1, none⟩ = some (.slice a1 S.kinds.length b1) ∧ Y.cell? ⟨H, 2, none⟩ = some (.slice a2 S.members.length b2) ∧ Y.cell? ⟨H, 3, none⟩ = some (.slice a3 S.preds.length b3) ∧ Y.cell? ⟨H, 4, none⟩ = some (.slice a4 S.classes.length b4) ∧ Y.cell? ⟨H, 5, none⟩ = some (.slice a5 S.sources.length b5) ∧ Y.cell? ⟨H, 6, none⟩ = some (.slice (some ⟨gr, orr, none⟩) S.rules.length b6) ∧ Y.cell? ⟨H, 7, none⟩ = some (.slice a7 S.excepts.length b7) ∧ Y.cell? ⟨H, 8, none⟩ = some (.slice a8 S.totals.length b8) ∧ Y.cell? ⟨Q, 0, none⟩ = some (.string ⟨t.name.toArray⟩) ∧ Y.cell? ⟨Q, 1, none⟩ = some (.string ⟨t.source.toArray⟩) ∧ Y.cell? ⟨Q, 2, none⟩ = some (.int .i64 t.day) ∧ Y.cell? ⟨Q, 3, none⟩ = some (.int .i64 t.till) ∧ Y.cell? ⟨Q, 4, none⟩ = some (.slice (some ⟨gb, ob, none⟩) t.body.length bc) ∧ Y.cell? ⟨Q, 5, none⟩ = some (.int .i64 t.arrow) ∧ Y.cell? ⟨Q, 6, none⟩ = some (.bool t.head.neg) ∧ Y.cell? ⟨Q, 7, none⟩ = some (.string ⟨t.head.pred.toArray⟩) ∧ Y.cell? ⟨Q, 8, none⟩ = some (.slice ha t.head.args.length hc) ∧ Y.cell? ⟨Q, 9, none⟩ = some (.bool t.head.hasValue) ∧ Y.cell? ⟨Q, 10, none⟩ = some (.int .i64 t.head.value) ∧ Y.cell? ⟨gb, ob + i * 11, none⟩ = some (.int .i64 p.kind) ∧ Y.cell? ⟨gb, ob + i * 11 + 1, none⟩ = some (.bool p.lit.neg) ∧ Y.cell? ⟨gb, ob + i * 11 + 2, none⟩ = some (.string ⟨p.lit.pred.toArray⟩) ∧ Y.cell? ⟨gb, ob + i * 11 + 3, none⟩ = some (.slice ka p.lit.args.length kc) ∧ Y.cell? ⟨gb, ob + i * 11 + 4, none⟩ = some (.bool p.lit.hasValue) ∧ Y.cell? ⟨gb, ob + i * 11 + 5, none⟩ = some (.int .i64 p.lit.value) ∧ Y.cell? ⟨gb, ob + i * 11 + 6, none⟩ = some (.slice la p.guard.left.length lc) ∧ Y.cell? ⟨gb, ob + i * 11 + 7, none⟩ = some (.int .i64 p.guard.op) ∧ Y.cell? ⟨gb, ob + i * 11 + 8, none⟩ = some (.slice ra p.guard.right.length rc) ∧ Y.cell? ⟨gb, ob + i * 11 + 9, none⟩ = some (.string ⟨p.a.toArray⟩) ∧ Y.cell? ⟨gb, ob + i * 11 + 10, none⟩ = some (.string ⟨p.b.toArray⟩) ∧ Fr Z2 w2 Y) (first | assumption | exact FS.out _ (Fr.trans HF.out (.of_below (below_drew wr))) | exact FS.out _ ‹_›) (first | (go_at_call 84; refine CA.out.mono ?_; rintro e wb ⟨rfl, hfa, hpa⟩; have hfb := Fr.trans (Fr.trans HF.out (.of_below (below_drew wr))) hfa))
      generalize hec : erc o1 = z at *
      cases o1 with
      | error c =>
        have hec1 : c = z := hec
        subst hec1
        have hoo : Hid (.error c = o) := by
          have h1 : .error c = op := HQ2.out
          have h2 := HR3.out
          rw [← h1] at h2
          exact h2
        have hbc : (c == 0) = false := beq_eq_false_iff_ne.2 (HNZ.out c rfl)
        clear hec HQ2 HNZ hpa d4 FS CA
        go_wp2_with fail
        go_ret
        exact Eu.bad hoo.out (HF2.out.trans (hfb.mono fun k _ e => HZ2.out k e))
      | ok v2 =>
        have hec1 : 0 = z := hec
        subst hec1
        have HPA := hide ((hpa v2 rfl).grow (show _ ≤ 64 * (i + 1) by omega))
        have HQ3 : Hid ((bodyM S.ctx v2 (t.body.drop (i + 1)) >>= fun v => literalS S.ctx v t.head) = op) := HQ2.out
        have HFB := hide hfb
        clear hec hpa hfb hfa HQ2 HNZ d4 FS CA
        go_wp2_with fail
        go_roundw
        case rel => exact ⟨i + 1, v2, by omega, by go_num, HFB, HPA, HQ3⟩
        case measure => simp [intOf]; omega
    · have hi' : i = t.body.length := by omega
      have HQ2 : Hid (literalS S.ctx v' t.head = op) := by
        have := HQ.out
        rw [hi', List.drop_length] at this
        exact this
      have hil' : ¬ (i : Int) < (t.body.length : Int) := by omega
      have CA := hide (rlit_any HP.out (by omega) HOK.out t.head HHD.out)
      have HNZ := hide (show Nz (literalS S.ctx v' t.head) from by rw [← literalS_eq]; exact Nz.bind (nz_literal _ _ _) fun _ => Nz.ok _)
      rw [HQ2.out] at CA HNZ
      unfold St9.agg at CA
      simp only at CA
      have c0 := cell_of_row wr _ 0 _ _ _ hbxH
      have c1 := cell_of_row wr _ 1 _ _ _ hbxH
      have c2 := cell_of_row wr _ 2 _ _ _ hbxH
      have c3 := cell_of_row wr _ 3 _ _ _ hbxH
      have c4 := cell_of_row wr _ 4 _ _ _ hbxH
      have c5 := cell_of_row wr _ 5 _ _ _ hbxH
      have c6 := cell_of_row wr _ 6 _ _ _ hbxH
      have c7 := cell_of_row wr _ 7 _ _ _ hbxH
      have c8 := cell_of_row wr _ 8 _ _ _ hbxH
      have d0 := cell_of_row wr _ 0 _ _ _ hbxQ
      have d1 := cell_of_row wr _ 1 _ _ _ hbxQ
      have d2 := cell_of_row wr _ 2 _ _ _ hbxQ
      have d3 := cell_of_row wr _ 3 _ _ _ hbxQ
      have d4 := cell_of_row wr _ 4 _ _ _ hbxQ
      have d5 := cell_of_row wr _ 5 _ _ _ hbxQ
      have d6 := cell_of_row wr _ 6 _ _ _ hbxQ
      have d7 := cell_of_row wr _ 7 _ _ _ hbxQ
      have d8 := cell_of_row wr _ 8 _ _ _ hbxQ
      have d9 := cell_of_row wr _ 9 _ _ _ hbxQ
      have d10 := cell_of_row wr _ 10 _ _ _ hbxQ
      simp only [List.getElem?_toArray, List.getElem?_cons_zero, List.getElem?_cons_succ] at c0 c1 c2 c3 c4 c5 c6 c7 c8 d0 d1 d2 d3 d4 d5 d6 d7 d8 d9 d10
      clear hi' HQ HQ2 hbxQ hbxH
      go_upto_region 22 with (go_at_call 85; refine CA.out.mono ?_; rintro e w5 ⟨rfl, hf5, hp5⟩)
      generalize hec : erc op = z at *
      have HF5 := hide (HF2.out.trans ((HF.out.trans hf5).mono fun k _ e => HZ2.out k e))
      clear hf5 CA c0 c1 c2 c3 c4 c5 c6 c7 c8 d0 d1 d2 d3 d4 d5 d6 d7 d8 d9 d10
      cases op with
      | error c =>
        have hec1 : c = z := hec
        subst hec1
        have hoo : Hid (.error c = o) := HR3.out
        have hbc : (c == 0) = false := beq_eq_false_iff_ne.2 (HNZ.out c rfl)
        clear hec HNZ hp5 HR3
        go_wp2_with fail
        go_ret
        exact Eu.bad hoo.out HF5.out
      | ok v2 =>
        have hec1 : 0 = z := hec
        subst hec1
        have P5 := hide ((H9.out.up (hp5 v2 rfl) HZ2.out).grow (show _ ≤ 2048 by omega))
        have HR4 : Hid (wantM (!decide ((-1 : Int) ∈ v2.kinds)) 86 = o) := HR3.out
        obtain ⟨nv, kv, lv, N, Ks, L, hBp, hSim, hNB, hLB⟩ := P5.out.bk
        obtain ⟨na, nc, rfl⟩ := owns_slice hBp.rowN
        obtain ⟨la, lc, rfl⟩ := owns_slice hBp.rowL
        have HBp := hide hBp
        have HFree := hide hSim.free
        clear hec HNZ hp5 HR3 hBp hSim
        go_wp2_with fail
        go_loopw [10] (fun x wz => ∃ (j : Nat), j ≤ L.length ∧ x = .int .i64 j ∧ Hid (Lk w5 wz) ∧ Hid (∀ y ∈ L.take j, y ∈ N)) (fun x _ => L.length - (intOf x).toNat)
        case atStart => exact ⟨0, by omega, rfl, hide .of, hide (by simp)⟩
        case round =>
          obtain ⟨j, hj, rfl, HLK, HAL⟩ := hrel
          have HB5 := hide (HBp.out.below HLK.out.below)
          obtain ⟨p0, -, p2⟩ := HB5.out.cells
          by_cases hjl : j < L.length
          · obtain ⟨y, hy0⟩ : ∃ y, L[j]? = some y := ⟨_, List.getElem?_eq_getElem hjl⟩
            have hyd : L.getD j [] = y := by rw [List.getD_eq_getElem?_getD, hy0]; rfl
            obtain ⟨g1, o1, rfl, yc⟩ := (owns_at1 HB5.out.rowL).str hjl
            rw [hyd] at yc
            have CF := hide (fun q => rfindS (w := wr.drewN q) (c := nc) ((Lk.refl.drewN q).at1 (owns_at1 HB5.out.rowN)) rfl (by omega) y)
            by_cases hyn : y ∈ N
            · rw [findZ_in hyn] at CF
              have HAL2 : Hid (∀ y ∈ L.take (j + 1), y ∈ N) := by
                refine hide fun u hu => ?_
                rw [take_snoc hy0] at hu
                rcases List.mem_append.1 hu with h1 | h1
                · exact HAL.out u h1
                · simp at h1; rw [h1]; exact hyn
              clear hy0 hyd hyn
              generalize posB N y = py at *
              go_upto_region 27 with fail
              go_quiet ((go_at_call 34; exact Calls.quiet_of_same (CF.out _)))
              rename Nat => nq2
              go_wp2_with fail
              go_roundw
              case rel => exact ⟨j + 1, by omega, by go_num, hide (HLK.out.drewN nq2), HAL2⟩
              case measure => simp [intOf]; omega
            · rw [findZ_out hyn] at CF
              have hoo : Hid (.error 86 = o) := by
                have h1 := HFree.out.2 ⟨y, List.mem_of_getElem? hy0, hyn⟩
                have := HR4.out
                rw [want_f (by rw [decide_eq_true h1]; rfl)] at this
                exact this
              clear hy0 hyd hyn
              go_upto_region 27 with fail
              go_quiet ((go_at_call 34; exact Calls.quiet_of_same (CF.out _)))
              rename Nat => nq2
              go_wp2_with fail
              go_ret
              exact Eu.bad hoo.out (HF5.out.trans (.of_below (HLK.out.drewN nq2).below))
          · have hj' : j = L.length := by omega
            have hoo : Hid (.ok () = o) := by
              have h1 : ¬ (-1 : Int) ∈ v2.kinds := by
                intro hh
                obtain ⟨y, hy, hn⟩ := HFree.out.1 hh
                have h2 := HAL.out
                rw [hj', List.take_length] at h2
                exact hn (h2 y hy)
              have := HR4.out
              rw [want_t (by rw [decide_eq_false h1]; rfl)] at this
              exact this
            have hjl' : ¬ (j : Int) < (L.length : Int) := by omega
            clear hj'
            go_wp2_with fail
            go_ret
            have HPZ := P5.out.below HLK.out.below
            have h8 := hoo.out
            exact ⟨by rw [← h8]; rfl, HF5.out.trans (.of_below HLK.out.below), fun _ => ⟨v2, HPT.out, HPZ⟩⟩
end
end Go.Proofs.YtbdlgglbcaoakaaGreat
