/- The page's total. -/
import Derived.Test.YtbdlgglbcaoakaaGreatBkR9
namespace Go.Proofs.YtbdlgglbcaoakaaGreat
open Go.RowKit Go.Shelf Go.Maps Go.WideMaps

theorem rtotalsS {S : StatM} {st : St9} {w : World} (h : SR w.heap.size w S st) (hl : S.totals.length * 24 ≤ 140737488351232) : Calls Tryz.prog 86 #[st.agg] w fun e w' => ∃ xa xc, e = .returned (.slice xa S.totals.length xc) ∧ At1 w' xa (strs S.sums) ∧ Below w.heap.size w w' := by
  refine (rtotals_any h hl).mono ?_
  rintro e w' ⟨v, rfl, hv, hb⟩
  have e1 : (S.totals.map (·.name)).length = S.totals.length := List.length_map _
  rw [e1] at hv
  obtain ⟨xa, xc, rfl⟩ := owns_slice hv
  exact ⟨xa, xc, rfl, owns_at1 (owns_down hv (Nat.zero_le _)), hb⟩
section
variable {S : StatM} {st : St9} {w : World}
set_option maxRecDepth 100000 in
set_option maxHeartbeats 25600000 in
theorem rtotal_any (h : SR w.heap.size w S st) (hfit : S.fitsB = true) {n : Nat} {t : TotalM} (hn : S.totals[n]? = some t) : Calls Tryz.prog 40 #[st.agg, .int .i64 n] w fun e w' => e = .returned (.int .i64 (erc (totalM S.ctx S.sums n t))) ∧ Below w.heap.size w w' := by
  obtain ⟨hfk, hfm, hfp, hfc, hfs, hfr, hfe, hft⟩ := fitB hfit
  have hlt : n < S.totals.length := (List.getElem?_eq_some_iff.1 hn).1
  have HTO := hide h.totals
  have HPS := hide h.preds
  have HKS := hide h.kinds
  obtain ⟨tt, ht⟩ := h.title
  obtain ⟨a1, b1, f1, _, _⟩ := h.kinds.form
  obtain ⟨a2, b2, f2, _, _⟩ := h.members.form
  obtain ⟨a3, b3, f3, _, _⟩ := h.preds.form
  obtain ⟨a4, b4, f4, _, _⟩ := h.classes.form
  obtain ⟨a5, b5, f5, _, _⟩ := h.sources.form
  obtain ⟨a6, b6, f6, _, _⟩ := h.rules.form
  obtain ⟨a7, b7, f7, _, _⟩ := h.excepts.form
  obtain ⟨a8, b8, f8, _, _⟩ := h.totals.form
  obtain ⟨s0, s1, s2, s3, s4, s5, s6, s7, s8⟩ := st
  simp only at ht f1 f2 f3 f4 f5 f6 f7 f8
  subst ht f1 f2 f3 f4 f5 f6 f7 f8
  obtain ⟨gt, ot, pa, pc, rfl, hgt, x0, x1, x2, x3, x4, -, -, hprs⟩ := at_T HTO.out hn
  have hpl : t.preds.length ≤ 140737488351232 := by obtain ⟨_, _, _, _, h9⟩ := hprs.form; exact h9
  have HPR := hide hprs
  have HSR := hide h
  have HNL : Hid (S.sums.length = S.totals.length) := hide (List.length_map _)
  have HPL : Hid (S.ctx.names.length = S.preds.length) := hide (List.length_map _)
  have HNM : Hid (S.sums.getD n [] = t.name) := hide (by show (S.totals.map (·.name)).getD n [] = t.name; rw [List.getD_eq_getElem?_getD, List.getElem?_map, hn]; rfl)
  obtain ⟨z, hz⟩ : ∃ z, erc (totalM S.ctx S.sums n t) = z := ⟨_, rfl⟩
  rw [hz]
  have HZ := hide hz
  unfold totalM at HZ
  have hA : Below w.heap.size w (w.alloc (.cells #[.string tt, .slice a1 S.kinds.length b1, .slice a2 S.members.length b2, .slice a3 S.preds.length b3, .slice a4 S.classes.length b4, .slice a5 S.sources.length b5, .slice a6 S.rules.length b6, .slice a7 S.excepts.length b7, .slice (some ⟨gt, ot, none⟩) S.totals.length b8] 31)) := (Below.refl _ w).alloc (Nat.le_refl _) _
  have K0 : Hid (Lw w.heap.size S ⟨.string tt, .slice a1 S.kinds.length b1, .slice a2 S.members.length b2, .slice a3 S.preds.length b3, .slice a4 S.classes.length b4, .slice a5 S.sources.length b5, .slice a6 S.rules.length b6, .slice a7 S.excepts.length b7, .slice (some ⟨gt, ot, none⟩) S.totals.length b8⟩ w (w.alloc (.cells #[.string tt, .slice a1 S.kinds.length b1, .slice a2 S.members.length b2, .slice a3 S.preds.length b3, .slice a4 S.classes.length b4, .slice a5 S.sources.length b5, .slice a6 S.rules.length b6, .slice a7 S.excepts.length b7, .slice (some ⟨gt, ot, none⟩) S.totals.length b8] 31))) := hide ⟨hA, h.keep fun g hg => hA.block g hg, heap_alloc_new w _⟩
  have CT := hide (rtotalsS K0.out.sr (by omega))
  obtain ⟨H, hH⟩ : ∃ H, H = w.heap.size := ⟨_, rfl⟩
  rw [← hH] at K0
  have HH := hide hH
  clear h hz hA hprs
  unfold St9.agg str at *
  simp only at *
  obtain ⟨c0, c1, c2, c3, c4, c5, c6, c7, c8, cf⟩ := K0.out.cells
  simp only at c0 c1 c2 c3 c4 c5 c6 c7 c8
  clear cf
  go_enter Tryz.func40, Tryz.ntmps40
  go_upto_region 1 with fail
  rw [← hH]
  generalize w.alloc (.cells #[.string tt, .slice a1 S.kinds.length b1, .slice a2 S.members.length b2, .slice a3 S.preds.length b3, .slice a4 S.classes.length b4, .slice a5 S.sources.length b5, .slice a6 S.rules.length b6, .slice a7 S.excepts.length b7, .slice (some ⟨gt, ot, none⟩) S.totals.length b8] 31) = w0 at *
  clear hH
  go_wp2_with fail
  refine CT.out.mono ?_
  rintro _ w1 ⟨xa, xc, rfl, hat, hb⟩
  have CN := hide (rnamedS (c := xc) hat HNL.out (by omega) hlt HNM.out)
  have K1 := hide (K0.out.below hb)
  clear hat hb CT c0 c1 c2 c3 c4 c5 c6 c7 c8 K0
  obtain ⟨c0, c1, c2, c3, c4, c5, c6, c7, c8, cf⟩ := K1.out.cells
  simp only at c0 c1 c2 c3 c4 c5 c6 c7 c8
  clear cf
  cases hcd : calledM S.sums t.name n with
  | error c =>
    have hzc := es HZ.out hcd
    subst hzc
    have hbq : (c == 0) = false := beq_eq_false_iff_ne.2 (nz_called _ _ _ c hcd)
    rw [erc_no hcd] at CN
    go_upto_region 2 with (go_at_call 32; refine CN.out.mono ?_; rintro _ w9 ⟨rfl, hw⟩; subst w9)
    go_wp2_with fail
    go_ret
    exact ⟨rfl, by rw [← HH.out]; exact K1.out.low⟩
  | ok u =>
  have HZ1 := hide (eg HZ.out hcd)
  rw [erc_ok hcd] at CN
  have hgl : gt < w1.heap.size := by have := loc_lt K1.out.box; have := HH.out; omega
  have hgH : gt < H := by rw [HH.out]; exact hgt
  have q0 := K1.out.cell hgH x0
  have q1 := K1.out.cell hgH x1
  have q2 := K1.out.cell hgH x2
  have q3 := K1.out.cell hgH x3
  have q4 := K1.out.cell hgH x4
  clear HZ hcd x0 x1 x2 x3 x4
  go_upto_region 5 with (go_at_call 32; refine CN.out.mono ?_; rintro _ w9 ⟨rfl, hw⟩; subst w9)
  have hA2 : Below w1.heap.size w1 (w1.alloc (.cells #[.string ⟨t.name.toArray⟩, .string ⟨t.kind.toArray⟩, .slice pa t.preds.length pc, .bool t.hasCap, .int .i64 t.cap] 129)) := (Below.refl _ _).alloc (Nat.le_refl _) _
  have K2 := hide (K1.out.below hA2)
  have HBQ := hide (heap_alloc_new w1 (.cells #[.string ⟨t.name.toArray⟩, .string ⟨t.kind.toArray⟩, .slice pa t.preds.length pc, .bool t.hasCap, .int .i64 t.cap] 129))
  clear hA2 CN K1 q0 q1 q2 q3 q4 c0 c1 c2 c3 c4 c5 c6 c7 c8 hgl
  generalize w1.alloc (.cells #[.string ⟨t.name.toArray⟩, .string ⟨t.kind.toArray⟩, .slice pa t.preds.length pc, .bool t.hasCap, .int .i64 t.cap] 129) = w2 at *
  generalize w1.heap.size = Q at *
  have HB1 := hide K2.out.box
  have FS : Hid (∀ Y, Below w2.heap.size w2 Y → (fun Y : World => Y.cell? ⟨H, 0, none⟩ = some (.string tt) ∧ Y.cell? ⟨H, 1, none⟩ = some (.slice a1 S.kinds.length b1) ∧ Y.cell? ⟨H, 2, none⟩ = some (.slice a2 S.members.length b2) ∧ Y.cell? ⟨H, 3, none⟩ = some (.slice a3 S.preds.length b3) ∧ Y.cell? ⟨H, 4, none⟩ = some (.slice a4 S.classes.length b4) ∧ Y.cell? ⟨H, 5, none⟩ = some (.slice a5 S.sources.length b5) ∧ Y.cell? ⟨H, 6, none⟩ = some (.slice a6 S.rules.length b6) ∧ Y.cell? ⟨H, 7, none⟩ = some (.slice a7 S.excepts.length b7) ∧ Y.cell? ⟨H, 8, none⟩ = some (.slice (some ⟨gt, ot, none⟩) S.totals.length b8) ∧ Y.cell? ⟨Q, 0, none⟩ = some (.string ⟨t.name.toArray⟩) ∧ Y.cell? ⟨Q, 1, none⟩ = some (.string ⟨t.kind.toArray⟩) ∧ Y.cell? ⟨Q, 2, none⟩ = some (.slice pa t.preds.length pc) ∧ Y.cell? ⟨Q, 3, none⟩ = some (.bool t.hasCap) ∧ Y.cell? ⟨Q, 4, none⟩ = some (.int .i64 t.cap) ∧ Below w2.heap.size w2 Y) Y) := by
    refine hide fun Y hY => ?_
    have q1 := (hY.block _ (loc_lt HB1.out)).trans HB1.out
    have q2 := (hY.block _ (loc_lt HBQ.out)).trans HBQ.out
    exact ⟨cell_of_row Y _ 0 _ _ _ q1, cell_of_row Y _ 1 _ _ _ q1, cell_of_row Y _ 2 _ _ _ q1, cell_of_row Y _ 3 _ _ _ q1, cell_of_row Y _ 4 _ _ _ q1, cell_of_row Y _ 5 _ _ _ q1, cell_of_row Y _ 6 _ _ _ q1, cell_of_row Y _ 7 _ _ _ q1, cell_of_row Y _ 8 _ _ _ q1, cell_of_row Y _ 0 _ _ _ q2, cell_of_row Y _ 1 _ _ _ q2, cell_of_row Y _ 2 _ _ _ q2, cell_of_row Y _ 3 _ _ _ q2, cell_of_row Y _ 4 _ _ _ q2, hY⟩
  have LW : Hid (∀ Y, Below w2.heap.size w2 Y → Below w.heap.size w Y) := hide fun Y hY => by
    have := (K2.out.below hY).low
    rw [HH.out] at this
    exact this
  obtain ⟨c0, c1, c2, c3, c4, c5, c6, c7, c8, d0, d1, d2, d3, d4, -⟩ := FS.out w2 (Below.refl _ _)
  have CK := hide (rfindS (w := w2) (c := b1) (Strs.at1 (Strs.keep (fun g hg => (LW.out w2 (Below.refl _ _)).block g hg) HKS.out)) rfl (by omega) t.kind)
  by_cases hk : t.kind ∈ S.kinds
  case neg =>
    rw [findZ_out hk] at CK
    have hzc := es HZ1.out (findM_no (l := S.ctx.kinds) hk)
    subst hzc
    go_wp2_with (go_at_call 34; refine CK.out.mono ?_; rintro _ w9 ⟨rfl, hw⟩; subst w9)
    go_ret
    exact ⟨rfl, LW.out _ (Below.refl _ _)⟩
  rw [findZ_in hk] at CK
  have HZ2 := hide (eg HZ1.out (findM_yes (l := S.ctx.kinds) hk))
  clear HZ1
  generalize posB S.kinds t.kind = pk at *
  by_cases h1 : (1 : Int) ≤ (t.preds.length : Int)
  case neg =>
    have hzc := ef HZ2.out (by rw [decide_eq_false h1, Bool.false_and])
    subst hzc
    have h0 : t.preds.length = 0 := by omega
    rw [h0] at d2
    clear h1
    go_upto_region 6 with (go_at_call 34; refine CK.out.mono ?_; rintro _ w9 ⟨rfl, hw⟩; subst w9)
    go_wp2_with fail
    go_ret
    exact ⟨rfl, LW.out _ (Below.refl _ _)⟩
  have hb0 : ((t.preds.length : Int) == 0) = false := beq_eq_false_iff_ne.2 (by omega)
  have hb0' : ¬ t.preds = [] := by
    intro e
    rw [e] at h1
    simp at h1
  by_cases h16 : (t.preds.length : Int) ≤ 16
  case neg =>
    have hzc := ef HZ2.out (by rw [decide_eq_false h16, Bool.and_false])
    subst hzc
    have h16' : (16 : Int) < (t.preds.length : Int) := by omega
    go_upto_region 6 with (go_at_call 34; refine CK.out.mono ?_; rintro _ w9 ⟨rfl, hw⟩; subst w9)
    go_wp2_with fail
    go_ret
    exact ⟨rfl, LW.out _ (Below.refl _ _)⟩
  have h16' : ¬ (16 : Int) < (t.preds.length : Int) := by omega
  have HZ3 := hide (et HZ2.out (by rw [decide_eq_true h1, decide_eq_true h16]; rfl))
  clear HZ2 h1 h16
  go_upto_region 7 with (go_at_call 34; refine CK.out.mono ?_; rintro _ w9 ⟨rfl, hw⟩; subst w9)
  go_wp2_with fail
  clear hb0 hb0' h16' CK c0 c1 c2 c3 c4 c5 c6 c7 c8 d0 d1 d2 d3 d4
  go_loopw [7] (fun q wr => ∃ i : Nat, i ≤ t.preds.length ∧ q = .int .i64 i ∧ Hid (Below w2.heap.size w2 wr) ∧ Hid (erc (allM (fun i s => findPredM S.ctx s >>= fun p => wantM (decide (p.sort = 3)) 84 >>= fun _ => wantM (decide ((p.kinds.length : Int) = 1) && decide (p.kinds.getD 0 [] = t.kind)) 83 >>= fun _ => wantM (!decide (s ∈ t.preds.take i)) 6) i (t.preds.drop i) >>= fun _ => (wantM (!t.hasCap || awardB t.cap) 22 >>= fun _ => wantM (t.hasCap || decide (t.cap = 0)) 1)) = z)) (fun q _ => t.preds.length - (intOf q).toNat)
  case atStart => exact ⟨0, by omega, rfl, hide (Below.refl _ _), hide (by rw [List.drop_zero]; exact HZ3.out)⟩
  case round =>
    clear HZ3
    obtain ⟨i, hi, rfl, HK, HQ⟩ := hrel
    by_cases hil : i < t.preds.length
    · obtain ⟨s, hs⟩ : ∃ s, t.preds[i]? = some s := ⟨_, List.getElem?_eq_getElem hil⟩
      have hgd : t.preds.getD i [] = s := by rw [List.getD_eq_getElem?_getD, hs]; rfl
      have hq := HQ.out
      rw [drop_c hs] at hq
      unfold allM at hq
      have HQ1 : Hid (erc (findPredM S.ctx s >>= fun p => wantM (decide (p.sort = 3)) 84 >>= fun _ => wantM (decide ((p.kinds.length : Int) = 1) && decide (p.kinds.getD 0 [] = t.kind)) 83 >>= fun _ => wantM (!decide (s ∈ t.preds.take i)) 6 >>= fun _ => (allM (fun i s => findPredM S.ctx s >>= fun p => wantM (decide (p.sort = 3)) 84 >>= fun _ => wantM (decide ((p.kinds.length : Int) = 1) && decide (p.kinds.getD 0 [] = t.kind)) 83 >>= fun _ => wantM (!decide (s ∈ t.preds.take i)) 6) (i + 1) (t.preds.drop (i + 1)) >>= fun _ => (wantM (!t.hasCap || awardB t.cap) 22 >>= fun _ => wantM (t.hasCap || decide (t.cap = 0)) 1))) = z) := by
        refine hide (Eq.trans (congrArg erc ?_) hq)
        simp only [bind_assoc]
      obtain ⟨gl, ol, rfl, -⟩ := (Strs.at1 HPR.out).str hil
      have AT : Hid (∀ Y, Below w2.heap.size w2 Y → At1 Y (some ⟨gl, ol, none⟩) (strs t.preds)) := hide fun Y hY => Strs.at1 (Strs.keep (fun g hg => (LW.out Y hY).block g hg) HPR.out)
      have FSI : Hid (∀ Y, Below w2.heap.size w2 Y → (fun Y : World => Y.cell? ⟨H, 0, none⟩ = some (.string tt) ∧ Y.cell? ⟨H, 1, none⟩ = some (.slice a1 S.kinds.length b1) ∧ Y.cell? ⟨H, 2, none⟩ = some (.slice a2 S.members.length b2) ∧ Y.cell? ⟨H, 3, none⟩ = some (.slice a3 S.preds.length b3) ∧ Y.cell? ⟨H, 4, none⟩ = some (.slice a4 S.classes.length b4) ∧ Y.cell? ⟨H, 5, none⟩ = some (.slice a5 S.sources.length b5) ∧ Y.cell? ⟨H, 6, none⟩ = some (.slice a6 S.rules.length b6) ∧ Y.cell? ⟨H, 7, none⟩ = some (.slice a7 S.excepts.length b7) ∧ Y.cell? ⟨H, 8, none⟩ = some (.slice (some ⟨gt, ot, none⟩) S.totals.length b8) ∧ Y.cell? ⟨Q, 0, none⟩ = some (.string ⟨t.name.toArray⟩) ∧ Y.cell? ⟨Q, 1, none⟩ = some (.string ⟨t.kind.toArray⟩) ∧ Y.cell? ⟨Q, 2, none⟩ = some (.slice (some ⟨gl, ol, none⟩) t.preds.length pc) ∧ Y.cell? ⟨Q, 3, none⟩ = some (.bool t.hasCap) ∧ Y.cell? ⟨Q, 4, none⟩ = some (.int .i64 t.cap) ∧ Y.cell? ⟨gl, ol + i, none⟩ = some (.string ⟨s.toArray⟩) ∧ Below w2.heap.size w2 Y) Y) := by
        refine hide fun Y hY => ?_
        obtain ⟨g9, o9, e9, k9⟩ := (AT.out Y hY).str hil
        cases e9
        rw [hgd] at k9
        have q1 := (hY.block _ (loc_lt HB1.out)).trans HB1.out
        have q2 := (hY.block _ (loc_lt HBQ.out)).trans HBQ.out
        exact ⟨cell_of_row Y _ 0 _ _ _ q1, cell_of_row Y _ 1 _ _ _ q1, cell_of_row Y _ 2 _ _ _ q1, cell_of_row Y _ 3 _ _ _ q1, cell_of_row Y _ 4 _ _ _ q1, cell_of_row Y _ 5 _ _ _ q1, cell_of_row Y _ 6 _ _ _ q1, cell_of_row Y _ 7 _ _ _ q1, cell_of_row Y _ 8 _ _ _ q1, cell_of_row Y _ 0 _ _ _ q2, cell_of_row Y _ 1 _ _ _ q2, cell_of_row Y _ 2 _ _ _ q2, cell_of_row Y _ 3 _ _ _ q2, cell_of_row Y _ 4 _ _ _ q2, k9, hY⟩
      have CP := hide (fun Y (hY : (fun Y : World => Y.cell? ⟨H, 0, none⟩ = some (.string tt) ∧ Y.cell? ⟨H, 1, none⟩ = some (.slice a1 S.kinds.length b1) ∧ Y.cell? ⟨H, 2, none⟩ = some (.slice a2 S.members.length b2) ∧ Y.cell? ⟨H, 3, none⟩ = some (.slice a3 S.preds.length b3) ∧ Y.cell? ⟨H, 4, none⟩ = some (.slice a4 S.classes.length b4) ∧ Y.cell? ⟨H, 5, none⟩ = some (.slice a5 S.sources.length b5) ∧ Y.cell? ⟨H, 6, none⟩ = some (.slice a6 S.rules.length b6) ∧ Y.cell? ⟨H, 7, none⟩ = some (.slice a7 S.excepts.length b7) ∧ Y.cell? ⟨H, 8, none⟩ = some (.slice (some ⟨gt, ot, none⟩) S.totals.length b8) ∧ Y.cell? ⟨Q, 0, none⟩ = some (.string ⟨t.name.toArray⟩) ∧ Y.cell? ⟨Q, 1, none⟩ = some (.string ⟨t.kind.toArray⟩) ∧ Y.cell? ⟨Q, 2, none⟩ = some (.slice (some ⟨gl, ol, none⟩) t.preds.length pc) ∧ Y.cell? ⟨Q, 3, none⟩ = some (.bool t.hasCap) ∧ Y.cell? ⟨Q, 4, none⟩ = some (.int .i64 t.cap) ∧ Y.cell? ⟨gl, ol + i, none⟩ = some (.string ⟨s.toArray⟩) ∧ Below w2.heap.size w2 Y) Y) => rpredsS (SR.mono (LW.out Y hY.2.2.2.2.2.2.2.2.2.2.2.2.2.2.2).size (HSR.out.keep fun g hg => (LW.out Y hY.2.2.2.2.2.2.2.2.2.2.2.2.2.2.2).block g hg)) (by omega))
      have GS : Hid (∀ Y Y', (fun Y : World => Y.cell? ⟨H, 0, none⟩ = some (.string tt) ∧ Y.cell? ⟨H, 1, none⟩ = some (.slice a1 S.kinds.length b1) ∧ Y.cell? ⟨H, 2, none⟩ = some (.slice a2 S.members.length b2) ∧ Y.cell? ⟨H, 3, none⟩ = some (.slice a3 S.preds.length b3) ∧ Y.cell? ⟨H, 4, none⟩ = some (.slice a4 S.classes.length b4) ∧ Y.cell? ⟨H, 5, none⟩ = some (.slice a5 S.sources.length b5) ∧ Y.cell? ⟨H, 6, none⟩ = some (.slice a6 S.rules.length b6) ∧ Y.cell? ⟨H, 7, none⟩ = some (.slice a7 S.excepts.length b7) ∧ Y.cell? ⟨H, 8, none⟩ = some (.slice (some ⟨gt, ot, none⟩) S.totals.length b8) ∧ Y.cell? ⟨Q, 0, none⟩ = some (.string ⟨t.name.toArray⟩) ∧ Y.cell? ⟨Q, 1, none⟩ = some (.string ⟨t.kind.toArray⟩) ∧ Y.cell? ⟨Q, 2, none⟩ = some (.slice (some ⟨gl, ol, none⟩) t.preds.length pc) ∧ Y.cell? ⟨Q, 3, none⟩ = some (.bool t.hasCap) ∧ Y.cell? ⟨Q, 4, none⟩ = some (.int .i64 t.cap) ∧ Y.cell? ⟨gl, ol + i, none⟩ = some (.string ⟨s.toArray⟩) ∧ Below w2.heap.size w2 Y) Y → Below Y.heap.size Y Y' → (fun Y : World => Y.cell? ⟨H, 0, none⟩ = some (.string tt) ∧ Y.cell? ⟨H, 1, none⟩ = some (.slice a1 S.kinds.length b1) ∧ Y.cell? ⟨H, 2, none⟩ = some (.slice a2 S.members.length b2) ∧ Y.cell? ⟨H, 3, none⟩ = some (.slice a3 S.preds.length b3) ∧ Y.cell? ⟨H, 4, none⟩ = some (.slice a4 S.classes.length b4) ∧ Y.cell? ⟨H, 5, none⟩ = some (.slice a5 S.sources.length b5) ∧ Y.cell? ⟨H, 6, none⟩ = some (.slice a6 S.rules.length b6) ∧ Y.cell? ⟨H, 7, none⟩ = some (.slice a7 S.excepts.length b7) ∧ Y.cell? ⟨H, 8, none⟩ = some (.slice (some ⟨gt, ot, none⟩) S.totals.length b8) ∧ Y.cell? ⟨Q, 0, none⟩ = some (.string ⟨t.name.toArray⟩) ∧ Y.cell? ⟨Q, 1, none⟩ = some (.string ⟨t.kind.toArray⟩) ∧ Y.cell? ⟨Q, 2, none⟩ = some (.slice (some ⟨gl, ol, none⟩) t.preds.length pc) ∧ Y.cell? ⟨Q, 3, none⟩ = some (.bool t.hasCap) ∧ Y.cell? ⟨Q, 4, none⟩ = some (.int .i64 t.cap) ∧ Y.cell? ⟨gl, ol + i, none⟩ = some (.string ⟨s.toArray⟩) ∧ Below w2.heap.size w2 Y) Y') := hide fun Y Y' hY hb => FSI.out Y' (hY.2.2.2.2.2.2.2.2.2.2.2.2.2.2.2.trans (hb.mono hY.2.2.2.2.2.2.2.2.2.2.2.2.2.2.2.size))
      unfold St9.agg at CP
      simp only at CP
      have hfl := findZ_lt hil hgd
      have HFL := hide hfl
      obtain ⟨c0, c1, c2, c3, c4, c5, c6, c7, c8, d0, d1, d2, d3, d4, d5, -⟩ := FSI.out wr HK.out
      clear hq HQ hgd hfl
      go_upto_region 12 with fail
      clear c0 c1 c2 c3 c4 c5 c6 c7 c8 d0 d1 d2 d3 d4 d5
      go_region_held3 (fun Y : World => Y.cell? ⟨H, 0, none⟩ = some (.string tt) ∧ Y.cell? ⟨H, 1, none⟩ = some (.slice a1 S.kinds.length b1) ∧ Y.cell? ⟨H, 2, none⟩ = some (.slice a2 S.members.length b2) ∧ Y.cell? ⟨H, 3, none⟩ = some (.slice a3 S.preds.length b3) ∧ Y.cell? ⟨H, 4, none⟩ = some (.slice a4 S.classes.length b4) ∧ Y.cell? ⟨H, 5, none⟩ = some (.slice a5 S.sources.length b5) ∧ Y.cell? ⟨H, 6, none⟩ = some (.slice a6 S.rules.length b6) ∧ Y.cell? ⟨H, 7, none⟩ = some (.slice a7 S.excepts.length b7) ∧ Y.cell? ⟨H, 8, none⟩ = some (.slice (some ⟨gt, ot, none⟩) S.totals.length b8) ∧ Y.cell? ⟨Q, 0, none⟩ = some (.string ⟨t.name.toArray⟩) ∧ Y.cell? ⟨Q, 1, none⟩ = some (.string ⟨t.kind.toArray⟩) ∧ Y.cell? ⟨Q, 2, none⟩ = some (.slice (some ⟨gl, ol, none⟩) t.preds.length pc) ∧ Y.cell? ⟨Q, 3, none⟩ = some (.bool t.hasCap) ∧ Y.cell? ⟨Q, 4, none⟩ = some (.int .i64 t.cap) ∧ Y.cell? ⟨gl, ol + i, none⟩ = some (.string ⟨s.toArray⟩) ∧ Below w2.heap.size w2 Y) (first | assumption | exact FSI.out _ (Below.trans HK.out (Below.mono (below_drew wr) (Below.size HK.out))) | exact GS.out _ _ ‹_› ‹_›) (first | (go_at_call 78; refine (CP.out _ ‹_›).mono ?_; rintro e wa ⟨xa, xc, rfl, hat, hba⟩) | (go_at_call 34; refine (rfindS hat HPL.out (by omega) s).mono ?_; rintro e wx ⟨rfl, hw⟩; subst wx))
      have hbz := (below_drew wr).trans hba
      have K3 := hide (HK.out.trans (hbz.mono HK.out.size))
      clear hat hba hbz CP GS HK
      by_cases hm : s ∈ S.ctx.names
      case neg =>
        rw [findZ_out hm]
        have hzc := es HQ1.out (findP_no hm)
        subst hzc
        go_wp2_with fail
        go_ret
        exact ⟨rfl, LW.out _ K3.out⟩
      rw [findZ_in hm]
      have HQ2 := hide (eg HQ1.out (findP_yes hm))
      have hpx : posB S.ctx.names s < S.preds.length := by rw [← HPL.out]; exact pos_lt hm
      obtain ⟨p, hp⟩ : ∃ p, S.preds[posB S.ctx.names s]? = some p := ⟨_, List.getElem?_eq_getElem hpx⟩
      have hpd : S.ctx.preds.getD (posB S.ctx.names s) noPred = p := by show S.preds.getD _ noPred = p; rw [List.getD_eq_getElem?_getD, hp]; rfl
      rw [hpd] at HQ2
      obtain ⟨gp, op, ka, kc, va, vc, rfl, hgp, p0, p1, p2, p3, -, hpk, -⟩ := at_P HPS.out hp
      have HPK := hide hpk
      have r1 := (World.cell?_of_block ((LW.out _ K3.out).block gp hgp)).trans p1
      have r2 := (World.cell?_of_block ((LW.out _ K3.out).block gp hgp)).trans p2
      obtain ⟨c0, c1, c2, c3, c4, c5, c6, c7, c8, d0, d1, d2, d3, d4, d5, -⟩ := FSI.out wa K3.out
      clear HQ1 hpd hp hm p0 p1 p2 p3 hpk
      generalize posB S.ctx.names s = ip at *
      by_cases hs3 : p.sort = 3
      case neg =>
        have hzc := ef HQ2.out (decide_eq_false hs3)
        subst hzc
        have hbs : (p.sort == 3) = false := beq_eq_false_iff_ne.2 hs3
        go_wp2_with fail
        go_ret
        exact ⟨rfl, LW.out _ K3.out⟩
      have hbs : (p.sort == 3) = true := by rw [hs3]; rfl
      have HQ3 := hide (et HQ2.out (decide_eq_true hs3))
      clear HQ2 hs3
      go_upto_region 17 with fail
      clear hbs r1
      by_cases hk1 : (p.kinds.length : Int) = 1
      case neg =>
        have hzc := ef HQ3.out (by rw [decide_eq_false hk1, Bool.false_and])
        subst hzc
        have hbk : ((p.kinds.length : Int) == 1) = false := beq_eq_false_iff_ne.2 hk1
        have hbk2 : decide ((p.kinds.length : Int) = 1) = false := decide_eq_false hk1
        have hbk3 : ¬ p.kinds.length = 1 := by omega
        have hbk4 : (p.kinds.length == 1) = false := beq_eq_false_iff_ne.2 hbk3
        have hbk5 : decide (p.kinds.length = 1) = false := decide_eq_false hbk3
        have HK9 := hide HPK.out
        clear HPK HK9
        generalize p.kinds.length = nk at *
        go_quiet (fail)
        rename Nat => nq
        go_wp2_with fail
        go_ret
        exact ⟨rfl, LW.out _ (K3.out.trans ((below_drewN wa nq).mono K3.out.size))⟩
      have hk1n : p.kinds.length = 1 := by omega
      obtain ⟨kk, hkk⟩ : ∃ kk, p.kinds[0]? = some kk := ⟨p.kinds[0]'(by omega), List.getElem?_eq_getElem (by omega)⟩
      have hkd : p.kinds.getD 0 [] = kk := by rw [List.getD_eq_getElem?_getD, hkk]; rfl
      obtain ⟨gk, ok, rfl, hgk, k0, -⟩ := at_S HPK.out hkk
      have r3 := (World.cell?_of_block ((LW.out _ K3.out).block gk hgk)).trans k0
      rw [hk1n] at r2
      rw [hkd] at HQ3
      unfold str at r3
      rw [Nat.add_zero] at r3
      clear hkk hkd k0
      by_cases hkt : kk = t.kind
      case neg =>
        have hzc := ef HQ3.out (by rw [decide_eq_false hkt, Bool.and_false])
        subst hzc
        have hbk : (kk == t.kind) = false := beq_eq_false_iff_ne.2 hkt
        clear hk1 hk1n
        go_quiet (fail)
        rename Nat => nq
        go_wp2_with fail
        go_ret
        exact ⟨rfl, LW.out _ (K3.out.trans ((below_drewN wa nq).mono K3.out.size))⟩
      have HQ4 := hide (et HQ3.out (by rw [decide_eq_true hk1, decide_eq_true hkt]; rfl))
      rw [hkt] at r3
      clear HQ3 hk1 hk1n hkt
      go_quiet (fail)
      rename Nat => nq
      have K4 := hide (K3.out.trans ((below_drewN wa nq).mono K3.out.size))
      clear K3 r2 r3 c0 c1 c2 c3 c4 c5 c6 c7 c8 d0 d1 d2 d3 d4 d5
      generalize wa.drewN nq = wb at *
      obtain ⟨c0, c1, c2, c3, c4, c5, c6, c7, c8, d0, d1, d2, d3, d4, d5, -⟩ := FSI.out wb K4.out
      have CF := hide (fun q => rfindS (w := wb.drewN q) (c := pc) ((Lk.refl.drewN q).at1 (AT.out wb K4.out)) rfl hpl s)
      by_cases htk : s ∈ t.preds.take i
      case pos =>
        have hzc := ef HQ4.out (by rw [decide_eq_true htk]; rfl)
        subst hzc
        have hfz := HFL.out.2 htk
        have hfd : decide (findZ t.preds s < (i : Int)) = true := decide_eq_true hfz
        clear htk
        generalize findZ t.preds s = fz at *
        go_upto_region 19 with fail
        go_quiet ((go_at_call 34; exact Calls.quiet_of_same (CF.out _)))
        rename Nat => nq2
        go_wp2_with fail
        go_ret
        exact ⟨rfl, LW.out _ (K4.out.trans ((below_drewN wb nq2).mono K4.out.size))⟩
      have HQ5 := hide (et HQ4.out (by rw [decide_eq_false htk]; rfl))
      have hfz : ¬ findZ t.preds s < (i : Int) := fun hh => htk (HFL.out.1 hh)
      have hfd : decide (findZ t.preds s < (i : Int)) = false := decide_eq_false hfz
      clear htk HQ4
      generalize findZ t.preds s = fz at *
      go_upto_region 19 with fail
      go_quiet ((go_at_call 34; exact Calls.quiet_of_same (CF.out _)))
      rename Nat => nq2
      go_wp2_with fail
      go_roundw
      case rel => exact ⟨i + 1, by omega, by go_num, hide (K4.out.trans ((below_drewN wb nq2).mono K4.out.size)), HQ5⟩
      case measure => simp [intOf]; omega
    · have hi' : i = t.preds.length := by omega
      have HQ1 : Hid (erc (wantM (!t.hasCap || awardB t.cap) 22 >>= fun _ => wantM (t.hasCap || decide (t.cap = 0)) 1) = z) := by
        have := HQ.out
        rw [hi', List.drop_length] at this
        exact this
      have hil' : ¬ (i : Int) < (t.preds.length : Int) := by omega
      obtain ⟨c0, c1, c2, c3, c4, c5, c6, c7, c8, d0, d1, d2, d3, d4, -⟩ := FS.out wr HK.out
      have CM := hide (rMay_any t.cap wr)
      clear hi' HQ
      go_upto_region 21 with fail
      cases hhc : t.hasCap with
      | true =>
        rw [hhc] at d3 HQ1
        cases hmy : mayB t.cap with
        | false =>
          rw [hmy] at CM
          have hzc := ef HQ1.out (by unfold awardB; rw [hmy]; rfl)
          subst hzc
          go_wp2_with (go_at_call 79; refine CM.out.mono ?_; rintro _ w9 ⟨rfl, hw⟩; subst w9)
          go_ret
          exact ⟨rfl, LW.out _ HK.out⟩
        | true =>
          rw [hmy] at CM
          by_cases hc0 : 0 ≤ t.cap
          · have hzc : 0 = z := by
              have := et HQ1.out (by unfold awardB; rw [hmy, decide_eq_true hc0]; rfl)
              exact this
            subst hzc
            have hc0' : ¬ t.cap < 0 := by omega
            go_wp2_with (go_at_call 79; refine CM.out.mono ?_; rintro _ w9 ⟨rfl, hw⟩; subst w9)
            go_ret
            exact ⟨rfl, LW.out _ HK.out⟩
          · have hzc := ef HQ1.out (by unfold awardB; rw [hmy, decide_eq_false hc0]; rfl)
            subst hzc
            have hc0' : t.cap < 0 := by omega
            go_wp2_with (go_at_call 79; refine CM.out.mono ?_; rintro _ w9 ⟨rfl, hw⟩; subst w9)
            go_ret
            exact ⟨rfl, LW.out _ HK.out⟩
      | false =>
        rw [hhc] at d3 HQ1
        have HQ2 := hide (et HQ1.out rfl)
        by_cases hc0 : t.cap = 0
        · have hzc : 0 = z := by
            have := HQ2.out
            rw [decide_eq_true hc0] at this
            exact this
          subst hzc
          rw [hc0] at d4
          clear hc0
          go_wp2_with fail
          go_ret
          exact ⟨rfl, LW.out _ HK.out⟩
        · have hzc : 1 = z := by
            have := HQ2.out
            rw [decide_eq_false hc0] at this
            exact this
          subst hzc
          have hcb : (t.cap == 0) = false := beq_eq_false_iff_ne.2 hc0
          go_wp2_with fail
          go_ret
          exact ⟨rfl, LW.out _ HK.out⟩
end
end Go.Proofs.YtbdlgglbcaoakaaGreat
