/- The page's except. -/
import Derived.Test.YtbdlgglbcaoakaaGreatBkL9
namespace Go.Proofs.YtbdlgglbcaoakaaGreat
open Go.RowKit Go.Shelf Go.Maps Go.WideMaps

theorem keyE_inj {a b : Bytes × Bytes} (ha1 : a.1.length ≤ maxLen) (ha2 : a.2.length ≤ maxLen) (hb1 : b.1.length ≤ maxLen) (hb2 : b.2.length ≤ maxLen) (h : keyE a = keyE b) : a = b := by
  have e1 := keyE_mk ha1 ha2
  have e2 := keyE_mk hb1 hb2
  rw [← h] at e2
  have e3 := lawE.inj e1 e2
  simp only [Value.agg.injEq] at e3
  have e4 := congrArg Array.toList e3
  simp only [List.cons.injEq, and_true] at e4
  obtain ⟨h1, h2⟩ := e4
  exact Prod.ext (str_inj h1) (str_inj h2)
theorem keys_at {S : StatM} {n : Nat} {x : Bytes × Bytes} (hn : S.excepts[n]? = some x) (hs : ∀ y ∈ S.excepts, y.1.length ≤ maxLen ∧ y.2.length ≤ maxLen) : decide ((posB S.keys (keyE x) : Int) = (n : Int)) = !decide (x ∈ S.excepts.take n) := by
  have hlt : n < S.excepts.length := (List.getElem?_eq_some_iff.1 hn).1
  have hkl : n < S.keys.length := by unfold StatM.keys; rw [List.length_map]; exact hlt
  have hg : S.keys.getD n [] = keyE x := by unfold StatM.keys; rw [List.getD_eq_getElem?_getD, List.getElem?_map, hn]; rfl
  have hin : keyE x ∈ S.keys := take_hit hkl hg
  have hx := hs x (List.mem_of_getElem? hn)
  have htk : (keyE x ∈ S.keys.take n) ↔ x ∈ S.excepts.take n := by
    unfold StatM.keys
    rw [← List.map_take]
    constructor
    · intro h
      obtain ⟨y, hy, he⟩ := List.mem_map.1 h
      have hy2 := hs y (List.mem_of_mem_take hy)
      rw [keyE_inj hy2.1 hy2.2 hx.1 hx.2 he] at hy
      exact hy
    · intro h
      exact List.mem_map.2 ⟨x, h, rfl⟩
  by_cases hm : x ∈ S.excepts.take n
  · have h1 := (findZ_lt hkl hg).2 (htk.2 hm)
    rw [findZ_in hin] at h1
    rw [decide_eq_true hm, decide_eq_false (by omega)]
    rfl
  · have h1 := idx_hit hkl hg (fun hh => hm (htk.1 hh))
    rw [findZ_in hin] at h1
    rw [decide_eq_false hm, decide_eq_true h1]
    rfl
theorem rschemasS' {S : StatM} {st : St9} {w : World} (h : SR w.heap.size w S st) (hl : S.rules.length * 24 ≤ 140737488351232) : Calls Tryz.prog 82 #[st.agg] w fun e w' => ∃ xa xc, e = .returned (.slice xa S.rules.length xc) ∧ At1 w' xa (strs S.heads) ∧ Below w.heap.size w w' := by
  refine (rschemas_any h hl).mono ?_
  rintro e w' ⟨v, rfl, hv, hb⟩
  have e1 : (S.rules.map (·.name)).length = S.rules.length := List.length_map _
  rw [e1] at hv
  obtain ⟨xa, xc, rfl⟩ := owns_slice hv
  exact ⟨xa, xc, rfl, owns_at1 (owns_down hv (Nat.zero_le _)), hb⟩
section
variable {S : StatM} {st : St9} {w : World}
set_option maxRecDepth 100000 in
set_option maxHeartbeats 12800000 in
theorem rexcept_any (h : SR w.heap.size w S st) (hfit : S.fitsB = true) {n : Nat} {x : Bytes × Bytes} (hn : S.excepts[n]? = some x) : Calls Tryz.prog 39 #[st.agg, .int .i64 n] w fun e w' => e = .returned (.int .i64 (erc (exceptM S.heads S.keys n x))) ∧ Below w.heap.size w w' := by
  obtain ⟨hfk, hfm, hfp, hfc, hfs, hfr, hfe, _⟩ := fitB hfit
  have hlt : n < S.excepts.length := (List.getElem?_eq_some_iff.1 hn).1
  have HEX := hide h.excepts
  obtain ⟨tt, ht⟩ := h.title
  obtain ⟨a1, b1, f1, _, _⟩ := h.kinds.form
  obtain ⟨a2, b2, f2, _, _⟩ := h.members.form
  obtain ⟨a3, b3, f3, _, _⟩ := h.preds.form
  obtain ⟨a4, b4, f4, _, _⟩ := h.classes.form
  obtain ⟨a5, b5, f5, _, _⟩ := h.sources.form
  obtain ⟨a6, b6, f6, _, _⟩ := h.rules.form
  obtain ⟨a7, b7, f7, _, _⟩ := h.excepts.form
  obtain ⟨a8, b8, f8, _, _⟩ := h.totals.form
  obtain ⟨s0, s1, s2, s3, s4, s5, s6, s7, s8⟩ := st
  simp only at ht f1 f2 f3 f4 f5 f6 f7 f8
  subst ht f1 f2 f3 f4 f5 f6 f7 f8
  obtain ⟨ge, oe, rfl, hge, x0, x1, -, -⟩ := at_M HEX.out hn
  have hlens : ∀ y ∈ S.excepts, y.1.length ≤ maxLen ∧ y.2.length ≤ maxLen := by
    intro y hy
    obtain ⟨i, hi⟩ := List.mem_iff_getElem?.1 hy
    obtain ⟨_, _, _, _, _, _, h1, h2⟩ := at_M HEX.out hi
    exact ⟨h1, h2⟩
  have HKA := hide (keys_at hn hlens)
  have HSR := hide h
  have HNL : Hid (S.heads.length = S.rules.length) := hide (List.length_map _)
  obtain ⟨z, hz⟩ : ∃ z, erc (exceptM S.heads S.keys n x) = z := ⟨_, rfl⟩
  rw [hz]
  have HZ := hide hz
  unfold exceptM at HZ
  obtain ⟨xo, hxo⟩ : ∃ xo, x.1 = xo := ⟨_, rfl⟩
  obtain ⟨xu, hxu⟩ : ∃ xu, x.2 = xu := ⟨_, rfl⟩
  rw [hxo, hxu] at HZ
  rw [hxo] at x0
  rw [hxu] at x1
  have HXO := hide hxo
  have HXU := hide hxu
  have hs1 : (w.alloc (.cells #[.string tt, .slice a1 S.kinds.length b1, .slice a2 S.members.length b2, .slice a3 S.preds.length b3, .slice a4 S.classes.length b4, .slice a5 S.sources.length b5, .slice a6 S.rules.length b6, .slice (some ⟨ge, oe, none⟩) S.excepts.length b7, .slice a8 S.totals.length b8] 31)).heap.size = w.heap.size + 1 := by simp
  have hA1 : Below w.heap.size w (w.alloc (.cells #[.string tt, .slice a1 S.kinds.length b1, .slice a2 S.members.length b2, .slice a3 S.preds.length b3, .slice a4 S.classes.length b4, .slice a5 S.sources.length b5, .slice a6 S.rules.length b6, .slice (some ⟨ge, oe, none⟩) S.excepts.length b7, .slice a8 S.totals.length b8] 31)) := (Below.refl _ w).alloc (Nat.le_refl _) _
  have hA2 : Below w.heap.size w ((w.alloc (.cells #[.string tt, .slice a1 S.kinds.length b1, .slice a2 S.members.length b2, .slice a3 S.preds.length b3, .slice a4 S.classes.length b4, .slice a5 S.sources.length b5, .slice a6 S.rules.length b6, .slice (some ⟨ge, oe, none⟩) S.excepts.length b7, .slice a8 S.totals.length b8] 31)).alloc (.cells #[.string ⟨xo.toArray⟩, .string ⟨xu.toArray⟩] 41)) := hA1.alloc (by omega) _
  have hb1 : ((w.alloc (.cells #[.string tt, .slice a1 S.kinds.length b1, .slice a2 S.members.length b2, .slice a3 S.preds.length b3, .slice a4 S.classes.length b4, .slice a5 S.sources.length b5, .slice a6 S.rules.length b6, .slice (some ⟨ge, oe, none⟩) S.excepts.length b7, .slice a8 S.totals.length b8] 31)).alloc (.cells #[.string ⟨xo.toArray⟩, .string ⟨xu.toArray⟩] 41)).heap[w.heap.size]? = some (.cells #[.string tt, .slice a1 S.kinds.length b1, .slice a2 S.members.length b2, .slice a3 S.preds.length b3, .slice a4 S.classes.length b4, .slice a5 S.sources.length b5, .slice a6 S.rules.length b6, .slice (some ⟨ge, oe, none⟩) S.excepts.length b7, .slice a8 S.totals.length b8] 31 (0, 0)) := (Below.heap_alloc _ _ _ (by omega)).trans (heap_alloc_new w _)
  have hb2 : ((w.alloc (.cells #[.string tt, .slice a1 S.kinds.length b1, .slice a2 S.members.length b2, .slice a3 S.preds.length b3, .slice a4 S.classes.length b4, .slice a5 S.sources.length b5, .slice a6 S.rules.length b6, .slice (some ⟨ge, oe, none⟩) S.excepts.length b7, .slice a8 S.totals.length b8] 31)).alloc (.cells #[.string ⟨xo.toArray⟩, .string ⟨xu.toArray⟩] 41)).heap[w.heap.size + 1]? = some (.cells #[.string ⟨xo.toArray⟩, .string ⟨xu.toArray⟩] 41 (0, 0)) := by
    have := heap_alloc_new (w.alloc (.cells #[.string tt, .slice a1 S.kinds.length b1, .slice a2 S.members.length b2, .slice a3 S.preds.length b3, .slice a4 S.classes.length b4, .slice a5 S.sources.length b5, .slice a6 S.rules.length b6, .slice (some ⟨ge, oe, none⟩) S.excepts.length b7, .slice a8 S.totals.length b8] 31)) (.cells #[.string ⟨xo.toArray⟩, .string ⟨xu.toArray⟩] 41)
    rw [hs1] at this
    exact this
  have HA2 := hide hA2
  have HB1 := hide hb1
  have HB2 := hide hb2
  have c7 := cell_of_row _ _ 7 _ _ _ (heap_alloc_new w (.cells #[.string tt, .slice a1 S.kinds.length b1, .slice a2 S.members.length b2, .slice a3 S.preds.length b3, .slice a4 S.classes.length b4, .slice a5 S.sources.length b5, .slice a6 S.rules.length b6, .slice (some ⟨ge, oe, none⟩) S.excepts.length b7, .slice a8 S.totals.length b8] 31))
  have y0 := (World.cell?_of_block (hA1.block ge hge)).trans x0
  have y1 := (World.cell?_of_block (hA1.block ge hge)).trans x1
  simp only [List.getElem?_toArray, List.getElem?_cons_zero, List.getElem?_cons_succ] at c7
  unfold str at *
  have hgl : ge < w.heap.size + 1 := by omega
  have hgl2 : ge < w.heap.size := hge
  clear h hz hxo hxu hA1 hA2 hb1 hb2 hs1 hn
  unfold St9.agg at *
  simp only at *
  go_enter Tryz.func39, Tryz.ntmps39
  go_upto_region 2 with fail
  obtain ⟨H, hH⟩ : ∃ H, H = w.heap.size := ⟨_, rfl⟩
  rw [← hH] at HB1 HB2 ⊢
  generalize ((w.alloc (.cells #[.string tt, .slice a1 S.kinds.length b1, .slice a2 S.members.length b2, .slice a3 S.preds.length b3, .slice a4 S.classes.length b4, .slice a5 S.sources.length b5, .slice a6 S.rules.length b6, .slice (some ⟨ge, oe, none⟩) S.excepts.length b7, .slice a8 S.totals.length b8] 31)).alloc (.cells #[.string ⟨xo.toArray⟩, .string ⟨xu.toArray⟩] 41)) = w2 at *
  have HW2 := hide HA2.out
  have FS : Hid (∀ Y, Below w2.heap.size w2 Y → (fun Y : World => Y.cell? ⟨H, 0, none⟩ = some (.string tt) ∧ Y.cell? ⟨H, 1, none⟩ = some (.slice a1 S.kinds.length b1) ∧ Y.cell? ⟨H, 2, none⟩ = some (.slice a2 S.members.length b2) ∧ Y.cell? ⟨H, 3, none⟩ = some (.slice a3 S.preds.length b3) ∧ Y.cell? ⟨H, 4, none⟩ = some (.slice a4 S.classes.length b4) ∧ Y.cell? ⟨H, 5, none⟩ = some (.slice a5 S.sources.length b5) ∧ Y.cell? ⟨H, 6, none⟩ = some (.slice a6 S.rules.length b6) ∧ Y.cell? ⟨H, 7, none⟩ = some (.slice (some ⟨ge, oe, none⟩) S.excepts.length b7) ∧ Y.cell? ⟨H, 8, none⟩ = some (.slice a8 S.totals.length b8) ∧ Y.cell? ⟨H + 1, 0, none⟩ = some (.string ⟨xo.toArray⟩) ∧ Y.cell? ⟨H + 1, 1, none⟩ = some (.string ⟨xu.toArray⟩) ∧ Below w2.heap.size w2 Y) Y) := by
    refine hide fun Y hY => ?_
    have q1 := (hY.block _ (loc_lt HB1.out)).trans HB1.out
    have q2 := (hY.block _ (loc_lt HB2.out)).trans HB2.out
    exact ⟨cell_of_row Y _ 0 _ _ _ q1, cell_of_row Y _ 1 _ _ _ q1, cell_of_row Y _ 2 _ _ _ q1, cell_of_row Y _ 3 _ _ _ q1, cell_of_row Y _ 4 _ _ _ q1, cell_of_row Y _ 5 _ _ _ q1, cell_of_row Y _ 6 _ _ _ q1, cell_of_row Y _ 7 _ _ _ q1, cell_of_row Y _ 8 _ _ _ q1, cell_of_row Y _ 0 _ _ _ q2, cell_of_row Y _ 1 _ _ _ q2, hY⟩
  have LW : Hid (∀ Y, Below w2.heap.size w2 Y → Below w.heap.size w Y) := hide fun Y hY => HA2.out.trans (hY.mono HA2.out.size)
  have CP := hide (fun Y (hY : (fun Y : World => Y.cell? ⟨H, 0, none⟩ = some (.string tt) ∧ Y.cell? ⟨H, 1, none⟩ = some (.slice a1 S.kinds.length b1) ∧ Y.cell? ⟨H, 2, none⟩ = some (.slice a2 S.members.length b2) ∧ Y.cell? ⟨H, 3, none⟩ = some (.slice a3 S.preds.length b3) ∧ Y.cell? ⟨H, 4, none⟩ = some (.slice a4 S.classes.length b4) ∧ Y.cell? ⟨H, 5, none⟩ = some (.slice a5 S.sources.length b5) ∧ Y.cell? ⟨H, 6, none⟩ = some (.slice a6 S.rules.length b6) ∧ Y.cell? ⟨H, 7, none⟩ = some (.slice (some ⟨ge, oe, none⟩) S.excepts.length b7) ∧ Y.cell? ⟨H, 8, none⟩ = some (.slice a8 S.totals.length b8) ∧ Y.cell? ⟨H + 1, 0, none⟩ = some (.string ⟨xo.toArray⟩) ∧ Y.cell? ⟨H + 1, 1, none⟩ = some (.string ⟨xu.toArray⟩) ∧ Below w2.heap.size w2 Y) Y) => rschemasS' (SR.mono (LW.out Y hY.2.2.2.2.2.2.2.2.2.2.2).size (HSR.out.keep fun g hg => (LW.out Y hY.2.2.2.2.2.2.2.2.2.2.2).block g hg)) (by omega))
  have GS : Hid (∀ Y Y', (fun Y : World => Y.cell? ⟨H, 0, none⟩ = some (.string tt) ∧ Y.cell? ⟨H, 1, none⟩ = some (.slice a1 S.kinds.length b1) ∧ Y.cell? ⟨H, 2, none⟩ = some (.slice a2 S.members.length b2) ∧ Y.cell? ⟨H, 3, none⟩ = some (.slice a3 S.preds.length b3) ∧ Y.cell? ⟨H, 4, none⟩ = some (.slice a4 S.classes.length b4) ∧ Y.cell? ⟨H, 5, none⟩ = some (.slice a5 S.sources.length b5) ∧ Y.cell? ⟨H, 6, none⟩ = some (.slice a6 S.rules.length b6) ∧ Y.cell? ⟨H, 7, none⟩ = some (.slice (some ⟨ge, oe, none⟩) S.excepts.length b7) ∧ Y.cell? ⟨H, 8, none⟩ = some (.slice a8 S.totals.length b8) ∧ Y.cell? ⟨H + 1, 0, none⟩ = some (.string ⟨xo.toArray⟩) ∧ Y.cell? ⟨H + 1, 1, none⟩ = some (.string ⟨xu.toArray⟩) ∧ Below w2.heap.size w2 Y) Y → Below Y.heap.size Y Y' → (fun Y : World => Y.cell? ⟨H, 0, none⟩ = some (.string tt) ∧ Y.cell? ⟨H, 1, none⟩ = some (.slice a1 S.kinds.length b1) ∧ Y.cell? ⟨H, 2, none⟩ = some (.slice a2 S.members.length b2) ∧ Y.cell? ⟨H, 3, none⟩ = some (.slice a3 S.preds.length b3) ∧ Y.cell? ⟨H, 4, none⟩ = some (.slice a4 S.classes.length b4) ∧ Y.cell? ⟨H, 5, none⟩ = some (.slice a5 S.sources.length b5) ∧ Y.cell? ⟨H, 6, none⟩ = some (.slice a6 S.rules.length b6) ∧ Y.cell? ⟨H, 7, none⟩ = some (.slice (some ⟨ge, oe, none⟩) S.excepts.length b7) ∧ Y.cell? ⟨H, 8, none⟩ = some (.slice a8 S.totals.length b8) ∧ Y.cell? ⟨H + 1, 0, none⟩ = some (.string ⟨xo.toArray⟩) ∧ Y.cell? ⟨H + 1, 1, none⟩ = some (.string ⟨xu.toArray⟩) ∧ Below w2.heap.size w2 Y) Y') := hide fun Y Y' hY hb => FS.out Y' (hY.2.2.2.2.2.2.2.2.2.2.2.trans (hb.mono hY.2.2.2.2.2.2.2.2.2.2.2.size))
  unfold St9.agg at CP
  simp only at CP
  clear hH c7 y0 y1
  by_cases ho : xo ∈ S.heads
  case neg =>
    have CF1 := hide (fun Y xa xc (h : At1 Y xa (strs S.heads)) => rfindS (c := xc) h HNL.out (show S.rules.length ≤ 140737488351232 by omega) xo)
    rw [findZ_out ho] at CF1
    have hzc := es HZ.out (findM_no ho)
    subst hzc
    obtain ⟨c0, c1, c2, c3, c4, c5, c6, c7, c8, v0, v1, -⟩ := FS.out w2 (Below.refl _ _)
    first | (go_region_with (first | (go_at_call 82; refine (CP.out _ (FS.out _ (below_drew w2))).mono ?_; rintro e wa ⟨xa, xc, rfl, hat, hba⟩; have hbz := (below_drew w2).trans hba; obtain ⟨-, -, -, -, -, -, -, -, -, u0, u1, -⟩ := FS.out _ hbz) | (go_at_call 34; refine (CF1.out _ _ _ hat).mono ?_; rintro e wx ⟨rfl, hw⟩; subst wx))) | fail
    all_goals (go_wp2_with fail; go_ret; exact ⟨rfl, LW.out _ hbz⟩)
  have hd : decide (findZ S.heads xo < 0) = false := by rw [findZ_in ho]; exact decide_eq_false (by omega)
  have HZ1 := hide (eg HZ.out (findM_yes ho))
  by_cases hu : xu ∈ S.heads
  case neg =>
    have hd2 : decide (findZ S.heads xu < 0) = true := by rw [findZ_out hu]; rfl
    have hzc := es HZ1.out (findM_no hu)
    subst hzc
    go_region_held3 (fun Y : World => Y.cell? ⟨H, 0, none⟩ = some (.string tt) ∧ Y.cell? ⟨H, 1, none⟩ = some (.slice a1 S.kinds.length b1) ∧ Y.cell? ⟨H, 2, none⟩ = some (.slice a2 S.members.length b2) ∧ Y.cell? ⟨H, 3, none⟩ = some (.slice a3 S.preds.length b3) ∧ Y.cell? ⟨H, 4, none⟩ = some (.slice a4 S.classes.length b4) ∧ Y.cell? ⟨H, 5, none⟩ = some (.slice a5 S.sources.length b5) ∧ Y.cell? ⟨H, 6, none⟩ = some (.slice a6 S.rules.length b6) ∧ Y.cell? ⟨H, 7, none⟩ = some (.slice (some ⟨ge, oe, none⟩) S.excepts.length b7) ∧ Y.cell? ⟨H, 8, none⟩ = some (.slice a8 S.totals.length b8) ∧ Y.cell? ⟨H + 1, 0, none⟩ = some (.string ⟨xo.toArray⟩) ∧ Y.cell? ⟨H + 1, 1, none⟩ = some (.string ⟨xu.toArray⟩) ∧ Below w2.heap.size w2 Y) (first | assumption | exact FS.out _ (below_drew w2) | exact GS.out _ _ ‹_› ‹_›) (first | (go_at_call 82; refine (CP.out _ ‹_›).mono ?_; rintro e wa ⟨xa, xc, rfl, hat, hba⟩) | (go_at_call 34; refine (rfindS hat HNL.out (by omega) _).mono ?_; rintro e wx ⟨rfl, hw⟩; subst wx))
    have KE : (fun Y : World => Y.cell? ⟨H, 0, none⟩ = some (.string tt) ∧ Y.cell? ⟨H, 1, none⟩ = some (.slice a1 S.kinds.length b1) ∧ Y.cell? ⟨H, 2, none⟩ = some (.slice a2 S.members.length b2) ∧ Y.cell? ⟨H, 3, none⟩ = some (.slice a3 S.preds.length b3) ∧ Y.cell? ⟨H, 4, none⟩ = some (.slice a4 S.classes.length b4) ∧ Y.cell? ⟨H, 5, none⟩ = some (.slice a5 S.sources.length b5) ∧ Y.cell? ⟨H, 6, none⟩ = some (.slice a6 S.rules.length b6) ∧ Y.cell? ⟨H, 7, none⟩ = some (.slice (some ⟨ge, oe, none⟩) S.excepts.length b7) ∧ Y.cell? ⟨H, 8, none⟩ = some (.slice a8 S.totals.length b8) ∧ Y.cell? ⟨H + 1, 0, none⟩ = some (.string ⟨xo.toArray⟩) ∧ Y.cell? ⟨H + 1, 1, none⟩ = some (.string ⟨xu.toArray⟩) ∧ Below w2.heap.size w2 Y) wa := by first | assumption | exact GS.out _ _ ‹_› hba
    have KF := hide (LW.out _ KE.2.2.2.2.2.2.2.2.2.2.2)
    go_wp2_with fail
    go_ret
    exact ⟨rfl, KF.out⟩
  have hd2 : decide (findZ S.heads xu < 0) = false := by rw [findZ_in hu]; exact decide_eq_false (by omega)
  have HZ2 := hide (eg HZ1.out (findM_yes hu))
  go_region_held3 (fun Y : World => Y.cell? ⟨H, 0, none⟩ = some (.string tt) ∧ Y.cell? ⟨H, 1, none⟩ = some (.slice a1 S.kinds.length b1) ∧ Y.cell? ⟨H, 2, none⟩ = some (.slice a2 S.members.length b2) ∧ Y.cell? ⟨H, 3, none⟩ = some (.slice a3 S.preds.length b3) ∧ Y.cell? ⟨H, 4, none⟩ = some (.slice a4 S.classes.length b4) ∧ Y.cell? ⟨H, 5, none⟩ = some (.slice a5 S.sources.length b5) ∧ Y.cell? ⟨H, 6, none⟩ = some (.slice a6 S.rules.length b6) ∧ Y.cell? ⟨H, 7, none⟩ = some (.slice (some ⟨ge, oe, none⟩) S.excepts.length b7) ∧ Y.cell? ⟨H, 8, none⟩ = some (.slice a8 S.totals.length b8) ∧ Y.cell? ⟨H + 1, 0, none⟩ = some (.string ⟨xo.toArray⟩) ∧ Y.cell? ⟨H + 1, 1, none⟩ = some (.string ⟨xu.toArray⟩) ∧ Below w2.heap.size w2 Y) (first | assumption | exact FS.out _ (below_drew w2) | exact GS.out _ _ ‹_› ‹_›) (first | (go_at_call 82; refine (CP.out _ ‹_›).mono ?_; rintro e wa ⟨xa, xc, rfl, hat, hba⟩) | (go_at_call 34; refine (rfindS hat HNL.out (by omega) _).mono ?_; rintro e wx ⟨rfl, hw⟩; subst wx))
  have KE : (fun Y : World => Y.cell? ⟨H, 0, none⟩ = some (.string tt) ∧ Y.cell? ⟨H, 1, none⟩ = some (.slice a1 S.kinds.length b1) ∧ Y.cell? ⟨H, 2, none⟩ = some (.slice a2 S.members.length b2) ∧ Y.cell? ⟨H, 3, none⟩ = some (.slice a3 S.preds.length b3) ∧ Y.cell? ⟨H, 4, none⟩ = some (.slice a4 S.classes.length b4) ∧ Y.cell? ⟨H, 5, none⟩ = some (.slice a5 S.sources.length b5) ∧ Y.cell? ⟨H, 6, none⟩ = some (.slice a6 S.rules.length b6) ∧ Y.cell? ⟨H, 7, none⟩ = some (.slice (some ⟨ge, oe, none⟩) S.excepts.length b7) ∧ Y.cell? ⟨H, 8, none⟩ = some (.slice a8 S.totals.length b8) ∧ Y.cell? ⟨H + 1, 0, none⟩ = some (.string ⟨xo.toArray⟩) ∧ Y.cell? ⟨H + 1, 1, none⟩ = some (.string ⟨xu.toArray⟩) ∧ Below w2.heap.size w2 Y) wa := by first | assumption | exact GS.out _ _ ‹_› hba
  have K3 := hide KE.2.2.2.2.2.2.2.2.2.2.2
  clear KE hat hba hd hd2 HZ HZ1 CP
  have HZ3 : Hid (erc (wantM (!decide (x ∈ S.excepts.take n)) 6) = z) := by
    have := HZ2.out
    rw [HKA.out] at this
    exact this
  have HXP : Hid (x = (xo, xu)) := hide (Prod.ext HXO.out HXU.out)
  go_wp2_with fail
  clear HZ2 HKA GS
  go_loopw [6] (fun q wr => ∃ i : Nat, i ≤ n ∧ q = .int .i64 i ∧ Hid (Below w2.heap.size w2 wr) ∧ Hid (x ∉ S.excepts.take i)) (fun q _ => n - (intOf q).toNat)
  case atStart => exact ⟨0, by omega, rfl, K3, hide (by simp)⟩
  case round =>
    clear K3
    obtain ⟨i, hi, rfl, HK, HNI⟩ := hrel
    by_cases hin : i < n
    · obtain ⟨y, hy⟩ : ∃ y, S.excepts[i]? = some y := ⟨S.excepts[i]'(by omega), List.getElem?_eq_getElem (by omega)⟩
      obtain ⟨g9, o9, he9, hg9, y0, y1, -, -⟩ := at_M HEX.out hy
      cases he9
      have e0 := (World.cell?_of_block ((LW.out _ HK.out).block ge hg9)).trans y0
      have e1 := (World.cell?_of_block ((LW.out _ HK.out).block ge hg9)).trans y1
      obtain ⟨c0, c1, c2, c3, c4, c5, c6, c7, c8, v0, v1, -⟩ := FS.out _ HK.out
      unfold str at e0 e1
      have hil : i < S.excepts.length := by omega
      have hin' : (i : Int) < (n : Int) := by omega
      clear y0 y1
      by_cases hyx : y = x
      · have hzc : 6 = z := by
          have h1 : x ∈ S.excepts.take n := by
            rw [← hyx]
            exact List.mem_iff_getElem?.2 ⟨i, by rw [List.getElem?_take, if_pos hin]; exact hy⟩
          have := HZ3.out
          rw [decide_eq_true h1] at this
          exact this
        subst hzc
        rw [hyx, HXO.out] at e0
        rw [hyx, HXU.out] at e1
        clear hy hyx
        go_upto_region 7 with fail
        go_quiet (fail)
        rename Nat => nq
        go_wp2_with fail
        go_ret
        exact ⟨rfl, LW.out _ (HK.out.trans ((below_drewN wr nq).mono HK.out.size))⟩
      · have HNI2 : Hid (x ∉ S.excepts.take (i + 1)) := by
          refine hide ?_
          rw [take_snoc hy]
          intro hh
          rcases List.mem_append.1 hh with h1 | h1
          · exact HNI.out h1
          · simp at h1; exact hyx h1.symm
        obtain ⟨ya, yb⟩ := y
        have hne : ¬ (ya = xo ∧ yb = xu) := fun e => hyx (by rw [HXP.out, e.1, e.2])
        have hnb : ((ya == xo) && (yb == xu)) = false := by
          cases hq : ((ya == xo) && (yb == xu)) with
          | false => rfl
          | true =>
            simp only [Bool.and_eq_true, beq_iff_eq] at hq
            exact absurd hq hne
        simp only at e0 e1
        clear hy hyx
        by_cases h1 : ya = xo
        · have h2 : ¬ yb = xu := fun e => hne ⟨h1, e⟩
          subst h1
          have hb2 : (yb == xu) = false := beq_eq_false_iff_ne.2 h2
          clear hnb hne HXP HXO
          go_upto_region 7 with fail
          go_quiet (fail)
          rename Nat => nq
          go_wp2_with fail
          go_roundw
          case rel => exact ⟨i + 1, by omega, by go_num, hide (HK.out.trans ((below_drewN wr nq).mono HK.out.size)), HNI2⟩
          case measure => simp [intOf]; omega
        · have hb1 : (ya == xo) = false := beq_eq_false_iff_ne.2 h1
          clear hnb hne
          go_upto_region 7 with fail
          go_quiet (fail)
          rename Nat => nq
          go_wp2_with fail
          go_roundw
          case rel => exact ⟨i + 1, by omega, by go_num, hide (HK.out.trans ((below_drewN wr nq).mono HK.out.size)), HNI2⟩
          case measure => simp [intOf]; omega
    · have hin2 : i = n := by omega
      have hzc : 0 = z := by
        have h1 : x ∉ S.excepts.take n := by rw [← hin2]; exact HNI.out
        have := HZ3.out
        rw [decide_eq_false h1] at this
        exact this
      subst hzc
      have hin' : ¬ (i : Int) < (n : Int) := by omega
      clear hin2
      go_wp2_with fail
      go_ret
      exact ⟨rfl, LW.out _ HK.out⟩
end
end Go.Proofs.YtbdlgglbcaoakaaGreat
