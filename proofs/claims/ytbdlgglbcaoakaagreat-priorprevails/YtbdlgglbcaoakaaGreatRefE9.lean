/- The page's class. -/
import Derived.Test.YtbdlgglbcaoakaaGreatRefD9
import Derived.Deep.RegionHeld3
namespace Go.Proofs.YtbdlgglbcaoakaaGreat
open Go.RowKit Go.Shelf Go.Maps Go.WideMaps

theorem findP_yes {C : Ctx} {s : Bytes} (h : s ∈ C.names) : findPredM C s = .ok (C.preds.getD (posB C.names s) noPred) := by unfold findPredM; rw [findM_yes h]; rfl
theorem findP_no {C : Ctx} {s : Bytes} (h : s ∉ C.names) : findPredM C s = .error 82 := by unfold findPredM; rw [findM_no h]; rfl
theorem findZ_lt {l : List Bytes} {s : Bytes} {i : Nat} (hi : i < l.length) (hs : l.getD i [] = s) : (findZ l s < (i : Int)) ↔ s ∈ l.take i := by
  have hm := take_hit hi hs
  rw [findZ_in hm]
  unfold posB
  rw [if_pos hm]
  constructor
  · intro h
    have h1 : l.idxOf s < i := by omega
    have h2 := List.idxOf_lt_length_of_mem hm
    refine List.mem_iff_getElem.2 ⟨l.idxOf s, by simp; omega, ?_⟩
    rw [List.getElem_take]
    exact List.getElem_idxOf h2
  · intro h
    have h1 := List.idxOf_lt_length_of_mem h
    have h2 : l.idxOf s = (l.take i).idxOf s := by
      conv => lhs; rw [← List.take_append_drop i l]
      rw [List.idxOf_append, if_pos h]
    simp at h1
    omega
section
variable {S : StatM} {st : St9} {w : World}
/-- The page's list of the predicates' names, as the walk takes it. -/
theorem rpredsS {S : StatM} {st : St9} {w : World} (h : SR w.heap.size w S st) (hl : S.preds.length * 24 ≤ 140737488351232) : Calls Tryz.prog 78 #[st.agg] w fun e w' => ∃ xa xc, e = .returned (.slice xa S.preds.length xc) ∧ At1 w' xa (strs S.ctx.names) ∧ Below w.heap.size w w' := by
  refine (rpreds_any h hl).mono ?_
  rintro e w' ⟨v, rfl, hv, hb⟩
  have e1 : (S.preds.map (·.name)).length = S.preds.length := List.length_map _
  rw [e1] at hv
  obtain ⟨xa, xc, rfl⟩ := owns_slice hv
  exact ⟨xa, xc, rfl, owns_at1 (owns_down hv (Nat.zero_le _)), hb⟩
theorem rfindS {w : World} {a : Option Addr} {l : List Bytes} {c n : Nat} (h : At1 w a (strs l)) (hn : l.length = n) (hl : n ≤ 140737488351232) (s : Bytes) :
    Calls Tryz.prog 34 #[.slice a n c, .string ⟨s.toArray⟩] w fun e w' => e = .returned (.int .i64 (findZ l s)) ∧ w' = w := by
  subst hn
  exact rfind_any h hl s
set_option maxRecDepth 100000 in
set_option maxHeartbeats 12800000 in
theorem rclass_any (h : SR w.heap.size w S st) (hl : S.preds.length * 24 ≤ 140737488351232) {n : Nat} {l : List Bytes} (hn : S.classes[n]? = some l) : Calls Tryz.prog 36 #[st.agg, .int .i64 n] w fun e w' => e = .returned (.int .i64 (erc (classM S.ctx (S.classes.take n).flatten l))) ∧ Below w.heap.size w w' := by
  have hlt : n < S.classes.length := (List.getElem?_eq_some_iff.1 hn).1
  have hcl : S.classes.length ≤ 140737488351232 := by obtain ⟨_, _, _, _, h9⟩ := h.classes.form; exact h9
  obtain ⟨tt, ht⟩ := h.title
  obtain ⟨a1, b1, f1, _, _⟩ := h.kinds.form
  obtain ⟨a2, b2, f2, _, _⟩ := h.members.form
  obtain ⟨a3, b3, f3, _, _⟩ := h.preds.form
  obtain ⟨a4, b4, f4, _, _⟩ := h.classes.form
  obtain ⟨a5, b5, f5, _, _⟩ := h.sources.form
  obtain ⟨a6, b6, f6, _, _⟩ := h.rules.form
  obtain ⟨a7, b7, f7, _, _⟩ := h.excepts.form
  obtain ⟨a8, b8, f8, _, _⟩ := h.totals.form
  obtain ⟨s0, s1, s2, s3, s4, s5, s6, s7, s8⟩ := st
  simp only at ht f1 f2 f3 f4 f5 f6 f7 f8
  subst ht f1 f2 f3 f4 f5 f6 f7 f8
  obtain ⟨g, o, ka, kc, rfl, hg, d0, hls⟩ := at_C h.classes hn
  have hll : l.length ≤ 140737488351232 := by obtain ⟨_, _, _, _, h9⟩ := hls.form; exact h9
  have hA : Below w.heap.size w (w.alloc (.cells #[.string tt, .slice a1 S.kinds.length b1, .slice a2 S.members.length b2, .slice a3 S.preds.length b3, .slice (some ⟨g, o, none⟩) S.classes.length b4, .slice a5 S.sources.length b5, .slice a6 S.rules.length b6, .slice a7 S.excepts.length b7, .slice a8 S.totals.length b8] 31)) := (Below.refl _ w).alloc (Nat.le_refl _) _
  have K0 : Hid (Lw w.heap.size S ⟨.string tt, .slice a1 S.kinds.length b1, .slice a2 S.members.length b2, .slice a3 S.preds.length b3, .slice (some ⟨g, o, none⟩) S.classes.length b4, .slice a5 S.sources.length b5, .slice a6 S.rules.length b6, .slice a7 S.excepts.length b7, .slice a8 S.totals.length b8⟩ w (w.alloc (.cells #[.string tt, .slice a1 S.kinds.length b1, .slice a2 S.members.length b2, .slice a3 S.preds.length b3, .slice (some ⟨g, o, none⟩) S.classes.length b4, .slice a5 S.sources.length b5, .slice a6 S.rules.length b6, .slice a7 S.excepts.length b7, .slice a8 S.totals.length b8] 31))) := hide ⟨hA, h.keep fun g hg => hA.block g hg, heap_alloc_new w _⟩
  have HLS := hide hls
  have HCS := hide h.classes
  have HPS := hide h.preds
  have HG := hide hg
  obtain ⟨z, hz⟩ : ∃ z, erc (classM S.ctx (S.classes.take n).flatten l) = z := ⟨_, rfl⟩
  rw [hz]
  have HZ := hide hz
  unfold classM at HZ
  have d1 := (World.cell?_of_block (hA.block g hg)).trans d0
  obtain ⟨H, hH⟩ : ∃ H, H = w.heap.size := ⟨_, rfl⟩
  rw [← hH] at K0 HLS HCS HPS HG ⊢
  have HNL : Hid (S.ctx.names.length = S.preds.length) := hide (List.length_map _)
  clear h hA hn hz hls hg d0
  unfold St9.agg at *
  simp only at *
  obtain ⟨c0, c1, c2, c3, c4, c5, c6, c7, c8, cf⟩ := K0.out.cells
  simp only at c0 c1 c2 c3 c4 c5 c6 c7 c8
  clear cf
  go_enter Tryz.func36, Tryz.ntmps36
  go_upto_region 1 with fail
  rw [← hH]
  clear hH
  go_upto_region 2 with fail
  by_cases h2 : (2 : Int) ≤ (l.length : Int)
  case neg =>
    have hzc := ef HZ.out (by rw [decide_eq_false h2, Bool.false_and])
    subst hzc
    have h2' : (l.length : Int) < 2 := by omega
    go_wp2_with fail
    go_ret
    exact ⟨rfl, K0.out.low⟩
  by_cases h16 : (l.length : Int) ≤ 16
  case neg =>
    have hzc := ef HZ.out (by rw [decide_eq_false h16, Bool.and_false])
    subst hzc
    have h2' : ¬ (l.length : Int) < 2 := by omega
    have h16' : (16 : Int) < (l.length : Int) := by omega
    go_wp2_with fail
    go_ret
    exact ⟨rfl, K0.out.low⟩
  have HZ1 := hide (et HZ.out (by rw [decide_eq_true h2, decide_eq_true h16]; rfl))
  have h2' : ¬ (l.length : Int) < 2 := by omega
  have h16' : ¬ (16 : Int) < (l.length : Int) := by omega
  have hl2 : 2 ≤ l.length := by omega
  clear HZ h2 h16 d1 c0 c1 c2 c3 c4 c5 c6 c7 c8
  generalize (w.alloc (.cells #[.string tt, .slice a1 S.kinds.length b1, .slice a2 S.members.length b2, .slice a3 S.preds.length b3, .slice (some ⟨g, o, none⟩) S.classes.length b4, .slice a5 S.sources.length b5, .slice a6 S.rules.length b6, .slice a7 S.excepts.length b7, .slice a8 S.totals.length b8] 31)) = wb at *
  go_wp2_with fail
  have HSL : Hid (erc (classNamesM S.ctx (l.headD []) ((S.classes.take n).flatten ++ l.take 0) (l.drop 0)) = z) := by
    have := HZ1.out
    rw [List.take_zero, List.append_nil, List.drop_zero]
    exact this
  clear HZ1
  go_loopw [6] (fun x wr => ∃ i : Nat, i ≤ l.length ∧ x = .int .i64 i ∧ Hid (Lw H S ⟨.string tt, .slice a1 S.kinds.length b1, .slice a2 S.members.length b2, .slice a3 S.preds.length b3, .slice (some ⟨g, o, none⟩) S.classes.length b4, .slice a5 S.sources.length b5, .slice a6 S.rules.length b6, .slice a7 S.excepts.length b7, .slice a8 S.totals.length b8⟩ w wr) ∧ Hid (erc (classNamesM S.ctx (l.headD []) ((S.classes.take n).flatten ++ l.take i) (l.drop i)) = z) ∧ Hid (0 < i → l.headD [] ∈ S.ctx.names)) (fun x _ => l.length - (intOf x).toNat)
  case atStart => exact ⟨0, by omega, rfl, K0, HSL, hide (fun h => by omega)⟩
  case round =>
    clear HSL K0
    obtain ⟨i, hi, rfl, K, HZ, HF0⟩ := hrel
    by_cases hil : i < l.length
    case neg =>
      have hi' : i = l.length := by omega
      subst hi'
      have hz1 := HZ.out
      rw [List.drop_length] at hz1
      simp only [classNamesM] at hz1
      have hzc : 0 = z := hz1
      subst hzc
      go_wp2_with fail
      go_ret
      exact ⟨rfl, K.out.low⟩
    obtain ⟨s, hs⟩ : ∃ s, l[i]? = some s := ⟨l[i], List.getElem?_eq_getElem hil⟩
    have hgd : l.getD i [] = s := by rw [List.getD_eq_getElem?_getD, hs]; rfl
    have hz1 := HZ.out
    rw [drop_c hs] at hz1
    simp only [classNamesM] at hz1
    have HTK := hide (take_snoc hs)
    obtain ⟨f0, hf0⟩ : ∃ f0, l[0]? = some f0 := ⟨l[0]'(by omega), List.getElem?_eq_getElem (by omega)⟩
    have hhd : l.headD [] = f0 := by
      cases l with
      | nil => simp at hf0
      | cons a r => simp at hf0 ⊢; exact hf0
    have hgd0 : l.getD 0 [] = f0 := by rw [List.getD_eq_getElem?_getD, hf0]; rfl
    obtain ⟨gl, ol, rfl, -⟩ := (Strs.at1 HLS.out).str hil
    have HA1 : Hid (∀ X, Lw H S ⟨.string tt, .slice a1 S.kinds.length b1, .slice a2 S.members.length b2, .slice a3 S.preds.length b3, .slice (some ⟨g, o, none⟩) S.classes.length b4, .slice a5 S.sources.length b5, .slice a6 S.rules.length b6, .slice a7 S.excepts.length b7, .slice a8 S.totals.length b8⟩ w X → At1 X (some ⟨gl, ol, none⟩) (strs l)) := hide fun X hX => Strs.at1 (Strs.keep (fun g hg => hX.low.block g hg) HLS.out)
    have HLC : Hid (∀ X, Lw H S ⟨.string tt, .slice a1 S.kinds.length b1, .slice a2 S.members.length b2, .slice a3 S.preds.length b3, .slice (some ⟨g, o, none⟩) S.classes.length b4, .slice a5 S.sources.length b5, .slice a6 S.rules.length b6, .slice a7 S.excepts.length b7, .slice a8 S.totals.length b8⟩ w X → X.cell? ⟨gl, ol + i, none⟩ = some (.string ⟨s.toArray⟩) ∧ X.cell? ⟨gl, ol, none⟩ = some (.string ⟨f0.toArray⟩)) := by
      refine hide fun X hX => ?_
      obtain ⟨g1, o1, e1, k1⟩ := (HA1.out X hX).str hil
      obtain ⟨g2, o2, e2, k2⟩ := (HA1.out X hX).str (i := 0) (by omega)
      cases e1
      cases e2
      rw [hgd] at k1
      rw [hgd0, Nat.add_zero] at k2
      exact ⟨k1, k2⟩
    have hfl := (findZ_lt hil hgd)
    clear hs hf0 HZ
    have FS : Hid (∀ X, Lw H S ⟨.string tt, .slice a1 S.kinds.length b1, .slice a2 S.members.length b2, .slice a3 S.preds.length b3, .slice (some ⟨g, o, none⟩) S.classes.length b4, .slice a5 S.sources.length b5, .slice a6 S.rules.length b6, .slice a7 S.excepts.length b7, .slice a8 S.totals.length b8⟩ w X → (fun X : World => X.cell? ⟨H, 0, none⟩ = some (.string tt) ∧ X.cell? ⟨H, 1, none⟩ = some (.slice a1 S.kinds.length b1) ∧ X.cell? ⟨H, 2, none⟩ = some (.slice a2 S.members.length b2) ∧ X.cell? ⟨H, 3, none⟩ = some (.slice a3 S.preds.length b3) ∧ X.cell? ⟨H, 4, none⟩ = some (.slice (some ⟨g, o, none⟩) S.classes.length b4) ∧ X.cell? ⟨H, 5, none⟩ = some (.slice a5 S.sources.length b5) ∧ X.cell? ⟨H, 6, none⟩ = some (.slice a6 S.rules.length b6) ∧ X.cell? ⟨H, 7, none⟩ = some (.slice a7 S.excepts.length b7) ∧ X.cell? ⟨H, 8, none⟩ = some (.slice a8 S.totals.length b8) ∧ X.cell? ⟨gl, ol + i, none⟩ = some (.string ⟨s.toArray⟩) ∧ X.cell? ⟨gl, ol, none⟩ = some (.string ⟨f0.toArray⟩) ∧ Lw H S ⟨.string tt, .slice a1 S.kinds.length b1, .slice a2 S.members.length b2, .slice a3 S.preds.length b3, .slice (some ⟨g, o, none⟩) S.classes.length b4, .slice a5 S.sources.length b5, .slice a6 S.rules.length b6, .slice a7 S.excepts.length b7, .slice a8 S.totals.length b8⟩ w X) X) := hide fun X hX => ⟨cell_of_row X _ 0 _ _ _ hX.box, cell_of_row X _ 1 _ _ _ hX.box, cell_of_row X _ 2 _ _ _ hX.box, cell_of_row X _ 3 _ _ _ hX.box, cell_of_row X _ 4 _ _ _ hX.box, cell_of_row X _ 5 _ _ _ hX.box, cell_of_row X _ 6 _ _ _ hX.box, cell_of_row X _ 7 _ _ _ hX.box, cell_of_row X _ 8 _ _ _ hX.box, (HLC.out X hX).1, (HLC.out X hX).2, hX⟩
    have GS : Hid (∀ X Y, (fun X : World => X.cell? ⟨H, 0, none⟩ = some (.string tt) ∧ X.cell? ⟨H, 1, none⟩ = some (.slice a1 S.kinds.length b1) ∧ X.cell? ⟨H, 2, none⟩ = some (.slice a2 S.members.length b2) ∧ X.cell? ⟨H, 3, none⟩ = some (.slice a3 S.preds.length b3) ∧ X.cell? ⟨H, 4, none⟩ = some (.slice (some ⟨g, o, none⟩) S.classes.length b4) ∧ X.cell? ⟨H, 5, none⟩ = some (.slice a5 S.sources.length b5) ∧ X.cell? ⟨H, 6, none⟩ = some (.slice a6 S.rules.length b6) ∧ X.cell? ⟨H, 7, none⟩ = some (.slice a7 S.excepts.length b7) ∧ X.cell? ⟨H, 8, none⟩ = some (.slice a8 S.totals.length b8) ∧ X.cell? ⟨gl, ol + i, none⟩ = some (.string ⟨s.toArray⟩) ∧ X.cell? ⟨gl, ol, none⟩ = some (.string ⟨f0.toArray⟩) ∧ Lw H S ⟨.string tt, .slice a1 S.kinds.length b1, .slice a2 S.members.length b2, .slice a3 S.preds.length b3, .slice (some ⟨g, o, none⟩) S.classes.length b4, .slice a5 S.sources.length b5, .slice a6 S.rules.length b6, .slice a7 S.excepts.length b7, .slice a8 S.totals.length b8⟩ w X) X → Below X.heap.size X Y → (fun X : World => X.cell? ⟨H, 0, none⟩ = some (.string tt) ∧ X.cell? ⟨H, 1, none⟩ = some (.slice a1 S.kinds.length b1) ∧ X.cell? ⟨H, 2, none⟩ = some (.slice a2 S.members.length b2) ∧ X.cell? ⟨H, 3, none⟩ = some (.slice a3 S.preds.length b3) ∧ X.cell? ⟨H, 4, none⟩ = some (.slice (some ⟨g, o, none⟩) S.classes.length b4) ∧ X.cell? ⟨H, 5, none⟩ = some (.slice a5 S.sources.length b5) ∧ X.cell? ⟨H, 6, none⟩ = some (.slice a6 S.rules.length b6) ∧ X.cell? ⟨H, 7, none⟩ = some (.slice a7 S.excepts.length b7) ∧ X.cell? ⟨H, 8, none⟩ = some (.slice a8 S.totals.length b8) ∧ X.cell? ⟨gl, ol + i, none⟩ = some (.string ⟨s.toArray⟩) ∧ X.cell? ⟨gl, ol, none⟩ = some (.string ⟨f0.toArray⟩) ∧ Lw H S ⟨.string tt, .slice a1 S.kinds.length b1, .slice a2 S.members.length b2, .slice a3 S.preds.length b3, .slice (some ⟨g, o, none⟩) S.classes.length b4, .slice a5 S.sources.length b5, .slice a6 S.rules.length b6, .slice a7 S.excepts.length b7, .slice a8 S.totals.length b8⟩ w X) Y) := hide fun X Y hX hb => FS.out Y (hX.2.2.2.2.2.2.2.2.2.2.2.below hb)
    have CP := hide (fun X (hX : (fun X : World => X.cell? ⟨H, 0, none⟩ = some (.string tt) ∧ X.cell? ⟨H, 1, none⟩ = some (.slice a1 S.kinds.length b1) ∧ X.cell? ⟨H, 2, none⟩ = some (.slice a2 S.members.length b2) ∧ X.cell? ⟨H, 3, none⟩ = some (.slice a3 S.preds.length b3) ∧ X.cell? ⟨H, 4, none⟩ = some (.slice (some ⟨g, o, none⟩) S.classes.length b4) ∧ X.cell? ⟨H, 5, none⟩ = some (.slice a5 S.sources.length b5) ∧ X.cell? ⟨H, 6, none⟩ = some (.slice a6 S.rules.length b6) ∧ X.cell? ⟨H, 7, none⟩ = some (.slice a7 S.excepts.length b7) ∧ X.cell? ⟨H, 8, none⟩ = some (.slice a8 S.totals.length b8) ∧ X.cell? ⟨gl, ol + i, none⟩ = some (.string ⟨s.toArray⟩) ∧ X.cell? ⟨gl, ol, none⟩ = some (.string ⟨f0.toArray⟩) ∧ Lw H S ⟨.string tt, .slice a1 S.kinds.length b1, .slice a2 S.members.length b2, .slice a3 S.preds.length b3, .slice (some ⟨g, o, none⟩) S.classes.length b4, .slice a5 S.sources.length b5, .slice a6 S.rules.length b6, .slice a7 S.excepts.length b7, .slice a8 S.totals.length b8⟩ w X) X) => rpredsS hX.2.2.2.2.2.2.2.2.2.2.2.sr hl)
    unfold St9.agg at CP
    simp only at CP
    have HHD := hide hhd
    rw [HHD.out] at hz1
    have HZ1 := hide hz1
    have HFL := hide hfl
    have HGD := hide hgd
    clear hz1 hhd hgd hgd0 hfl
    go_upto_region 7 with fail
    go_region_held3 (fun X : World => X.cell? ⟨H, 0, none⟩ = some (.string tt) ∧ X.cell? ⟨H, 1, none⟩ = some (.slice a1 S.kinds.length b1) ∧ X.cell? ⟨H, 2, none⟩ = some (.slice a2 S.members.length b2) ∧ X.cell? ⟨H, 3, none⟩ = some (.slice a3 S.preds.length b3) ∧ X.cell? ⟨H, 4, none⟩ = some (.slice (some ⟨g, o, none⟩) S.classes.length b4) ∧ X.cell? ⟨H, 5, none⟩ = some (.slice a5 S.sources.length b5) ∧ X.cell? ⟨H, 6, none⟩ = some (.slice a6 S.rules.length b6) ∧ X.cell? ⟨H, 7, none⟩ = some (.slice a7 S.excepts.length b7) ∧ X.cell? ⟨H, 8, none⟩ = some (.slice a8 S.totals.length b8) ∧ X.cell? ⟨gl, ol + i, none⟩ = some (.string ⟨s.toArray⟩) ∧ X.cell? ⟨gl, ol, none⟩ = some (.string ⟨f0.toArray⟩) ∧ Lw H S ⟨.string tt, .slice a1 S.kinds.length b1, .slice a2 S.members.length b2, .slice a3 S.preds.length b3, .slice (some ⟨g, o, none⟩) S.classes.length b4, .slice a5 S.sources.length b5, .slice a6 S.rules.length b6, .slice a7 S.excepts.length b7, .slice a8 S.totals.length b8⟩ w X) (first | assumption | exact FS.out _ (Lw.drew K.out) | exact GS.out _ _ ‹_› ‹_›) (first | (go_at_call 78; refine (CP.out _ ‹_›).mono ?_; rintro e wa ⟨xa, xc, rfl, hat, hba⟩) | (go_at_call 34; refine (rfindS hat HNL.out (by omega) s).mono ?_; rintro e wx ⟨rfl, hw⟩; subst wx))
    have K1 := hide (K.out.drew.below hba)
    clear hat hba K
    by_cases hm : s ∈ S.ctx.names
    case neg =>
      rw [findZ_out hm]
      have hzc := es HZ1.out (findP_no hm)
      subst hzc
      go_wp2_with fail
      go_ret
      exact ⟨rfl, K1.out.low⟩
    rw [findZ_in hm]
    have HZ2 := hide (eg HZ1.out (findP_yes hm))
    have hpl : posB S.ctx.names s < S.preds.length := by rw [← HNL.out]; exact pos_lt hm
    obtain ⟨p, hp⟩ : ∃ p, S.preds[posB S.ctx.names s]? = some p := ⟨_, List.getElem?_eq_getElem hpl⟩
    have hpd : S.ctx.preds.getD (posB S.ctx.names s) noPred = p := by show S.preds.getD _ noPred = p; rw [List.getD_eq_getElem?_getD, hp]; rfl
    rw [hpd] at HZ2
    have hf0m : f0 ∈ S.ctx.names := by
      rcases Nat.eq_zero_or_pos i with h0 | h0
      · subst h0
        have e1 := (FS.out _ K1.out)
        have e2 := e1.2.2.2.2.2.2.2.2.2.1.symm.trans (show _ = _ from e1.2.2.2.2.2.2.2.2.2.2.1)
        have e3 : s = f0 := str_inj (Option.some.inj e2)
        rw [← e3]; exact hm
      · rw [← HHD.out]; exact HF0.out h0
    have HF1 := hide hf0m
    obtain ⟨gp, op, ka2, kc2, va2, vc2, hpe, hgp, p0, p1, p2, p3, -, hpk, -⟩ := at_P (RR.keep HPS.out (w' := wa) (fun g hg => K1.out.low.block g hg) (fun _ _ h => cPred.keep (fun g hg => K1.out.low.block g hg) h)) hp
    cases hpe
    have hql : posB S.ctx.names f0 < S.preds.length := by rw [← HNL.out]; exact pos_lt hf0m
    obtain ⟨q, hq⟩ : ∃ q, S.preds[posB S.ctx.names f0]? = some q := ⟨_, List.getElem?_eq_getElem hql⟩
    have hqd : S.ctx.preds.getD (posB S.ctx.names f0) noPred = q := by show S.preds.getD _ noPred = q; rw [List.getD_eq_getElem?_getD, hq]; rfl
    have HFQ := hide (findP_yes hf0m)
    rw [hqd] at HFQ
    have HP := hide hp
    have HQ := hide hq
    obtain ⟨c0, c1, c2, c3, c4, c5, c6, c7, c8, cf⟩ := K1.out.cells
    simp only at c0 c1 c2 c3 c4 c5 c6 c7 c8
    clear cf HZ1 hpd hqd hp hq p0 p2 p3 hpk
    generalize posB S.ctx.names s = pn at *
    by_cases hs1 : p.sort = 1
    case neg =>
      have hzc := ef HZ2.out (decide_eq_false hs1)
      subst hzc
      have hb1 : (p.sort == 1) = false := by simpa using hs1
      go_wp2_with fail
      go_ret
      exact ⟨rfl, K1.out.low⟩
    have HZ3 := hide (et HZ2.out (decide_eq_true hs1))
    rw [hs1] at p1
    clear HZ2 hs1
    have h0l : (0 : Int) < (l.length : Int) := by omega
    have h0n : 0 < l.length := by omega
    go_upto_region 12 with fail
    clear c0 c1 c2 c3 c4 c5 c6 c7 c8 p1
    go_region_held3 (fun X : World => X.cell? ⟨H, 0, none⟩ = some (.string tt) ∧ X.cell? ⟨H, 1, none⟩ = some (.slice a1 S.kinds.length b1) ∧ X.cell? ⟨H, 2, none⟩ = some (.slice a2 S.members.length b2) ∧ X.cell? ⟨H, 3, none⟩ = some (.slice (some ⟨gp, op, none⟩) S.preds.length b3) ∧ X.cell? ⟨H, 4, none⟩ = some (.slice (some ⟨g, o, none⟩) S.classes.length b4) ∧ X.cell? ⟨H, 5, none⟩ = some (.slice a5 S.sources.length b5) ∧ X.cell? ⟨H, 6, none⟩ = some (.slice a6 S.rules.length b6) ∧ X.cell? ⟨H, 7, none⟩ = some (.slice a7 S.excepts.length b7) ∧ X.cell? ⟨H, 8, none⟩ = some (.slice a8 S.totals.length b8) ∧ X.cell? ⟨gl, ol + i, none⟩ = some (.string ⟨s.toArray⟩) ∧ X.cell? ⟨gl, ol, none⟩ = some (.string ⟨f0.toArray⟩) ∧ Lw H S ⟨.string tt, .slice a1 S.kinds.length b1, .slice a2 S.members.length b2, .slice (some ⟨gp, op, none⟩) S.preds.length b3, .slice (some ⟨g, o, none⟩) S.classes.length b4, .slice a5 S.sources.length b5, .slice a6 S.rules.length b6, .slice a7 S.excepts.length b7, .slice a8 S.totals.length b8⟩ w X) (first | assumption | exact FS.out _ (Lw.drew K1.out) | exact GS.out _ _ ‹_› ‹_›) (first | (go_at_call 78; refine (CP.out _ ‹_›).mono ?_; rintro e wb2 ⟨xb, xd, rfl, hat, hbb⟩) | (go_at_call 34; refine (rfindS hat HNL.out (by omega) f0).mono ?_; rintro e wx ⟨rfl, hw⟩; subst wx))
    have K2 := hide (K1.out.drew.below hbb)
    rw [findZ_in HF1.out]
    have HZ4 := hide (eg HZ3.out HFQ.out)
    clear hat hbb K1 CP HZ3 HFQ
    generalize posB S.ctx.names f0 = qn at *
    obtain ⟨gp2, op2, ka2, kc2, va2, vc2, hpe, hgp, p0, p1, p2, p3, -, hpk, -⟩ := at_P (RR.keep HPS.out (w' := wb2) (fun g hg => K2.out.low.block g hg) (fun _ _ h => cPred.keep (fun g hg => K2.out.low.block g hg) h)) HP.out
    cases hpe
    obtain ⟨gp3, op3, ka3, kc3, va3, vc3, hpe, hgp3, q0, q1, q2, q3, -, hqk, -⟩ := at_P (RR.keep HPS.out (w' := wb2) (fun g hg => K2.out.low.block g hg) (fun _ _ h => cPred.keep (fun g hg => K2.out.low.block g hg) h)) HQ.out
    cases hpe
    obtain ⟨c0, c1, c2, c3, c4, c5, c6, c7, c8, cf⟩ := K2.out.cells
    simp only at c0 c1 c2 c3 c4 c5 c6 c7 c8
    clear cf p0 p1 p3 q0 q1 q3
    have hpkl : p.kinds.length ≤ 140737488351232 := by obtain ⟨_, _, _, _, h9⟩ := hpk.form; exact h9
    have CS := hide (fun q => rsameNames_any (w := wb2.drewN q) (c := kc2) (d := kc3) ((Lk.refl.drewN q).at1 (Strs.at1 hpk)) ((Lk.refl.drewN q).at1 (Strs.at1 hqk)) hpkl)
    have HAL := hide (HA1.out _ K2.out)
    have HLC2 := hide (HLC.out _ K2.out)
    clear hpk hqk
    cases hkk : decide (p.kinds = q.kinds) with
    | false =>
      have hzc := ef HZ4.out hkk
      subst hzc
      rw [hkk] at CS
      go_upto_region 13 with fail
      go_quiet ((go_at_call 81; exact Calls.quiet_of (CS.out _)))
      rename Nat => nq
      go_wp2_with fail
      go_ret
      exact ⟨rfl, (K2.out.below (below_drewN wb2 nq)).low⟩
    | true =>
      have HZ5 := hide (et HZ4.out hkk)
      rw [hkk] at CS
      clear hkk HZ4
      go_upto_region 13 with fail
      go_quiet ((go_at_call 81; exact Calls.quiet_of (CS.out _)))
      rename Nat => nq
      have K3 := hide (K2.out.below (below_drewN wb2 nq))
      have hle := (HLC.out _ K3.out).1
      have CFL := hide (rfindS (w := wb2.drewN nq) (c := kc) (HA1.out _ K3.out) rfl hll s)
      clear CS c0 c1 c2 c3 c4 c5 c6 c7 c8 p2 q2 HAL HLC2 K2
      generalize wb2.drewN nq = w4 at *
      by_cases hti : s ∈ l.take i
      · have hfz := HFL.out.2 hti
        have hzc := ef HZ5.out (by rw [decide_eq_true (List.mem_append.2 (.inr hti))]; rfl)
        subst hzc
        generalize findZ l s = fz at *
        go_wp2_with (first | (go_at_call 34; refine CFL.out.mono ?_; rintro _ wx ⟨rfl, hw⟩; subst wx))
        go_ret
        exact ⟨rfl, K3.out.low⟩
      have hfz : ¬ findZ l s < (i : Int) := fun hh => hti (HFL.out.1 hh)
      have HTI := hide hti
      have HK4 := hide K3.out
      generalize findZ l s = fz at *
      clear hti
      go_wp2_with (first | (go_at_call 34; refine CFL.out.mono ?_; rintro _ wx ⟨rfl, hw⟩; subst wx))
      clear CFL hle hfz HFL
      go_loopw [9] (fun x wr => ∃ k : Nat, k ≤ n ∧ x = .int .i64 k ∧ Hid (Lk w4 wr) ∧ Hid (s ∉ (S.classes.take k).flatten)) (fun x _ => n - (intOf x).toNat)
      case atStart => exact ⟨0, by omega, rfl, hide .of, hide (by simp)⟩
      case round =>
        obtain ⟨k, hk, rfl, HLK, HNF⟩ := hrel
        have K5 := hide (HK4.out.below HLK.out.below)
        by_cases hkn : k < n
        · obtain ⟨lk, hlk⟩ : ∃ lk, S.classes[k]? = some lk := ⟨S.classes[k]'(by omega), List.getElem?_eq_getElem (by omega)⟩
          obtain ⟨gk, ok, ka4, kc4, hge, hgk, d4, hlks⟩ := at_C (RR.keep HCS.out (w' := wr) (fun g hg => K5.out.low.block g hg) (fun _ _ h => cClass.keep (fun g hg => K5.out.low.block g hg) h)) hlk
          cases hge
          have hlkl : lk.length ≤ 140737488351232 := by obtain ⟨_, _, _, _, h9⟩ := hlks.form; exact h9
          have CF := hide (fun q => rfindS (w := wr.drewN q) (c := kc4) ((Lk.refl.drewN q).at1 (Strs.at1 hlks)) rfl hlkl s)
          have hle := (HLC.out _ K5.out).1
          obtain ⟨c0, c1, c2, c3, c4, c5, c6, c7, c8, cf⟩ := K5.out.cells
          simp only at c0 c1 c2 c3 c4 c5 c6 c7 c8
          clear cf
          have hfs : (S.classes.take (k + 1)).flatten = (S.classes.take k).flatten ++ lk := by rw [take_snoc hlk, List.flatten_append]; simp
          have hsub : lk.Sublist (S.classes.take n).flatten := by
            have : (S.classes.take (k + 1)).flatten.Sublist (S.classes.take n).flatten := by
              have h1 : S.classes.take n = S.classes.take (k + 1) ++ (S.classes.take n).drop (k + 1) := by
                conv => lhs; rw [← List.take_append_drop (k + 1) (S.classes.take n)]
                rw [List.take_take, Nat.min_eq_left (by omega)]
              rw [h1, List.flatten_append]
              exact List.sublist_append_left _ _
            rw [hfs] at this
            exact (List.sublist_append_right _ _).trans this
          by_cases hmk : s ∈ lk
          · rw [findZ_in hmk] at CF
            have hzc := ef HZ5.out (by rw [decide_eq_true (List.mem_append.2 (.inl (hsub.subset hmk)))]; rfl)
            subst hzc
            clear hlk hmk hfs hsub hlks
            go_upto_region 20 with fail
            go_quiet ((go_at_call 34; exact Calls.quiet_of_same (CF.out _)))
            rename Nat => nq2
            go_wp2_with fail
            go_ret
            exact ⟨rfl, (K5.out.below (below_drewN wr nq2)).low⟩
          · rw [findZ_out hmk] at CF
            have HNF2 : Hid (s ∉ (S.classes.take (k + 1)).flatten) := by
              refine hide ?_
              rw [hfs]
              intro hh
              rcases List.mem_append.1 hh with hh | hh
              · exact HNF.out hh
              · exact hmk hh
            clear hlk hmk hfs hsub hlks
            go_upto_region 20 with fail
            go_quiet ((go_at_call 34; exact Calls.quiet_of_same (CF.out _)))
            rename Nat => nq2
            go_wp2_with fail
            go_roundw
            case rel => exact ⟨k + 1, by omega, by go_num, hide (HLK.out.drewN nq2), HNF2⟩
            case measure => simp [intOf]; omega
        · have hkn' : k = n := by omega
          subst hkn'
          have HZ6 : Hid (erc (classNamesM S.ctx (l.headD []) ((S.classes.take k).flatten ++ l.take (i + 1)) (l.drop (i + 1))) = z) := by
            have h6 := et HZ5.out (by rw [decide_eq_false (fun hh => by rcases List.mem_append.1 hh with hh | hh; exact HNF.out hh; exact HTI.out hh)]; rfl)
            rw [HTK.out, ← List.append_assoc, HHD.out]
            exact h6
          go_wp2_with fail
          go_roundw
          case rel => exact ⟨i + 1, by omega, by go_num, K5, HZ6, hide (fun _ => by rw [HHD.out]; exact HF1.out)⟩
          case measure => simp [intOf]; omega
end
end Go.Proofs.YtbdlgglbcaoakaaGreat
