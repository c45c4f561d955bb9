/- The law's fits, walked. -/
import Derived.Test.YtfnobccminhjpaaFitM9
import Derived.Test.YtfnobccminhjpaaWork9
import Derived.Deep.RegionHeld3
namespace Go.Proofs.Ytfnobccminhjpaa
open Go.RowKit Go.Shelf Go.Maps Go.WideMaps

/-- What fits holds: the statute in a box at block H, the literal in a box behind it, names and kinds. -/
structure Fw (w : World) (S : StatM) (st : St9) (v : Scope) (nv kv : Value) (l : LitM) (av : Value) (w' : World) : Prop where
  low : Below w.heap.size w w'
  rep : SR w.heap.size w' S st
  box : w'.heap[w.heap.size]? = some (.cells #[st.title, st.kinds, st.members, st.preds, st.classes, st.sources, st.rules, st.excepts, st.totals] 31 (0, 0))
  lit : w'.heap[w.heap.size + 1]? = some (.cells #[.bool l.neg, str l.pred, av, .bool l.hasValue, .int .i64 l.value] 46 (0, 0))
  args : Strs w.heap.size w' l.args av
  names : w'.ownsRow 0 9 1 nv v.length (strs v.names)
  kinds : w'.ownsRow 0 3 1 kv v.length (ints v.kinds)
section
variable {w w' w'' : World} {S : StatM} {st : St9} {v : Scope} {nv kv : Value} {l : LitM} {av : Value}
theorem Fw.below (h : Fw w S st v nv kv l av w') (hb : Below w'.heap.size w' w'') : Fw w S st v nv kv l av w'' := by
  have h1 := loc_lt h.box
  have h2 := loc_lt h.lit
  exact ⟨h.low.trans (hb.mono h.low.size), h.rep.keep fun g hg => hb.block g (by omega), (hb.block _ h1).trans h.box, (hb.block _ h2).trans h.lit, h.args.keep fun g hg => hb.block g (by omega), owns_keep h.names fun g hg => hb.block g (owns_lt h.names hg), owns_keep h.kinds fun g hg => hb.block g (owns_lt h.kinds hg)⟩
theorem Fw.cell (h : Fw w S st v nv kv l av w') {g i : Nat} {u : Value} (hg : g < w.heap.size) (hw : w.cell? ⟨g, i, none⟩ = some u) : w'.cell? ⟨g, i, none⟩ = some u := (World.cell?_of_block (h.low.block g hg)).trans hw
theorem Fw.drew (h : Fw w S st v nv kv l av w') : Fw w S st v nv kv l av w'.drew := h.below ⟨rfl, rfl, rfl, Nat.le_refl _, fun _ _ => rfl⟩
theorem Fw.sr (h : Fw w S st v nv kv l av w') : SR w'.heap.size w' S st := SR.mono (by have := loc_lt h.box; omega) h.rep
end
section
variable {w : World} {S : StatM} {st : St9} {v : Scope} {nv kv : Value} {l : LitM} {av : Value}
set_option maxRecDepth 100000 in
set_option maxHeartbeats 12800000 in
theorem fits_any (h : SR w.heap.size w S st) (h1 : S.kinds.length ≤ 4096) (h2 : S.members.length ≤ 4096) (h3 : S.preds.length ≤ 4096) (hnv : w.ownsRow 0 9 1 nv v.length (strs v.names)) (hkv : w.ownsRow 0 3 1 kv v.length (ints v.kinds)) (hv : v.length ≤ 4096) (hp : l.pred.length ≤ maxLen) (hav : Strs w.heap.size w l.args av) :
    Calls Try.prog 8 #[st.agg, nv, kv, .agg #[.bool l.neg, str l.pred, av, .bool l.hasValue, .int .i64 l.value]] w fun e w' => e = .returned (.bool (fitsM S.ctx v l)) ∧ Below w.heap.size w w' := by
  obtain ⟨tt, ht⟩ := h.title
  obtain ⟨a1, b1, f1, _, _⟩ := h.kinds.form
  obtain ⟨a2, b2, f2, _, _⟩ := h.members.form
  obtain ⟨a3, b3, f3, _, _⟩ := h.preds.form
  obtain ⟨a4, b4, f4, _, _⟩ := h.classes.form
  obtain ⟨a5, b5, f5, _, _⟩ := h.sources.form
  obtain ⟨a6, b6, f6, _, _⟩ := h.rules.form
  obtain ⟨a7, b7, f7, _, _⟩ := h.excepts.form
  obtain ⟨a8, b8, f8, _, _⟩ := h.totals.form
  obtain ⟨xa, xc, f9, _, m9⟩ := hav.form
  obtain ⟨s0, s1, s2, s3, s4, s5, s6, s7, s8⟩ := st
  simp only at ht f1 f2 f3 f4 f5 f6 f7 f8
  subst ht f1 f2 f3 f4 f5 f6 f7 f8 f9
  have hA : Below w.heap.size w (w.alloc (.cells #[.string tt, .slice a1 S.kinds.length b1, .slice a2 S.members.length b2, .slice a3 S.preds.length b3, .slice a4 S.classes.length b4, .slice a5 S.sources.length b5, .slice a6 S.rules.length b6, .slice a7 S.excepts.length b7, .slice a8 S.totals.length b8] 31)) := (Below.refl _ w).alloc (Nat.le_refl _) _
  have hA2 : Below w.heap.size w ((w.alloc (.cells #[.string tt, .slice a1 S.kinds.length b1, .slice a2 S.members.length b2, .slice a3 S.preds.length b3, .slice a4 S.classes.length b4, .slice a5 S.sources.length b5, .slice a6 S.rules.length b6, .slice a7 S.excepts.length b7, .slice a8 S.totals.length b8] 31)).alloc (.cells #[.bool l.neg, .string ⟨l.pred.toArray⟩, .slice xa l.args.length xc, .bool l.hasValue, .int .i64 l.value] 46)) := hA.alloc hA.size _
  have hbx : ((w.alloc (.cells #[.string tt, .slice a1 S.kinds.length b1, .slice a2 S.members.length b2, .slice a3 S.preds.length b3, .slice a4 S.classes.length b4, .slice a5 S.sources.length b5, .slice a6 S.rules.length b6, .slice a7 S.excepts.length b7, .slice a8 S.totals.length b8] 31)).alloc (.cells #[.bool l.neg, .string ⟨l.pred.toArray⟩, .slice xa l.args.length xc, .bool l.hasValue, .int .i64 l.value] 46)).heap[w.heap.size]? = some (.cells #[.string tt, .slice a1 S.kinds.length b1, .slice a2 S.members.length b2, .slice a3 S.preds.length b3, .slice a4 S.classes.length b4, .slice a5 S.sources.length b5, .slice a6 S.rules.length b6, .slice a7 S.excepts.length b7, .slice a8 S.totals.length b8] 31 (0, 0)) := (Below.heap_alloc _ _ _ (by simp)).trans (heap_alloc_new w _)
  have hlx : ((w.alloc (.cells #[.string tt, .slice a1 S.kinds.length b1, .slice a2 S.members.length b2, .slice a3 S.preds.length b3, .slice a4 S.classes.length b4, .slice a5 S.sources.length b5, .slice a6 S.rules.length b6, .slice a7 S.excepts.length b7, .slice a8 S.totals.length b8] 31)).alloc (.cells #[.bool l.neg, .string ⟨l.pred.toArray⟩, .slice xa l.args.length xc, .bool l.hasValue, .int .i64 l.value] 46)).heap[w.heap.size + 1]? = some (.cells #[.bool l.neg, .string ⟨l.pred.toArray⟩, .slice xa l.args.length xc, .bool l.hasValue, .int .i64 l.value] 46 (0, 0)) := heap_at (by simp)
  have K0 : Hid (Fw w S ⟨.string tt, .slice a1 S.kinds.length b1, .slice a2 S.members.length b2, .slice a3 S.preds.length b3, .slice a4 S.classes.length b4, .slice a5 S.sources.length b5, .slice a6 S.rules.length b6, .slice a7 S.excepts.length b7, .slice a8 S.totals.length b8⟩ v nv kv l (.slice xa l.args.length xc) ((w.alloc (.cells #[.string tt, .slice a1 S.kinds.length b1, .slice a2 S.members.length b2, .slice a3 S.preds.length b3, .slice a4 S.classes.length b4, .slice a5 S.sources.length b5, .slice a6 S.rules.length b6, .slice a7 S.excepts.length b7, .slice a8 S.totals.length b8] 31)).alloc (.cells #[.bool l.neg, .string ⟨l.pred.toArray⟩, .slice xa l.args.length xc, .bool l.hasValue, .int .i64 l.value] 46))) := hide ⟨hA2, h.keep fun g hg => hA2.block g hg, hbx, hlx, hav.keep fun g hg => hA2.block g hg, owns_keep hnv fun g hg => hA2.block g (owns_lt hnv hg), owns_keep hkv fun g hg => hA2.block g (owns_lt hkv hg)⟩
  have HR := hide h
  have HAV := hide hav
  have HNV := hide hnv
  have HKV := hide hkv
  obtain ⟨na, nc, en⟩ := owns_slice hnv
  obtain ⟨ka, kc, ek⟩ := owns_slice hkv
  subst en
  subst ek
  have CP := hide (pred_asks K0.out.sr h3 l.pred hp)
  clear hA hA2 hbx hlx h hav hnv hkv
  unfold St9.agg str at CP ⊢
  simp only at CP ⊢
  obtain ⟨o, ho⟩ : ∃ o, fitsM S.ctx v l = o := ⟨_, rfl⟩
  rw [ho]
  have HO := hide ho
  clear ho
  obtain ⟨H, hH⟩ : ∃ H, H = w.heap.size := ⟨_, rfl⟩
  go_enter Try.func8, Try.ntmps8
  go_upto_region 2 with (first | (go_at_call 19; refine CP.out.mono ?_; rintro _ w1 ⟨rfl, hw1⟩; have K1 := hide (K0.out.below hw1); clear hw1 CP K0))
  by_cases hin : l.pred ∈ S.ctx.names
  case neg =>
    have ho : o = false := by rw [← HO.out]; unfold fitsM; rw [decide_eq_false hin, Bool.false_and]
    subst ho
    rw [decide_eq_false hin]
    go_region
    go_wp2_with fail
    go_ret
    exact ⟨rfl, K1.out.drew.low⟩
  have hlp : posB S.ctx.names l.pred < S.preds.length := by have h9 := posB_lt hin; have hln : S.ctx.names.length = S.preds.length := (by unfold Ctx.names StatM.ctx; simp); rw [hln] at h9; exact h9
  obtain ⟨pd, hpd⟩ : ∃ pd, S.preds[posB S.ctx.names l.pred]? = some pd := ⟨_, List.getElem?_eq_getElem hlp⟩
  have hgd : S.ctx.preds.getD (posB S.ctx.names l.pred) noPred = pd := by rw [List.getD_eq_getElem?_getD]; show (S.preds[posB S.ctx.names l.pred]?).getD noPred = pd; rw [hpd]; rfl
  unfold fitsM at HO
  rw [decide_eq_true hin, Bool.true_and, hgd] at HO
  rw [decide_eq_true hin]
  clear hgd hin
  generalize posB S.ctx.names l.pred = p at *
  obtain ⟨pg, po, qa, qc, va, vc, e3, hpg, -, -, D2, -, -, HQ, -⟩ := at_P HR.out.preds hpd
  cases e3
  have HQH := hide HQ
  have HD2 := hide D2
  have HPG := hide hpg
  have x3 := cell_of_row w1 w.heap.size 3 _ _ _ K1.out.box
  have y2 := cell_of_row w1 (w.heap.size + 1) 2 _ _ _ K1.out.lit
  have d2 := K1.out.cell hpg D2
  simp only [List.getElem?_toArray, List.getElem?_cons_zero, List.getElem?_cons_succ] at x3 y2
  have m10 : pd.kinds.length ≤ 140737488351232 := by obtain ⟨_, _, _, _, h⟩ := HQ.form; exact h
  clear hpd HQ D2 hpg
  by_cases hle : pd.kinds.length = l.args.length
  case neg =>
    have ho : o = false := by rw [← HO.out, decide_eq_false hle, Bool.false_and]
    subst ho
    have hbq : ((pd.kinds.length : Int) == (l.args.length : Int)) = false := by simp; omega
    go_region
    go_wp2_with fail
    go_ret
    exact ⟨rfl, K1.out.drew.low⟩
  rw [decide_eq_true hle, Bool.true_and] at HO
  rw [hle] at d2
  go_region
  have K2 := hide K1.out.drew
  generalize w1.drew = w2 at *
  clear x3 y2 d2 K1
  go_wp2_with fail
  go_loopw [11] (fun x wr => ∃ i : Nat, i ≤ l.args.length ∧ x = .int .i64 i ∧ Hid (Fw w S ⟨.string tt, .slice a1 S.kinds.length b1, .slice a2 S.members.length b2, .slice (some ⟨pg, po, none⟩) S.preds.length b3, .slice a4 S.classes.length b4, .slice a5 S.sources.length b5, .slice a6 S.rules.length b6, .slice a7 S.excepts.length b7, .slice a8 S.totals.length b8⟩ v (.slice na v.length nc) (.slice ka v.length kc) l (.slice xa l.args.length xc) wr) ∧ Hid (fitA S.ctx v (l.args.drop i) (pd.kinds.drop i) = o)) (fun x _ => l.args.length - (intOf x).toNat)
  case atStart => exact ⟨0, by omega, rfl, K2, HO⟩
  case round =>
    clear K2 HO
    obtain ⟨i, hi, rfl, K, HO⟩ := hrel
    have y2 := cell_of_row wr (w.heap.size + 1) 2 _ _ _ K.out.lit
    simp only [List.getElem?_toArray, List.getElem?_cons_zero, List.getElem?_cons_succ] at y2
    by_cases hlt : i < l.args.length
    case neg =>
      have ho : o = true := by rw [← HO.out, List.drop_of_length_le (by omega)]; unfold fitA; rfl
      subst ho
      go_wp2_with fail
      go_ret
      exact ⟨rfl, K.out.low⟩
    obtain ⟨a, ha⟩ : ∃ a, l.args[i]? = some a := ⟨_, List.getElem?_eq_getElem hlt⟩
    obtain ⟨k, hk⟩ : ∃ k, pd.kinds[i]? = some k := ⟨_, List.getElem?_eq_getElem (by omega)⟩
    obtain ⟨xg, xo, ex, hxg, DA, hsa⟩ := at_S HAV.out ha
    obtain ⟨qg, qo, eq, hqg, DK, hsk⟩ := at_S HQH.out hk
    cases ex
    cases eq
    go_upto_region 7 with fail
    unfold str at DK DA
    have CK := hide (fun X (hX : (fun X : World => X.cell? ⟨w.heap.size, 0, none⟩ = some (.string tt) ∧ X.cell? ⟨w.heap.size, 1, none⟩ = some (.slice a1 S.kinds.length b1) ∧ X.cell? ⟨w.heap.size, 2, none⟩ = some (.slice a2 S.members.length b2) ∧ X.cell? ⟨w.heap.size, 3, none⟩ = some (.slice (some ⟨pg, po, none⟩) S.preds.length b3) ∧ X.cell? ⟨w.heap.size, 4, none⟩ = some (.slice a4 S.classes.length b4) ∧ X.cell? ⟨w.heap.size, 5, none⟩ = some (.slice a5 S.sources.length b5) ∧ X.cell? ⟨w.heap.size, 6, none⟩ = some (.slice a6 S.rules.length b6) ∧ X.cell? ⟨w.heap.size, 7, none⟩ = some (.slice a7 S.excepts.length b7) ∧ X.cell? ⟨w.heap.size, 8, none⟩ = some (.slice a8 S.totals.length b8) ∧ X.cell? ⟨pg, po + p * 4 + 2, none⟩ = some (.slice (some ⟨qg, qo, none⟩) pd.kinds.length qc) ∧ X.cell? ⟨qg, qo + i, none⟩ = some (.string ⟨k.toArray⟩) ∧ Fw w S ⟨.string tt, .slice a1 S.kinds.length b1, .slice a2 S.members.length b2, .slice (some ⟨pg, po, none⟩) S.preds.length b3, .slice a4 S.classes.length b4, .slice a5 S.sources.length b5, .slice a6 S.rules.length b6, .slice a7 S.excepts.length b7, .slice a8 S.totals.length b8⟩ v (.slice na v.length nc) (.slice ka v.length kc) l (.slice (some ⟨xg, xo, none⟩) l.args.length xc) X) X) => kind_asks hX.2.2.2.2.2.2.2.2.2.2.2.sr h1 k hsk)
    unfold St9.agg str at CK
    simp only at CK
    have F7H : Hid (∀ X, Fw w S ⟨.string tt, .slice a1 S.kinds.length b1, .slice a2 S.members.length b2, .slice (some ⟨pg, po, none⟩) S.preds.length b3, .slice a4 S.classes.length b4, .slice a5 S.sources.length b5, .slice a6 S.rules.length b6, .slice a7 S.excepts.length b7, .slice a8 S.totals.length b8⟩ v (.slice na v.length nc) (.slice ka v.length kc) l (.slice (some ⟨xg, xo, none⟩) l.args.length xc) X → (fun X : World => X.cell? ⟨w.heap.size, 0, none⟩ = some (.string tt) ∧ X.cell? ⟨w.heap.size, 1, none⟩ = some (.slice a1 S.kinds.length b1) ∧ X.cell? ⟨w.heap.size, 2, none⟩ = some (.slice a2 S.members.length b2) ∧ X.cell? ⟨w.heap.size, 3, none⟩ = some (.slice (some ⟨pg, po, none⟩) S.preds.length b3) ∧ X.cell? ⟨w.heap.size, 4, none⟩ = some (.slice a4 S.classes.length b4) ∧ X.cell? ⟨w.heap.size, 5, none⟩ = some (.slice a5 S.sources.length b5) ∧ X.cell? ⟨w.heap.size, 6, none⟩ = some (.slice a6 S.rules.length b6) ∧ X.cell? ⟨w.heap.size, 7, none⟩ = some (.slice a7 S.excepts.length b7) ∧ X.cell? ⟨w.heap.size, 8, none⟩ = some (.slice a8 S.totals.length b8) ∧ X.cell? ⟨pg, po + p * 4 + 2, none⟩ = some (.slice (some ⟨qg, qo, none⟩) pd.kinds.length qc) ∧ X.cell? ⟨qg, qo + i, none⟩ = some (.string ⟨k.toArray⟩) ∧ Fw w S ⟨.string tt, .slice a1 S.kinds.length b1, .slice a2 S.members.length b2, .slice (some ⟨pg, po, none⟩) S.preds.length b3, .slice a4 S.classes.length b4, .slice a5 S.sources.length b5, .slice a6 S.rules.length b6, .slice a7 S.excepts.length b7, .slice a8 S.totals.length b8⟩ v (.slice na v.length nc) (.slice ka v.length kc) l (.slice (some ⟨xg, xo, none⟩) l.args.length xc) X) X) := hide fun X hX => ⟨cell_of_row X _ 0 _ _ _ hX.box, cell_of_row X _ 1 _ _ _ hX.box, cell_of_row X _ 2 _ _ _ hX.box, cell_of_row X _ 3 _ _ _ hX.box, cell_of_row X _ 4 _ _ _ hX.box, cell_of_row X _ 5 _ _ _ hX.box, cell_of_row X _ 6 _ _ _ hX.box, cell_of_row X _ 7 _ _ _ hX.box, cell_of_row X _ 8 _ _ _ hX.box, hX.cell HPG.out HD2.out, hX.cell hqg DK, hX⟩
    have G7H : Hid (∀ X Y, (fun X : World => X.cell? ⟨w.heap.size, 0, none⟩ = some (.string tt) ∧ X.cell? ⟨w.heap.size, 1, none⟩ = some (.slice a1 S.kinds.length b1) ∧ X.cell? ⟨w.heap.size, 2, none⟩ = some (.slice a2 S.members.length b2) ∧ X.cell? ⟨w.heap.size, 3, none⟩ = some (.slice (some ⟨pg, po, none⟩) S.preds.length b3) ∧ X.cell? ⟨w.heap.size, 4, none⟩ = some (.slice a4 S.classes.length b4) ∧ X.cell? ⟨w.heap.size, 5, none⟩ = some (.slice a5 S.sources.length b5) ∧ X.cell? ⟨w.heap.size, 6, none⟩ = some (.slice a6 S.rules.length b6) ∧ X.cell? ⟨w.heap.size, 7, none⟩ = some (.slice a7 S.excepts.length b7) ∧ X.cell? ⟨w.heap.size, 8, none⟩ = some (.slice a8 S.totals.length b8) ∧ X.cell? ⟨pg, po + p * 4 + 2, none⟩ = some (.slice (some ⟨qg, qo, none⟩) pd.kinds.length qc) ∧ X.cell? ⟨qg, qo + i, none⟩ = some (.string ⟨k.toArray⟩) ∧ Fw w S ⟨.string tt, .slice a1 S.kinds.length b1, .slice a2 S.members.length b2, .slice (some ⟨pg, po, none⟩) S.preds.length b3, .slice a4 S.classes.length b4, .slice a5 S.sources.length b5, .slice a6 S.rules.length b6, .slice a7 S.excepts.length b7, .slice a8 S.totals.length b8⟩ v (.slice na v.length nc) (.slice ka v.length kc) l (.slice (some ⟨xg, xo, none⟩) l.args.length xc) X) X → Below X.heap.size X Y → (fun X : World => X.cell? ⟨w.heap.size, 0, none⟩ = some (.string tt) ∧ X.cell? ⟨w.heap.size, 1, none⟩ = some (.slice a1 S.kinds.length b1) ∧ X.cell? ⟨w.heap.size, 2, none⟩ = some (.slice a2 S.members.length b2) ∧ X.cell? ⟨w.heap.size, 3, none⟩ = some (.slice (some ⟨pg, po, none⟩) S.preds.length b3) ∧ X.cell? ⟨w.heap.size, 4, none⟩ = some (.slice a4 S.classes.length b4) ∧ X.cell? ⟨w.heap.size, 5, none⟩ = some (.slice a5 S.sources.length b5) ∧ X.cell? ⟨w.heap.size, 6, none⟩ = some (.slice a6 S.rules.length b6) ∧ X.cell? ⟨w.heap.size, 7, none⟩ = some (.slice a7 S.excepts.length b7) ∧ X.cell? ⟨w.heap.size, 8, none⟩ = some (.slice a8 S.totals.length b8) ∧ X.cell? ⟨pg, po + p * 4 + 2, none⟩ = some (.slice (some ⟨qg, qo, none⟩) pd.kinds.length qc) ∧ X.cell? ⟨qg, qo + i, none⟩ = some (.string ⟨k.toArray⟩) ∧ Fw w S ⟨.string tt, .slice a1 S.kinds.length b1, .slice a2 S.members.length b2, .slice (some ⟨pg, po, none⟩) S.preds.length b3, .slice a4 S.classes.length b4, .slice a5 S.sources.length b5, .slice a6 S.rules.length b6, .slice a7 S.excepts.length b7, .slice a8 S.totals.length b8⟩ v (.slice na v.length nc) (.slice ka v.length kc) l (.slice (some ⟨xg, xo, none⟩) l.args.length xc) X) Y) := hide fun X Y hX hb => F7H.out Y (hX.2.2.2.2.2.2.2.2.2.2.2.below hb)
    go_region_held3 (fun X : World => X.cell? ⟨w.heap.size, 0, none⟩ = some (.string tt) ∧ X.cell? ⟨w.heap.size, 1, none⟩ = some (.slice a1 S.kinds.length b1) ∧ X.cell? ⟨w.heap.size, 2, none⟩ = some (.slice a2 S.members.length b2) ∧ X.cell? ⟨w.heap.size, 3, none⟩ = some (.slice (some ⟨pg, po, none⟩) S.preds.length b3) ∧ X.cell? ⟨w.heap.size, 4, none⟩ = some (.slice a4 S.classes.length b4) ∧ X.cell? ⟨w.heap.size, 5, none⟩ = some (.slice a5 S.sources.length b5) ∧ X.cell? ⟨w.heap.size, 6, none⟩ = some (.slice a6 S.rules.length b6) ∧ X.cell? ⟨w.heap.size, 7, none⟩ = some (.slice a7 S.excepts.length b7) ∧ X.cell? ⟨w.heap.size, 8, none⟩ = some (.slice a8 S.totals.length b8) ∧ X.cell? ⟨pg, po + p * 4 + 2, none⟩ = some (.slice (some ⟨qg, qo, none⟩) pd.kinds.length qc) ∧ X.cell? ⟨qg, qo + i, none⟩ = some (.string ⟨k.toArray⟩) ∧ Fw w S ⟨.string tt, .slice a1 S.kinds.length b1, .slice a2 S.members.length b2, .slice (some ⟨pg, po, none⟩) S.preds.length b3, .slice a4 S.classes.length b4, .slice a5 S.sources.length b5, .slice a6 S.rules.length b6, .slice a7 S.excepts.length b7, .slice a8 S.totals.length b8⟩ v (.slice na v.length nc) (.slice ka v.length kc) l (.slice (some ⟨xg, xo, none⟩) l.args.length xc) X) (first | assumption | exact F7H.out _ (Fw.drew K.out) | exact G7H.out _ _ ‹_› ‹_›) (first | (go_at_call 20; refine (CK.out _ ‹_›).mono ?_; rintro e w7 ⟨rfl, hb9⟩))
    have Kw7 := hide (K.out.drew.below hb9)
    clear CK F7H G7H hb9
    clear K y2
    go_upto_region 8 with fail
    have CK := hide (fun X (hX : (fun X : World => X.cell? ⟨w.heap.size, 0, none⟩ = some (.string tt) ∧ X.cell? ⟨w.heap.size, 1, none⟩ = some (.slice a1 S.kinds.length b1) ∧ X.cell? ⟨w.heap.size, 2, none⟩ = some (.slice a2 S.members.length b2) ∧ X.cell? ⟨w.heap.size, 3, none⟩ = some (.slice (some ⟨pg, po, none⟩) S.preds.length b3) ∧ X.cell? ⟨w.heap.size, 4, none⟩ = some (.slice a4 S.classes.length b4) ∧ X.cell? ⟨w.heap.size, 5, none⟩ = some (.slice a5 S.sources.length b5) ∧ X.cell? ⟨w.heap.size, 6, none⟩ = some (.slice a6 S.rules.length b6) ∧ X.cell? ⟨w.heap.size, 7, none⟩ = some (.slice a7 S.excepts.length b7) ∧ X.cell? ⟨w.heap.size, 8, none⟩ = some (.slice a8 S.totals.length b8) ∧ X.cell? ⟨w.heap.size + 1, 2, none⟩ = some (.slice (some ⟨xg, xo, none⟩) l.args.length xc) ∧ X.cell? ⟨xg, xo + i, none⟩ = some (.string ⟨a.toArray⟩) ∧ Fw w S ⟨.string tt, .slice a1 S.kinds.length b1, .slice a2 S.members.length b2, .slice (some ⟨pg, po, none⟩) S.preds.length b3, .slice a4 S.classes.length b4, .slice a5 S.sources.length b5, .slice a6 S.rules.length b6, .slice a7 S.excepts.length b7, .slice a8 S.totals.length b8⟩ v (.slice na v.length nc) (.slice ka v.length kc) l (.slice (some ⟨xg, xo, none⟩) l.args.length xc) X) X) => member_asks hX.2.2.2.2.2.2.2.2.2.2.2.sr h2 a hsa)
    unfold St9.agg str at CK
    simp only at CK
    have F7H : Hid (∀ X, Fw w S ⟨.string tt, .slice a1 S.kinds.length b1, .slice a2 S.members.length b2, .slice (some ⟨pg, po, none⟩) S.preds.length b3, .slice a4 S.classes.length b4, .slice a5 S.sources.length b5, .slice a6 S.rules.length b6, .slice a7 S.excepts.length b7, .slice a8 S.totals.length b8⟩ v (.slice na v.length nc) (.slice ka v.length kc) l (.slice (some ⟨xg, xo, none⟩) l.args.length xc) X → (fun X : World => X.cell? ⟨w.heap.size, 0, none⟩ = some (.string tt) ∧ X.cell? ⟨w.heap.size, 1, none⟩ = some (.slice a1 S.kinds.length b1) ∧ X.cell? ⟨w.heap.size, 2, none⟩ = some (.slice a2 S.members.length b2) ∧ X.cell? ⟨w.heap.size, 3, none⟩ = some (.slice (some ⟨pg, po, none⟩) S.preds.length b3) ∧ X.cell? ⟨w.heap.size, 4, none⟩ = some (.slice a4 S.classes.length b4) ∧ X.cell? ⟨w.heap.size, 5, none⟩ = some (.slice a5 S.sources.length b5) ∧ X.cell? ⟨w.heap.size, 6, none⟩ = some (.slice a6 S.rules.length b6) ∧ X.cell? ⟨w.heap.size, 7, none⟩ = some (.slice a7 S.excepts.length b7) ∧ X.cell? ⟨w.heap.size, 8, none⟩ = some (.slice a8 S.totals.length b8) ∧ X.cell? ⟨w.heap.size + 1, 2, none⟩ = some (.slice (some ⟨xg, xo, none⟩) l.args.length xc) ∧ X.cell? ⟨xg, xo + i, none⟩ = some (.string ⟨a.toArray⟩) ∧ Fw w S ⟨.string tt, .slice a1 S.kinds.length b1, .slice a2 S.members.length b2, .slice (some ⟨pg, po, none⟩) S.preds.length b3, .slice a4 S.classes.length b4, .slice a5 S.sources.length b5, .slice a6 S.rules.length b6, .slice a7 S.excepts.length b7, .slice a8 S.totals.length b8⟩ v (.slice na v.length nc) (.slice ka v.length kc) l (.slice (some ⟨xg, xo, none⟩) l.args.length xc) X) X) := hide fun X hX => ⟨cell_of_row X _ 0 _ _ _ hX.box, cell_of_row X _ 1 _ _ _ hX.box, cell_of_row X _ 2 _ _ _ hX.box, cell_of_row X _ 3 _ _ _ hX.box, cell_of_row X _ 4 _ _ _ hX.box, cell_of_row X _ 5 _ _ _ hX.box, cell_of_row X _ 6 _ _ _ hX.box, cell_of_row X _ 7 _ _ _ hX.box, cell_of_row X _ 8 _ _ _ hX.box, cell_of_row X _ 2 _ _ _ hX.lit, hX.cell hxg DA, hX⟩
    have G7H : Hid (∀ X Y, (fun X : World => X.cell? ⟨w.heap.size, 0, none⟩ = some (.string tt) ∧ X.cell? ⟨w.heap.size, 1, none⟩ = some (.slice a1 S.kinds.length b1) ∧ X.cell? ⟨w.heap.size, 2, none⟩ = some (.slice a2 S.members.length b2) ∧ X.cell? ⟨w.heap.size, 3, none⟩ = some (.slice (some ⟨pg, po, none⟩) S.preds.length b3) ∧ X.cell? ⟨w.heap.size, 4, none⟩ = some (.slice a4 S.classes.length b4) ∧ X.cell? ⟨w.heap.size, 5, none⟩ = some (.slice a5 S.sources.length b5) ∧ X.cell? ⟨w.heap.size, 6, none⟩ = some (.slice a6 S.rules.length b6) ∧ X.cell? ⟨w.heap.size, 7, none⟩ = some (.slice a7 S.excepts.length b7) ∧ X.cell? ⟨w.heap.size, 8, none⟩ = some (.slice a8 S.totals.length b8) ∧ X.cell? ⟨w.heap.size + 1, 2, none⟩ = some (.slice (some ⟨xg, xo, none⟩) l.args.length xc) ∧ X.cell? ⟨xg, xo + i, none⟩ = some (.string ⟨a.toArray⟩) ∧ Fw w S ⟨.string tt, .slice a1 S.kinds.length b1, .slice a2 S.members.length b2, .slice (some ⟨pg, po, none⟩) S.preds.length b3, .slice a4 S.classes.length b4, .slice a5 S.sources.length b5, .slice a6 S.rules.length b6, .slice a7 S.excepts.length b7, .slice a8 S.totals.length b8⟩ v (.slice na v.length nc) (.slice ka v.length kc) l (.slice (some ⟨xg, xo, none⟩) l.args.length xc) X) X → Below X.heap.size X Y → (fun X : World => X.cell? ⟨w.heap.size, 0, none⟩ = some (.string tt) ∧ X.cell? ⟨w.heap.size, 1, none⟩ = some (.slice a1 S.kinds.length b1) ∧ X.cell? ⟨w.heap.size, 2, none⟩ = some (.slice a2 S.members.length b2) ∧ X.cell? ⟨w.heap.size, 3, none⟩ = some (.slice (some ⟨pg, po, none⟩) S.preds.length b3) ∧ X.cell? ⟨w.heap.size, 4, none⟩ = some (.slice a4 S.classes.length b4) ∧ X.cell? ⟨w.heap.size, 5, none⟩ = some (.slice a5 S.sources.length b5) ∧ X.cell? ⟨w.heap.size, 6, none⟩ = some (.slice a6 S.rules.length b6) ∧ X.cell? ⟨w.heap.size, 7, none⟩ = some (.slice a7 S.excepts.length b7) ∧ X.cell? ⟨w.heap.size, 8, none⟩ = some (.slice a8 S.totals.length b8) ∧ X.cell? ⟨w.heap.size + 1, 2, none⟩ = some (.slice (some ⟨xg, xo, none⟩) l.args.length xc) ∧ X.cell? ⟨xg, xo + i, none⟩ = some (.string ⟨a.toArray⟩) ∧ Fw w S ⟨.string tt, .slice a1 S.kinds.length b1, .slice a2 S.members.length b2, .slice (some ⟨pg, po, none⟩) S.preds.length b3, .slice a4 S.classes.length b4, .slice a5 S.sources.length b5, .slice a6 S.rules.length b6, .slice a7 S.excepts.length b7, .slice a8 S.totals.length b8⟩ v (.slice na v.length nc) (.slice ka v.length kc) l (.slice (some ⟨xg, xo, none⟩) l.args.length xc) X) Y) := hide fun X Y hX hb => F7H.out Y (hX.2.2.2.2.2.2.2.2.2.2.2.below hb)
    go_region_held3 (fun X : World => X.cell? ⟨w.heap.size, 0, none⟩ = some (.string tt) ∧ X.cell? ⟨w.heap.size, 1, none⟩ = some (.slice a1 S.kinds.length b1) ∧ X.cell? ⟨w.heap.size, 2, none⟩ = some (.slice a2 S.members.length b2) ∧ X.cell? ⟨w.heap.size, 3, none⟩ = some (.slice (some ⟨pg, po, none⟩) S.preds.length b3) ∧ X.cell? ⟨w.heap.size, 4, none⟩ = some (.slice a4 S.classes.length b4) ∧ X.cell? ⟨w.heap.size, 5, none⟩ = some (.slice a5 S.sources.length b5) ∧ X.cell? ⟨w.heap.size, 6, none⟩ = some (.slice a6 S.rules.length b6) ∧ X.cell? ⟨w.heap.size, 7, none⟩ = some (.slice a7 S.excepts.length b7) ∧ X.cell? ⟨w.heap.size, 8, none⟩ = some (.slice a8 S.totals.length b8) ∧ X.cell? ⟨w.heap.size + 1, 2, none⟩ = some (.slice (some ⟨xg, xo, none⟩) l.args.length xc) ∧ X.cell? ⟨xg, xo + i, none⟩ = some (.string ⟨a.toArray⟩) ∧ Fw w S ⟨.string tt, .slice a1 S.kinds.length b1, .slice a2 S.members.length b2, .slice (some ⟨pg, po, none⟩) S.preds.length b3, .slice a4 S.classes.length b4, .slice a5 S.sources.length b5, .slice a6 S.rules.length b6, .slice a7 S.excepts.length b7, .slice a8 S.totals.length b8⟩ v (.slice na v.length nc) (.slice ka v.length kc) l (.slice (some ⟨xg, xo, none⟩) l.args.length xc) X) (first | assumption | exact F7H.out _ (Fw.drew Kw7.out) | exact G7H.out _ _ ‹_› ‹_›) (first | (go_at_call 21; refine (CK.out _ ‹_›).mono ?_; rintro e w8 ⟨rfl, hb9⟩))
    have Kw8 := hide (Kw7.out.drew.below hb9)
    clear CK F7H G7H hb9
    clear Kw7
    have hvn : v.names.length = v.length := by unfold Scope.names; simp
    have hvk : v.kinds.length = v.length := by unfold Scope.kinds; simp
    have HVN := hide hvn
    have HVK := hide hvk
    clear hvn hvk
    go_wp2_with fail
    go_loopw [16, 17] (fun g x wx => ∃ j : Nat, j ≤ v.length ∧ x = .int .i64 j ∧ g = .int .i64 (lastK (v.take j) a) ∧ Hid (Fw w S ⟨.string tt, .slice a1 S.kinds.length b1, .slice a2 S.members.length b2, .slice (some ⟨pg, po, none⟩) S.preds.length b3, .slice a4 S.classes.length b4, .slice a5 S.sources.length b5, .slice a6 S.rules.length b6, .slice a7 S.excepts.length b7, .slice a8 S.totals.length b8⟩ v (.slice na v.length nc) (.slice ka v.length kc) l (.slice (some ⟨xg, xo, none⟩) l.args.length xc) wx)) (fun _ x _ => v.length - (intOf x).toNat)
    case atStart => exact ⟨0, by omega, rfl, rfl, Kw8⟩
    case round =>
      clear Kw8
      obtain ⟨j, hj, rfl, rfl, KJ⟩ := hrel
      by_cases hjl : j < v.length
      case pos =>
        obtain ⟨x, hx⟩ : ∃ x, v[j]? = some x := ⟨_, List.getElem?_eq_getElem hjl⟩
        have HST := hide (lastK_step (a := a) hx)
        have hxn : (strs v.names)[j]? = some (str x.1) := by unfold strs Scope.names; rw [List.getElem?_map, List.getElem?_map, hx]; rfl
        have hxk : (ints v.kinds)[j]? = some (.int .i64 x.2) := by unfold ints Scope.kinds; rw [List.getElem?_map, List.getElem?_map, hx]; rfl
        obtain ⟨ng, nc2, e1, DN, -, -⟩ := owns_at HNV.out hxn
        obtain ⟨kg, kc2, e2, DX, -, -⟩ := owns_at HKV.out hxk
        simp only [Value.slice.injEq, true_and] at e1 e2
        obtain ⟨rfl, rfl⟩ := e1
        obtain ⟨rfl, rfl⟩ := e2
        have z1 := KJ.out.cell (owns_lt HNV.out rfl) DN
        have z2 := KJ.out.cell (owns_lt HKV.out rfl) DX
        have z3 := KJ.out.cell hxg DA
        have z4 := cell_of_row wr (w.heap.size + 1) 2 _ _ _ KJ.out.lit
        simp only [List.getElem?_toArray, List.getElem?_cons_zero, List.getElem?_cons_succ] at z4
        unfold str at z1
        clear hxn hxk hx DN DX
        by_cases hxa : x.1 = a
        · rw [if_pos hxa] at HST
          rw [hxa] at z1
          go_upto_region 13 with fail
          go_region
          go_wp2_with fail
          go_roundw
          case rel => exact ⟨j + 1, by omega, by go_num, by rw [HST.out], hide KJ.out.drew⟩
          case measure => simp [intOf]; omega
        · rw [if_neg hxa] at HST
          have hbb : (x.1 == a) = false := beq_eq_false_iff_ne.2 hxa
          clear hxa
          go_upto_region 13 with fail
          go_region
          go_wp2_with fail
          go_roundw
          case rel => exact ⟨j + 1, by omega, by go_num, by rw [HST.out], hide KJ.out.drew⟩
          case measure => simp [intOf]; omega
      have hj' : j = v.length := by omega
      subst hj'
      rw [List.take_of_length_le (Nat.le_refl _)]
      have hda : l.args.drop i = a :: l.args.drop (i + 1) := by rw [List.drop_eq_getElem_cons hlt]; congr 1; rw [List.getElem?_eq_getElem hlt] at ha; exact Option.some.inj ha
      have hdk : pd.kinds.drop i = k :: pd.kinds.drop (i + 1) := by rw [List.drop_eq_getElem_cons (by omega)]; congr 1; rw [List.getElem?_eq_getElem (by omega)] at hk; exact Option.some.inj hk
      rw [hda, hdk] at HO
      unfold fitA at HO
      have HA1 := hide ha
      have HK1 := hide hk
      clear hda hdk ha hk hj hjl
      by_cases hmem : a ∈ S.ctx.people
      case neg =>
        have hgm : gotM S.ctx v a = lastK v a := by unfold gotM; rw [if_neg hmem]
        rw [decide_eq_false hmem]
        go_upto_region 17 with fail
        by_cases hg : gotM S.ctx v a = (posB S.ctx.kinds k : Int)
        · rw [decide_eq_true hg, Bool.true_and] at HO
          have e9 : (lastK v a : Int) = (posB S.kinds k : Int) := by rw [← hgm]; exact hg
          rw [e9]
          clear hg e9
          go_wp2_with fail
          go_roundw
          case rel => exact ⟨i + 1, by omega, by go_num, KJ, HO⟩
          case measure => simp [intOf]; omega
        · have ho : o = false := by rw [← HO.out, decide_eq_false hg, Bool.false_and]
          subst ho
          have e9 : ¬ (lastK v a : Int) = (posB S.kinds k : Int) := fun e => hg (by rw [hgm]; exact e)
          have hbq : ((lastK v a : Int) == (posB S.kinds k : Int)) = false := beq_eq_false_iff_ne.2 e9
          go_wp2_with fail
          go_ret
          exact ⟨rfl, KJ.out.low⟩
      have hlm : posB S.ctx.people a < S.members.length := by have h9 := posB_lt hmem; have hln : S.ctx.people.length = S.members.length := (by unfold Ctx.people StatM.ctx; simp); rw [hln] at h9; exact h9
      obtain ⟨mb, hmb⟩ : ∃ mb, S.members[posB S.ctx.people a]? = some mb := ⟨_, List.getElem?_eq_getElem hlm⟩
      have hgm : gotM S.ctx v a = (posB S.kinds mb.2 : Int) := by unfold gotM; rw [if_pos hmem]; show ((posB S.kinds (S.members.getD (posB S.ctx.people a) ([], [])).2 : Nat) : Int) = _; rw [List.getD_eq_getElem?_getD, hmb]; rfl
      rw [decide_eq_true hmem]
      clear hmem
      have HGM := hide hgm
      clear hgm
      obtain ⟨mg, mo, e2, hmg, -, DM, -, hsm⟩ := at_M HR.out.members hmb
      cases e2
      unfold str at DM
      clear hmb
      go_upto_region 16 with fail
      have CK := hide (fun X (hX : (fun X : World => X.cell? ⟨w.heap.size, 0, none⟩ = some (.string tt) ∧ X.cell? ⟨w.heap.size, 1, none⟩ = some (.slice a1 S.kinds.length b1) ∧ X.cell? ⟨w.heap.size, 2, none⟩ = some (.slice (some ⟨mg, mo, none⟩) S.members.length b2) ∧ X.cell? ⟨w.heap.size, 3, none⟩ = some (.slice (some ⟨pg, po, none⟩) S.preds.length b3) ∧ X.cell? ⟨w.heap.size, 4, none⟩ = some (.slice a4 S.classes.length b4) ∧ X.cell? ⟨w.heap.size, 5, none⟩ = some (.slice a5 S.sources.length b5) ∧ X.cell? ⟨w.heap.size, 6, none⟩ = some (.slice a6 S.rules.length b6) ∧ X.cell? ⟨w.heap.size, 7, none⟩ = some (.slice a7 S.excepts.length b7) ∧ X.cell? ⟨w.heap.size, 8, none⟩ = some (.slice a8 S.totals.length b8) ∧ X.cell? ⟨mg, mo + posB S.ctx.people a * 2 + 1, none⟩ = some (.string ⟨mb.2.toArray⟩) ∧ Fw w S ⟨.string tt, .slice a1 S.kinds.length b1, .slice (some ⟨mg, mo, none⟩) S.members.length b2, .slice (some ⟨pg, po, none⟩) S.preds.length b3, .slice a4 S.classes.length b4, .slice a5 S.sources.length b5, .slice a6 S.rules.length b6, .slice a7 S.excepts.length b7, .slice a8 S.totals.length b8⟩ v (.slice na v.length nc) (.slice ka v.length kc) l (.slice (some ⟨xg, xo, none⟩) l.args.length xc) X) X) => kind_asks hX.2.2.2.2.2.2.2.2.2.2.sr h1 mb.2 hsm)
      unfold St9.agg str at CK
      simp only at CK
      have F7H : Hid (∀ X, Fw w S ⟨.string tt, .slice a1 S.kinds.length b1, .slice (some ⟨mg, mo, none⟩) S.members.length b2, .slice (some ⟨pg, po, none⟩) S.preds.length b3, .slice a4 S.classes.length b4, .slice a5 S.sources.length b5, .slice a6 S.rules.length b6, .slice a7 S.excepts.length b7, .slice a8 S.totals.length b8⟩ v (.slice na v.length nc) (.slice ka v.length kc) l (.slice (some ⟨xg, xo, none⟩) l.args.length xc) X → (fun X : World => X.cell? ⟨w.heap.size, 0, none⟩ = some (.string tt) ∧ X.cell? ⟨w.heap.size, 1, none⟩ = some (.slice a1 S.kinds.length b1) ∧ X.cell? ⟨w.heap.size, 2, none⟩ = some (.slice (some ⟨mg, mo, none⟩) S.members.length b2) ∧ X.cell? ⟨w.heap.size, 3, none⟩ = some (.slice (some ⟨pg, po, none⟩) S.preds.length b3) ∧ X.cell? ⟨w.heap.size, 4, none⟩ = some (.slice a4 S.classes.length b4) ∧ X.cell? ⟨w.heap.size, 5, none⟩ = some (.slice a5 S.sources.length b5) ∧ X.cell? ⟨w.heap.size, 6, none⟩ = some (.slice a6 S.rules.length b6) ∧ X.cell? ⟨w.heap.size, 7, none⟩ = some (.slice a7 S.excepts.length b7) ∧ X.cell? ⟨w.heap.size, 8, none⟩ = some (.slice a8 S.totals.length b8) ∧ X.cell? ⟨mg, mo + posB S.ctx.people a * 2 + 1, none⟩ = some (.string ⟨mb.2.toArray⟩) ∧ Fw w S ⟨.string tt, .slice a1 S.kinds.length b1, .slice (some ⟨mg, mo, none⟩) S.members.length b2, .slice (some ⟨pg, po, none⟩) S.preds.length b3, .slice a4 S.classes.length b4, .slice a5 S.sources.length b5, .slice a6 S.rules.length b6, .slice a7 S.excepts.length b7, .slice a8 S.totals.length b8⟩ v (.slice na v.length nc) (.slice ka v.length kc) l (.slice (some ⟨xg, xo, none⟩) l.args.length xc) X) X) := hide fun X hX => ⟨cell_of_row X _ 0 _ _ _ hX.box, cell_of_row X _ 1 _ _ _ hX.box, cell_of_row X _ 2 _ _ _ hX.box, cell_of_row X _ 3 _ _ _ hX.box, cell_of_row X _ 4 _ _ _ hX.box, cell_of_row X _ 5 _ _ _ hX.box, cell_of_row X _ 6 _ _ _ hX.box, cell_of_row X _ 7 _ _ _ hX.box, cell_of_row X _ 8 _ _ _ hX.box, hX.cell hmg DM, hX⟩
      have G7H : Hid (∀ X Y, (fun X : World => X.cell? ⟨w.heap.size, 0, none⟩ = some (.string tt) ∧ X.cell? ⟨w.heap.size, 1, none⟩ = some (.slice a1 S.kinds.length b1) ∧ X.cell? ⟨w.heap.size, 2, none⟩ = some (.slice (some ⟨mg, mo, none⟩) S.members.length b2) ∧ X.cell? ⟨w.heap.size, 3, none⟩ = some (.slice (some ⟨pg, po, none⟩) S.preds.length b3) ∧ X.cell? ⟨w.heap.size, 4, none⟩ = some (.slice a4 S.classes.length b4) ∧ X.cell? ⟨w.heap.size, 5, none⟩ = some (.slice a5 S.sources.length b5) ∧ X.cell? ⟨w.heap.size, 6, none⟩ = some (.slice a6 S.rules.length b6) ∧ X.cell? ⟨w.heap.size, 7, none⟩ = some (.slice a7 S.excepts.length b7) ∧ X.cell? ⟨w.heap.size, 8, none⟩ = some (.slice a8 S.totals.length b8) ∧ X.cell? ⟨mg, mo + posB S.ctx.people a * 2 + 1, none⟩ = some (.string ⟨mb.2.toArray⟩) ∧ Fw w S ⟨.string tt, .slice a1 S.kinds.length b1, .slice (some ⟨mg, mo, none⟩) S.members.length b2, .slice (some ⟨pg, po, none⟩) S.preds.length b3, .slice a4 S.classes.length b4, .slice a5 S.sources.length b5, .slice a6 S.rules.length b6, .slice a7 S.excepts.length b7, .slice a8 S.totals.length b8⟩ v (.slice na v.length nc) (.slice ka v.length kc) l (.slice (some ⟨xg, xo, none⟩) l.args.length xc) X) X → Below X.heap.size X Y → (fun X : World => X.cell? ⟨w.heap.size, 0, none⟩ = some (.string tt) ∧ X.cell? ⟨w.heap.size, 1, none⟩ = some (.slice a1 S.kinds.length b1) ∧ X.cell? ⟨w.heap.size, 2, none⟩ = some (.slice (some ⟨mg, mo, none⟩) S.members.length b2) ∧ X.cell? ⟨w.heap.size, 3, none⟩ = some (.slice (some ⟨pg, po, none⟩) S.preds.length b3) ∧ X.cell? ⟨w.heap.size, 4, none⟩ = some (.slice a4 S.classes.length b4) ∧ X.cell? ⟨w.heap.size, 5, none⟩ = some (.slice a5 S.sources.length b5) ∧ X.cell? ⟨w.heap.size, 6, none⟩ = some (.slice a6 S.rules.length b6) ∧ X.cell? ⟨w.heap.size, 7, none⟩ = some (.slice a7 S.excepts.length b7) ∧ X.cell? ⟨w.heap.size, 8, none⟩ = some (.slice a8 S.totals.length b8) ∧ X.cell? ⟨mg, mo + posB S.ctx.people a * 2 + 1, none⟩ = some (.string ⟨mb.2.toArray⟩) ∧ Fw w S ⟨.string tt, .slice a1 S.kinds.length b1, .slice (some ⟨mg, mo, none⟩) S.members.length b2, .slice (some ⟨pg, po, none⟩) S.preds.length b3, .slice a4 S.classes.length b4, .slice a5 S.sources.length b5, .slice a6 S.rules.length b6, .slice a7 S.excepts.length b7, .slice a8 S.totals.length b8⟩ v (.slice na v.length nc) (.slice ka v.length kc) l (.slice (some ⟨xg, xo, none⟩) l.args.length xc) X) Y) := hide fun X Y hX hb => F7H.out Y (hX.2.2.2.2.2.2.2.2.2.2.below hb)
      go_region_held3 (fun X : World => X.cell? ⟨w.heap.size, 0, none⟩ = some (.string tt) ∧ X.cell? ⟨w.heap.size, 1, none⟩ = some (.slice a1 S.kinds.length b1) ∧ X.cell? ⟨w.heap.size, 2, none⟩ = some (.slice (some ⟨mg, mo, none⟩) S.members.length b2) ∧ X.cell? ⟨w.heap.size, 3, none⟩ = some (.slice (some ⟨pg, po, none⟩) S.preds.length b3) ∧ X.cell? ⟨w.heap.size, 4, none⟩ = some (.slice a4 S.classes.length b4) ∧ X.cell? ⟨w.heap.size, 5, none⟩ = some (.slice a5 S.sources.length b5) ∧ X.cell? ⟨w.heap.size, 6, none⟩ = some (.slice a6 S.rules.length b6) ∧ X.cell? ⟨w.heap.size, 7, none⟩ = some (.slice a7 S.excepts.length b7) ∧ X.cell? ⟨w.heap.size, 8, none⟩ = some (.slice a8 S.totals.length b8) ∧ X.cell? ⟨mg, mo + posB S.ctx.people a * 2 + 1, none⟩ = some (.string ⟨mb.2.toArray⟩) ∧ Fw w S ⟨.string tt, .slice a1 S.kinds.length b1, .slice (some ⟨mg, mo, none⟩) S.members.length b2, .slice (some ⟨pg, po, none⟩) S.preds.length b3, .slice a4 S.classes.length b4, .slice a5 S.sources.length b5, .slice a6 S.rules.length b6, .slice a7 S.excepts.length b7, .slice a8 S.totals.length b8⟩ v (.slice na v.length nc) (.slice ka v.length kc) l (.slice (some ⟨xg, xo, none⟩) l.args.length xc) X) (first | assumption | exact F7H.out _ (Fw.drew KJ.out) | exact G7H.out _ _ ‹_› ‹_›) (first | (go_at_call 20; refine (CK.out _ ‹_›).mono ?_; rintro e w6 ⟨rfl, hb9⟩))
      have Kw6 := hide (KJ.out.drew.below hb9)
      clear CK F7H G7H hb9
      clear KJ
      go_upto_region 17 with fail
      by_cases hg : gotM S.ctx v a = (posB S.ctx.kinds k : Int)
      · rw [decide_eq_true hg, Bool.true_and] at HO
        have e9 : ((posB S.kinds mb.2 : Nat) : Int) = (posB S.kinds k : Int) := by rw [← HGM.out]; exact hg
        rw [e9]
        clear hg e9
        go_wp2_with fail
        go_roundw
        case rel => exact ⟨i + 1, by omega, by go_num, Kw6, HO⟩
        case measure => simp [intOf]; omega
      · have ho : o = false := by rw [← HO.out, decide_eq_false hg, Bool.false_and]
        subst ho
        have e9 : ¬ ((posB S.kinds mb.2 : Nat) : Int) = (posB S.kinds k : Int) := fun e => hg (by rw [HGM.out]; exact e)
        have hbq : (((posB S.kinds mb.2 : Nat) : Int) == (posB S.kinds k : Int)) = false := beq_eq_false_iff_ne.2 e9
        go_wp2_with fail
        go_ret
        exact ⟨rfl, Kw6.out.low⟩
end
end Go.Proofs.Ytfnobccminhjpaa
