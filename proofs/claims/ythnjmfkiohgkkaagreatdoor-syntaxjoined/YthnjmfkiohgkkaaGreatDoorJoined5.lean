/- The law's 'joined': both statutes' lists. By program (tools/gen5/c24.py). -/
import Derived.Test.YthnjmfkiohgkkaaGreatDoorSameC
import Derived.Test.YthnjmfkiohgkkaaGreatDoorCopyAll
import Derived.Test.YthnjmfkiohgkkaaGreatDoorItemsAll
namespace Go.Proofs.YthnjmfkiohgkkaaGreatDoor.Sy
open Go.RowKit

theorem one_S (w : World) (z : List Value) : (∃ a, cS w a z) → ∀ u ∈ z, u.oneCell' = true := by
  rintro ⟨a, rfl⟩ u hu
  simp at hu
  subst hu
  rfl
theorem one_M (w : World) (z : List Value) : (∃ a, cM w a z) → ∀ u ∈ z, u.oneCell' = true := by
  rintro ⟨a, rfl⟩ u hu
  simp at hu
  rcases hu with rfl | rfl <;> rfl
theorem one_Src (w : World) (z : List Value) : (∃ a, cSrc w a z) → ∀ u ∈ z, u.oneCell' = true := by
  rintro ⟨a, rfl⟩ u hu
  simp at hu
  rcases hu with rfl | rfl <;> rfl
theorem one_Pred {Z : Nat → Prop} (w : World) (z : List Value) : (∃ a, cPred Z w a z) → ∀ u ∈ z, u.oneCell' = true := by
  rintro ⟨a, kv, vv, rfl, h1, h2⟩ u hu
  simp at hu
  rcases hu with rfl | rfl | rfl | rfl
  · rfl
  · rfl
  · exact rows_one h1
  · exact rows_one h2
theorem one_Class {Z : Nat → Prop} (w : World) (z : List Value) : (∃ a, cClass Z w a z) → ∀ u ∈ z, u.oneCell' = true := by
  rintro ⟨a, kv, rfl, h1⟩ u hu
  simp at hu
  subst hu
  exact rows_one h1
theorem one_Total {Z : Nat → Prop} (w : World) (z : List Value) : (∃ a, cTotal Z w a z) → ∀ u ∈ z, u.oneCell' = true := by
  rintro ⟨a, kv, rfl, h1⟩ u hu
  simp at hu
  rcases hu with rfl | rfl | rfl | rfl | rfl
  · rfl
  · rfl
  · exact rows_one h1
  · rfl
  · rfl
theorem one_Rule {Z : Nat → Prop} (w : World) (z : List Value) : (∃ a, cRule Z w a z) → ∀ u ∈ z, u.oneCell' = true := by
  rintro ⟨a, bv, av, rfl, h1, h2⟩ u hu
  simp at hu
  rcases hu with rfl | rfl | rfl | rfl | rfl | rfl | rfl | rfl | rfl | rfl | rfl
  · rfl
  · rfl
  · rfl
  · rfl
  · exact rows_one h1
  · rfl
  · rfl
  · rfl
  · exact rows_one h2
  · rfl
  · rfl

theorem cellAt9_1 {w : World} {q T : Nat} {v0 v1 v2 v3 v4 v5 v6 v7 v8 : Value} (h : w.heap[q]? = some (.cells #[v0, v1, v2, v3, v4, v5, v6, v7, v8] T (0, 0))) : w.cell? ⟨q, 1, none⟩ = some v1 := cell_of_row w q 1 _ T _ h
theorem cellAt9_2 {w : World} {q T : Nat} {v0 v1 v2 v3 v4 v5 v6 v7 v8 : Value} (h : w.heap[q]? = some (.cells #[v0, v1, v2, v3, v4, v5, v6, v7, v8] T (0, 0))) : w.cell? ⟨q, 2, none⟩ = some v2 := cell_of_row w q 2 _ T _ h
theorem cellAt9_3 {w : World} {q T : Nat} {v0 v1 v2 v3 v4 v5 v6 v7 v8 : Value} (h : w.heap[q]? = some (.cells #[v0, v1, v2, v3, v4, v5, v6, v7, v8] T (0, 0))) : w.cell? ⟨q, 3, none⟩ = some v3 := cell_of_row w q 3 _ T _ h
theorem cellAt9_4 {w : World} {q T : Nat} {v0 v1 v2 v3 v4 v5 v6 v7 v8 : Value} (h : w.heap[q]? = some (.cells #[v0, v1, v2, v3, v4, v5, v6, v7, v8] T (0, 0))) : w.cell? ⟨q, 4, none⟩ = some v4 := cell_of_row w q 4 _ T _ h
theorem cellAt9_5 {w : World} {q T : Nat} {v0 v1 v2 v3 v4 v5 v6 v7 v8 : Value} (h : w.heap[q]? = some (.cells #[v0, v1, v2, v3, v4, v5, v6, v7, v8] T (0, 0))) : w.cell? ⟨q, 5, none⟩ = some v5 := cell_of_row w q 5 _ T _ h
theorem cellAt9_6 {w : World} {q T : Nat} {v0 v1 v2 v3 v4 v5 v6 v7 v8 : Value} (h : w.heap[q]? = some (.cells #[v0, v1, v2, v3, v4, v5, v6, v7, v8] T (0, 0))) : w.cell? ⟨q, 6, none⟩ = some v6 := cell_of_row w q 6 _ T _ h
theorem cellAt9_7 {w : World} {q T : Nat} {v0 v1 v2 v3 v4 v5 v6 v7 v8 : Value} (h : w.heap[q]? = some (.cells #[v0, v1, v2, v3, v4, v5, v6, v7, v8] T (0, 0))) : w.cell? ⟨q, 7, none⟩ = some v7 := cell_of_row w q 7 _ T _ h
theorem cellAt9_8 {w : World} {q T : Nat} {v0 v1 v2 v3 v4 v5 v6 v7 v8 : Value} (h : w.heap[q]? = some (.cells #[v0, v1, v2, v3, v4, v5, v6, v7, v8] T (0, 0))) : w.cell? ⟨q, 8, none⟩ = some v8 := cell_of_row w q 8 _ T _ h

theorem nine_kpt {T : List Nat} {Z : Nat → Prop} {W : World} {q t : Nat} {cs : Array Value} {v0 v1 v2 v3 v4 v5 v6 v7 v8 : Value} (h : W.heap[q]? = some (.cells cs t (0, 0))) (ht : t ∉ T) : Kp T Z W (((((((((W.setCell ⟨q, 0, none⟩ v0).setCell ⟨q, 1, none⟩ v1).setCell ⟨q, 2, none⟩ v2).setCell ⟨q, 3, none⟩ v3).setCell ⟨q, 4, none⟩ v4).setCell ⟨q, 5, none⟩ v5).setCell ⟨q, 6, none⟩ v6).setCell ⟨q, 7, none⟩ v7).setCell ⟨q, 8, none⟩ v8) := by
  intro g cur t' _ hg hm
  by_cases e : g = q
  · subst e
    rw [h] at hg
    cases hg
    exact absurd hm ht
  · exact (nine_other e).trans hg

theorem grown_block {w w' : World} {row : Option Nat} {k : Nat} {o : Obj} (h : w.grownBy w' row) (hk : w.heap[k]? = some o) (hn : some k ≠ row) : w'.heap[k]? = some o := (h.block k (loc_lt hk) hn).trans hk
theorem grown_below2 {B : Nat} {w0 w w' : World} {row : Option Nat} (hb : Below B w0 w) (h : w.grownBy w' row) (hr : ∀ g, row = some g → B ≤ g) (hB : B ≤ w0.heap.size) : Below B w0 w' :=
  ⟨h.os.trans hb.os, h.tape.trans hb.tape, h.output.trans hb.output, Nat.le_trans hb.size h.size, fun k hk => (h.block k (by have := hb.size; omega) (fun e => by have := hr k e.symm; omega)).trans (hb.block k hk)⟩

set_option maxRecDepth 100000 in
set_option maxHeartbeats 6400000 in
theorem joined_any {R R2 : Nat} {st st2 : St9} {S T : StatM} (w : World) (hS : SRep R w st S) (hT : SRep R2 w st2 T) (hs : SmallS S) (hf : Fits (joinS S T)) :
    Calls Tryz.prog 16 #[St9.agg st, St9.agg st2] w fun e w' => ∃ st', e = .returned (St9.agg st') ∧ SZ (fun _ => True) w' st' (joinS S T) ∧ Below w.heap.size w w' := by
  obtain ⟨xa1, xc1, xa2, xc2, xa3, xc3, xa4, xc4, xa5, xc5, xa6, xc6, xa7, xc7, xa8, xc8, rfl⟩ := hS.form
  obtain ⟨ya1, yc1, ya2, yc2, ya3, yc3, ya4, yc4, ya5, yc5, ya6, yc6, ya7, yc7, ya8, yc8, rfl⟩ := hT.form
  obtain ⟨n0, n1, n2, nb, ns⟩ := three_new w (.cells #[.string ⟨S.title.toArray⟩, .slice xa1 S.kinds.length xc1, .slice xa2 S.members.length xc2, .slice xa3 S.preds.length xc3, .slice xa4 S.classes.length xc4, .slice xa5 S.sources.length xc5, .slice xa6 S.rules.length xc6, .slice xa7 S.excepts.length xc7, .slice xa8 S.totals.length xc8] 31) (.cells #[.string ⟨T.title.toArray⟩, .slice ya1 T.kinds.length yc1, .slice ya2 T.members.length yc2, .slice ya3 T.preds.length yc3, .slice ya4 T.classes.length yc4, .slice ya5 T.sources.length yc5, .slice ya6 T.rules.length yc6, .slice ya7 T.excepts.length yc7, .slice ya8 T.totals.length yc8] 31) (.cells #[.string ⟨#[]⟩, .slice none 0 0, .slice none 0 0, .slice none 0 0, .slice none 0 0, .slice none 0 0, .slice none 0 0, .slice none 0 0, .slice none 0 0] 31)
  have HT := hide (hT.sz.keep (Kp.of_below nb))
  have CC := hide (copy_statute _ (hS.keep (Kp.of_below nb)) hs)
  have LB := hide n1
  have LR := hide n2
  have BW := hide nb
  have hf0 : S.kinds.length + T.kinds.length ≤ 512 := by have h := hf.kinds; simp only [joinS, List.length_append] at h; omega
  have hf1 : S.members.length + T.members.length ≤ 512 := by have h := hf.members; simp only [joinS, List.length_append] at h; omega
  have hf2 : S.preds.length + T.preds.length ≤ 512 := by have h := hf.preds; simp only [joinS, List.length_append] at h; omega
  have hf3 : S.classes.length + T.classes.length ≤ 512 := by have h := hf.classes; simp only [joinS, List.length_append] at h; omega
  have hf4 : S.sources.length + T.sources.length ≤ 512 := by have h := hf.sources; simp only [joinS, List.length_append] at h; omega
  have hf5 : S.rules.length + T.rules.length ≤ 512 := by have h := hf.rules; simp only [joinS, List.length_append] at h; omega
  have hf6 : S.excepts.length + T.excepts.length ≤ 512 := by have h := hf.excepts; simp only [joinS, List.length_append] at h; omega
  have hf7 : S.totals.length + T.totals.length ≤ 512 := by have h := hf.totals; simp only [joinS, List.length_append] at h; omega
  clear hS hT hs hf n0 n1 n2 nb
  simp only [St9.agg] at CC ⊢
  go_enter Tryz.func16, Tryz.ntmps16
  go_wp2_with fail
  refine CC.out.mono ?_
  rintro _ w1 ⟨st3, rfl, hD, hb⟩
  obtain ⟨da1, dc1, da2, dc2, da3, dc3, da4, dc4, da5, dc5, da6, dc6, da7, dc7, da8, dc8, rfl⟩ := hD.form
  have BA := (Below.refl w1.heap.size w1).alloc (Nat.le_refl _) (.cells #[.string ⟨S.title.toArray⟩, .slice da1 S.kinds.length dc1, .slice da2 S.members.length dc2, .slice da3 S.preds.length dc3, .slice da4 S.classes.length dc4, .slice da5 S.sources.length dc5, .slice da6 S.rules.length dc6, .slice da7 S.excepts.length dc7, .slice da8 S.totals.length dc8] 31)
  rw [ns] at hD
  have hns : w.heap.size + 3 ≤ w1.heap.size := by have := hb.size; rw [ns] at this; exact this
  have OD0 : Hid (∀ g, (Value.slice da1 S.kinds.length dc1).ownBlock = some g → w.heap.size + 4 < g ∧ g < w1.heap.size) := hide fun g hg => by obtain ⟨xs, hr, _⟩ := hD.kinds; have hz := hr.2 g hg; exact ⟨hz, (hr.1.lt g hg).2⟩
  have OD1 : Hid (∀ g, (Value.slice da2 S.members.length dc2).ownBlock = some g → w.heap.size + 4 < g ∧ g < w1.heap.size) := hide fun g hg => by obtain ⟨xs, hr, _⟩ := hD.members; have hz := hr.2 g hg; exact ⟨hz.1, (hr.1.lt g hg).2⟩
  have OD2 : Hid (∀ g, (Value.slice da3 S.preds.length dc3).ownBlock = some g → w.heap.size + 4 < g ∧ g < w1.heap.size) := hide fun g hg => by obtain ⟨xs, hr, _⟩ := hD.preds; have hz := hr.2 g hg; exact ⟨hz.1, (hr.1.lt g hg).2⟩
  have OD3 : Hid (∀ g, (Value.slice da4 S.classes.length dc4).ownBlock = some g → w.heap.size + 4 < g ∧ g < w1.heap.size) := hide fun g hg => by obtain ⟨xs, hr, _⟩ := hD.classes; have hz := hr.2 g hg; exact ⟨hz.1, (hr.1.lt g hg).2⟩
  have OD4 : Hid (∀ g, (Value.slice da5 S.sources.length dc5).ownBlock = some g → w.heap.size + 4 < g ∧ g < w1.heap.size) := hide fun g hg => by obtain ⟨xs, hr, _⟩ := hD.sources; have hz := hr.2 g hg; exact ⟨hz.1, (hr.1.lt g hg).2⟩
  have OD5 : Hid (∀ g, (Value.slice da6 S.rules.length dc6).ownBlock = some g → w.heap.size + 4 < g ∧ g < w1.heap.size) := hide fun g hg => by obtain ⟨xs, hr, _⟩ := hD.rules; have hz := hr.2 g hg; exact ⟨hz.1, (hr.1.lt g hg).2⟩
  have OD6 : Hid (∀ g, (Value.slice da7 S.excepts.length dc7).ownBlock = some g → w.heap.size + 4 < g ∧ g < w1.heap.size) := hide fun g hg => by obtain ⟨xs, hr, _⟩ := hD.excepts; have hz := hr.2 g hg; exact ⟨hz.1, (hr.1.lt g hg).2⟩
  have OD7 : Hid (∀ g, (Value.slice da8 S.totals.length dc8).ownBlock = some g → w.heap.size + 4 < g ∧ g < w1.heap.size) := hide fun g hg => by obtain ⟨xs, hr, _⟩ := hD.totals; have hz := hr.2 g hg; exact ⟨hz.1, (hr.1.lt g hg).2⟩
  have hD := hD.keep (Kp.of_below BA)
  have D0 := hide hD.kinds
  have D1 := hide hD.members
  have D2 := hide hD.preds
  have D3 := hide hD.classes
  have D4 := hide hD.sources
  have D5 := hide hD.rules
  have D6 := hide hD.excepts
  have D7 := hide hD.totals
  have HTb := hide ((HT.out.keep (Kp.of_below hb)).keep (Kp.of_below BA))
  clear HT
  have HT := HTb
  clear HTb
  have LB1 := hide ((BA.block _ (loc_lt ((hb.block _ (loc_lt LB.out)).trans LB.out))).trans ((hb.block _ (loc_lt LB.out)).trans LB.out))
  clear LB
  have LR1 := hide ((BA.block _ (loc_lt ((hb.block _ (loc_lt LR.out)).trans LR.out))).trans ((hb.block _ (loc_lt LR.out)).trans LR.out))
  clear LR
  have LS1 := hide (heap_alloc_new w1 (.cells #[.string ⟨S.title.toArray⟩, .slice da1 S.kinds.length dc1, .slice da2 S.members.length dc2, .slice da3 S.preds.length dc3, .slice da4 S.classes.length dc4, .slice da5 S.sources.length dc5, .slice da6 S.rules.length dc6, .slice da7 S.excepts.length dc7, .slice da8 S.totals.length dc8] 31))
  have BW1 := hide ((BW.out.trans (hb.mono (by rw [ns]; omega))).trans (BA.mono (by omega)))
  clear hD hb BA CC BW ns
  obtain ⟨iM, hiM, zM0, zM1, zM2⟩ := info_parts' info_string
  obtain ⟨xs, hrow, hold⟩ := D0.out
  obtain ⟨ys, hrow2, hold2⟩ := HT.out.kinds
  have hone := rows_cells (Q := fun z => ∃ a, cS _ a z) (by decide) hrow2.1.1 rfl (fun i a hi => ⟨a, hold2 i a hi⟩) (one_S _)
  have HX := hide hrow
  have HY := hide hrow2
  have HXo := hide hold
  have HYo := hide hold2
  have H1 := hide hone
  clear hrow hrow2 hold hold2 hone
  have zs := cellAt9_1 LS1.out
  have zb := cellAt9_1 LB1.out
  have zsf := fun j => frozen_of_row _ _ j _ _ LS1.out
  have q1 : w.heap.size + 1 ≠ w1.heap.size := by omega
  have q2 : w1.heap.size ≠ w.heap.size + 1 := by omega
  go_wp2_with (at_builtin; go_must (refine wpList_append_src _ (by rfl) _ _ 22 22 rfl 9 iM _ 1 16 Tryz.underlying22 hiM zM0 zM1 zM2 (by decide) rfl _ _ xs rfl HX.out.1 _ _ ys rfl (src_own HY.out.1 Tryz.underlying22 H1.out) (by omega) ?_))
  intro v2 w2 hown hgr
  clear zs zb zsf
  have LB_s0 := hide (grown_block hgr LB1.out (fun e => by have := OD0.out _ e.symm; omega))
  clear LB1
  have LR_s0 := hide (grown_block hgr LR1.out (fun e => by have := OD0.out _ e.symm; omega))
  clear LR1
  have LS_s0 := hide (grown_block hgr LS1.out (fun e => by have := OD0.out _ e.symm; omega))
  clear LS1
  have BW_s0 := hide (grown_below2 BW1.out hgr (fun g e => by have := OD0.out g e; omega) (Nat.le_refl _))
  clear BW1
  have RJ := rows_join (w' := w2) (C := cS) (c1 := fun a z => cS w a z) (c2 := fun a z => cS w a z) HX.out.1.1 HXo.out HYo.out (fun a z h => h) (fun a z h => h) hown
  have HTs0 := hide (HT.out.keep (Kp.of_grown2 hgr (fun g (hg : g < w.heap.size) e => by have := OD0.out g e.symm; omega)))
  clear HT
  have D1_s0 := hide (Rows.keep D1.out (Kp.of_grown2 (T := allT) hgr (fun g hg => hg.2)) (by decide) (fun _ _ h => h))
  clear D1
  have D2_s0 := hide (Rows.keep D2.out (Kp.of_grown2 (T := allT) hgr (fun g hg => hg.2)) (by decide) (fun _ _ h => h.keep (inner_all (Kp.of_grown2 (T := allT) hgr (fun g hg => hg.2)) (by decide))))
  clear D2
  have D3_s0 := hide (Rows.keep D3.out (Kp.of_grown2 (T := allT) hgr (fun g hg => hg.2)) (by decide) (fun _ _ h => h.keep (inner_all (Kp.of_grown2 (T := allT) hgr (fun g hg => hg.2)) (by decide))))
  clear D3
  have D4_s0 := hide (Rows.keep D4.out (Kp.of_grown2 (T := allT) hgr (fun g hg => hg.2)) (by decide) (fun _ _ h => h))
  clear D4
  have D5_s0 := hide (Rows.keep D5.out (Kp.of_grown2 (T := allT) hgr (fun g hg => hg.2)) (by decide) (fun _ _ h => h.keep (inner_all (Kp.of_grown2 (T := allT) hgr (fun g hg => hg.2)) (by decide))))
  clear D5
  have D6_s0 := hide (Rows.keep D6.out (Kp.of_grown2 (T := allT) hgr (fun g hg => hg.2)) (by decide) (fun _ _ h => h))
  clear D6
  have D7_s0 := hide (Rows.keep D7.out (Kp.of_grown2 (T := allT) hgr (fun g hg => hg.2)) (by decide) (fun _ _ h => h.keep (inner_all (Kp.of_grown2 (T := allT) hgr (fun g hg => hg.2)) (by decide))))
  clear D7
  clear D0
  obtain ⟨ra1, rc1, hv1⟩ := rows_form RJ
  rw [List.length_append] at hv1
  subst hv1
  have R0 := hide RJ
  clear RJ hown hgr HX HY HXo HYo H1 hiM zM0 zM1 zM2 iM xs ys
  have HTt0 := hide (HTs0.out.keep (Kp.setLoc (i := 1) (v := .slice ra1 (S.kinds.length + T.kinds.length) rc1) LS_s0.out (by decide)))
  clear HTs0
  have D1_t0 := hide (Rows.keep D1_s0.out (Kp.setLoc (T := allT) (i := 1) (v := .slice ra1 (S.kinds.length + T.kinds.length) rc1) LS_s0.out (by decide)) (by decide) (fun _ _ h => h))
  clear D1_s0
  have D2_t0 := hide (Rows.keep D2_s0.out (Kp.setLoc (T := allT) (i := 1) (v := .slice ra1 (S.kinds.length + T.kinds.length) rc1) LS_s0.out (by decide)) (by decide) (fun _ _ h => h.keep (inner_all (Kp.setLoc (T := allT) (i := 1) (v := .slice ra1 (S.kinds.length + T.kinds.length) rc1) LS_s0.out (by decide)) (by decide))))
  clear D2_s0
  have D3_t0 := hide (Rows.keep D3_s0.out (Kp.setLoc (T := allT) (i := 1) (v := .slice ra1 (S.kinds.length + T.kinds.length) rc1) LS_s0.out (by decide)) (by decide) (fun _ _ h => h.keep (inner_all (Kp.setLoc (T := allT) (i := 1) (v := .slice ra1 (S.kinds.length + T.kinds.length) rc1) LS_s0.out (by decide)) (by decide))))
  clear D3_s0
  have D4_t0 := hide (Rows.keep D4_s0.out (Kp.setLoc (T := allT) (i := 1) (v := .slice ra1 (S.kinds.length + T.kinds.length) rc1) LS_s0.out (by decide)) (by decide) (fun _ _ h => h))
  clear D4_s0
  have D5_t0 := hide (Rows.keep D5_s0.out (Kp.setLoc (T := allT) (i := 1) (v := .slice ra1 (S.kinds.length + T.kinds.length) rc1) LS_s0.out (by decide)) (by decide) (fun _ _ h => h.keep (inner_all (Kp.setLoc (T := allT) (i := 1) (v := .slice ra1 (S.kinds.length + T.kinds.length) rc1) LS_s0.out (by decide)) (by decide))))
  clear D5_s0
  have D6_t0 := hide (Rows.keep D6_s0.out (Kp.setLoc (T := allT) (i := 1) (v := .slice ra1 (S.kinds.length + T.kinds.length) rc1) LS_s0.out (by decide)) (by decide) (fun _ _ h => h))
  clear D6_s0
  have D7_t0 := hide (Rows.keep D7_s0.out (Kp.setLoc (T := allT) (i := 1) (v := .slice ra1 (S.kinds.length + T.kinds.length) rc1) LS_s0.out (by decide)) (by decide) (fun _ _ h => h.keep (inner_all (Kp.setLoc (T := allT) (i := 1) (v := .slice ra1 (S.kinds.length + T.kinds.length) rc1) LS_s0.out (by decide)) (by decide))))
  clear D7_s0
  have R0_t0 := hide (Rows.keep R0.out (Kp.setLoc (T := allT) (i := 1) (v := .slice ra1 (S.kinds.length + T.kinds.length) rc1) LS_s0.out (by decide)) (by decide) (fun _ _ h => h))
  clear R0
  have LB_t0 := hide (loc_other (p := ⟨w1.heap.size, 1, none⟩) (v := .slice ra1 (S.kinds.length + T.kinds.length) rc1) LB_s0.out (by show w.heap.size + 1 ≠ w1.heap.size; omega))
  clear LB_s0
  have LR_t0 := hide (loc_other (p := ⟨w1.heap.size, 1, none⟩) (v := .slice ra1 (S.kinds.length + T.kinds.length) rc1) LR_s0.out (by show w.heap.size + 1 + 1 ≠ w1.heap.size; omega))
  clear LR_s0
  have zsf := fun j => frozen_of_row _ _ j _ _ LS_s0.out
  have zs := cellAt9_1 LS_s0.out
  have LS_t0 := hide (loc_set (i := 1) (v := .slice ra1 (S.kinds.length + T.kinds.length) rc1) LS_s0.out)
  clear LS_s0
  simp only [List.setIfInBounds_toArray, List.set_cons_zero, List.set_cons_succ] at LS_t0
  have BW_t0 := hide (below_set BW_s0.out (show w.heap.size ≤ w1.heap.size by omega) 1 (.slice ra1 (S.kinds.length + T.kinds.length) rc1))
  clear BW_s0
  obtain ⟨iM, hiM, zM0, zM1, zM2⟩ := info_parts' info_member
  obtain ⟨xs, hrow, hold⟩ := D1_t0.out
  obtain ⟨ys, hrow2, hold2⟩ := HTt0.out.members
  have hone := rows_cells (Q := fun z => ∃ a, cM _ a z) (by decide) hrow2.1.1 rfl (fun i a hi => ⟨a, hold2 i a hi⟩) (one_M _)
  have HX := hide hrow
  have HY := hide hrow2
  have HXo := hide hold
  have HYo := hide hold2
  have H1 := hide hone
  clear hrow hrow2 hold hold2 hone
  have zs := cellAt9_2 LS_t0.out
  have zb := cellAt9_2 LB_t0.out
  have zsf := fun j => frozen_of_row _ _ j _ _ LS_t0.out
  go_wp2_with (at_builtin; go_must (refine wpList_append_src _ (by rfl) _ _ 23 23 rfl 78 iM _ 2 32 Tryz.underlying23 hiM zM0 zM1 zM2 (by decide) rfl _ _ xs rfl HX.out.1 _ _ ys rfl (src_own HY.out.1 Tryz.underlying23 H1.out) (by omega) ?_))
  intro v3 w3 hown hgr
  clear zs zb zsf
  have LB_s1 := hide (grown_block hgr LB_t0.out (fun e => by have := OD1.out _ e.symm; omega))
  clear LB_t0
  have LR_s1 := hide (grown_block hgr LR_t0.out (fun e => by have := OD1.out _ e.symm; omega))
  clear LR_t0
  have LS_s1 := hide (grown_block hgr LS_t0.out (fun e => by have := OD1.out _ e.symm; omega))
  clear LS_t0
  have BW_s1 := hide (grown_below2 BW_t0.out hgr (fun g e => by have := OD1.out g e; omega) (Nat.le_refl _))
  clear BW_t0
  have RJ := rows_join (w' := w3) (C := cM) (c1 := fun a z => cM w a z) (c2 := fun a z => cM w a z) HX.out.1.1 HXo.out HYo.out (fun a z h => h) (fun a z h => h) hown
  have HTs1 := hide (HTt0.out.keep (Kp.of_grown2 hgr (fun g (hg : g < w.heap.size) e => by have := OD1.out g e.symm; omega)))
  clear HTt0
  have D2_s1 := hide (Rows.keep D2_t0.out (Kp.of_grown (T := [9, 93, 109, 107, 92, 22, 126, 100, 128, 111]) hgr (fun g e => Rows.own D1_t0.out g e) (by decide)) (by decide) (fun _ _ h => h.keep (inner_all (Kp.of_grown (T := [9, 93, 109, 107, 92, 22, 126, 100, 128, 111]) hgr (fun g e => Rows.own D1_t0.out g e) (by decide)) (by decide))))
  clear D2_t0
  have D3_s1 := hide (Rows.keep D3_t0.out (Kp.of_grown (T := [9, 93, 109, 107, 92, 22, 126, 100, 128, 111]) hgr (fun g e => Rows.own D1_t0.out g e) (by decide)) (by decide) (fun _ _ h => h.keep (inner_all (Kp.of_grown (T := [9, 93, 109, 107, 92, 22, 126, 100, 128, 111]) hgr (fun g e => Rows.own D1_t0.out g e) (by decide)) (by decide))))
  clear D3_t0
  have D4_s1 := hide (Rows.keep D4_t0.out (Kp.of_grown (T := [9, 93, 109, 107, 92, 22, 126, 100, 128, 111]) hgr (fun g e => Rows.own D1_t0.out g e) (by decide)) (by decide) (fun _ _ h => h))
  clear D4_t0
  have D5_s1 := hide (Rows.keep D5_t0.out (Kp.of_grown (T := [9, 93, 109, 107, 92, 22, 126, 100, 128, 111]) hgr (fun g e => Rows.own D1_t0.out g e) (by decide)) (by decide) (fun _ _ h => h.keep (inner_all (Kp.of_grown (T := [9, 93, 109, 107, 92, 22, 126, 100, 128, 111]) hgr (fun g e => Rows.own D1_t0.out g e) (by decide)) (by decide))))
  clear D5_t0
  have D6_s1 := hide (Rows.keep D6_t0.out (Kp.of_grown (T := [9, 93, 109, 107, 92, 22, 126, 100, 128, 111]) hgr (fun g e => Rows.own D1_t0.out g e) (by decide)) (by decide) (fun _ _ h => h))
  clear D6_t0
  have D7_s1 := hide (Rows.keep D7_t0.out (Kp.of_grown (T := [9, 93, 109, 107, 92, 22, 126, 100, 128, 111]) hgr (fun g e => Rows.own D1_t0.out g e) (by decide)) (by decide) (fun _ _ h => h.keep (inner_all (Kp.of_grown (T := [9, 93, 109, 107, 92, 22, 126, 100, 128, 111]) hgr (fun g e => Rows.own D1_t0.out g e) (by decide)) (by decide))))
  clear D7_t0
  have R0_s1 := hide (Rows.keep R0_t0.out (Kp.of_grown (T := [9, 93, 109, 107, 92, 22, 126, 100, 128, 111]) hgr (fun g e => Rows.own D1_t0.out g e) (by decide)) (by decide) (fun _ _ h => h))
  clear R0_t0
  clear D1_t0
  obtain ⟨ra2, rc2, hv2⟩ := rows_form RJ
  rw [List.length_append] at hv2
  subst hv2
  have R1 := hide RJ
  clear RJ hown hgr HX HY HXo HYo H1 hiM zM0 zM1 zM2 iM xs ys
  have HTt1 := hide (HTs1.out.keep (Kp.setLoc (i := 2) (v := .slice ra2 (S.members.length + T.members.length) rc2) LS_s1.out (by decide)))
  clear HTs1
  have D2_t1 := hide (Rows.keep D2_s1.out (Kp.setLoc (T := allT) (i := 2) (v := .slice ra2 (S.members.length + T.members.length) rc2) LS_s1.out (by decide)) (by decide) (fun _ _ h => h.keep (inner_all (Kp.setLoc (T := allT) (i := 2) (v := .slice ra2 (S.members.length + T.members.length) rc2) LS_s1.out (by decide)) (by decide))))
  clear D2_s1
  have D3_t1 := hide (Rows.keep D3_s1.out (Kp.setLoc (T := allT) (i := 2) (v := .slice ra2 (S.members.length + T.members.length) rc2) LS_s1.out (by decide)) (by decide) (fun _ _ h => h.keep (inner_all (Kp.setLoc (T := allT) (i := 2) (v := .slice ra2 (S.members.length + T.members.length) rc2) LS_s1.out (by decide)) (by decide))))
  clear D3_s1
  have D4_t1 := hide (Rows.keep D4_s1.out (Kp.setLoc (T := allT) (i := 2) (v := .slice ra2 (S.members.length + T.members.length) rc2) LS_s1.out (by decide)) (by decide) (fun _ _ h => h))
  clear D4_s1
  have D5_t1 := hide (Rows.keep D5_s1.out (Kp.setLoc (T := allT) (i := 2) (v := .slice ra2 (S.members.length + T.members.length) rc2) LS_s1.out (by decide)) (by decide) (fun _ _ h => h.keep (inner_all (Kp.setLoc (T := allT) (i := 2) (v := .slice ra2 (S.members.length + T.members.length) rc2) LS_s1.out (by decide)) (by decide))))
  clear D5_s1
  have D6_t1 := hide (Rows.keep D6_s1.out (Kp.setLoc (T := allT) (i := 2) (v := .slice ra2 (S.members.length + T.members.length) rc2) LS_s1.out (by decide)) (by decide) (fun _ _ h => h))
  clear D6_s1
  have D7_t1 := hide (Rows.keep D7_s1.out (Kp.setLoc (T := allT) (i := 2) (v := .slice ra2 (S.members.length + T.members.length) rc2) LS_s1.out (by decide)) (by decide) (fun _ _ h => h.keep (inner_all (Kp.setLoc (T := allT) (i := 2) (v := .slice ra2 (S.members.length + T.members.length) rc2) LS_s1.out (by decide)) (by decide))))
  clear D7_s1
  have R0_t1 := hide (Rows.keep R0_s1.out (Kp.setLoc (T := allT) (i := 2) (v := .slice ra2 (S.members.length + T.members.length) rc2) LS_s1.out (by decide)) (by decide) (fun _ _ h => h))
  clear R0_s1
  have R1_t1 := hide (Rows.keep R1.out (Kp.setLoc (T := allT) (i := 2) (v := .slice ra2 (S.members.length + T.members.length) rc2) LS_s1.out (by decide)) (by decide) (fun _ _ h => h))
  clear R1
  have LB_t1 := hide (loc_other (p := ⟨w1.heap.size, 2, none⟩) (v := .slice ra2 (S.members.length + T.members.length) rc2) LB_s1.out (by show w.heap.size + 1 ≠ w1.heap.size; omega))
  clear LB_s1
  have LR_t1 := hide (loc_other (p := ⟨w1.heap.size, 2, none⟩) (v := .slice ra2 (S.members.length + T.members.length) rc2) LR_s1.out (by show w.heap.size + 1 + 1 ≠ w1.heap.size; omega))
  clear LR_s1
  have zsf := fun j => frozen_of_row _ _ j _ _ LS_s1.out
  have zs := cellAt9_2 LS_s1.out
  have LS_t1 := hide (loc_set (i := 2) (v := .slice ra2 (S.members.length + T.members.length) rc2) LS_s1.out)
  clear LS_s1
  simp only [List.setIfInBounds_toArray, List.set_cons_zero, List.set_cons_succ] at LS_t1
  have BW_t1 := hide (below_set BW_s1.out (show w.heap.size ≤ w1.heap.size by omega) 2 (.slice ra2 (S.members.length + T.members.length) rc2))
  clear BW_s1
  obtain ⟨iM, hiM, zM0, zM1, zM2⟩ := info_parts' info_pred
  obtain ⟨xs, hrow, hold⟩ := D2_t1.out
  obtain ⟨ys, hrow2, hold2⟩ := HTt1.out.preds
  have hone := rows_cells (Q := fun z => ∃ a, cPred (· < w.heap.size) _ a z) (by decide) hrow2.1.1 rfl (fun i a hi => ⟨a, hold2 i a hi⟩) (one_Pred _)
  have HX := hide hrow
  have HY := hide hrow2
  have HXo := hide hold
  have HYo := hide hold2
  have H1 := hide hone
  clear hrow hrow2 hold hold2 hone
  have zs := cellAt9_3 LS_t1.out
  have zb := cellAt9_3 LB_t1.out
  have zsf := fun j => frozen_of_row _ _ j _ _ LS_t1.out
  go_wp2_with (at_builtin; go_must (refine wpList_append_src _ (by rfl) _ _ 24 24 rfl 92 iM _ 4 72 Tryz.underlying24 hiM zM0 zM1 zM2 (by decide) rfl _ _ xs rfl HX.out.1 _ _ ys rfl (src_own HY.out.1 Tryz.underlying24 H1.out) (by omega) ?_))
  intro v4 w4 hown hgr
  clear zs zb zsf
  have LB_s2 := hide (grown_block hgr LB_t1.out (fun e => by have := OD2.out _ e.symm; omega))
  clear LB_t1
  have LR_s2 := hide (grown_block hgr LR_t1.out (fun e => by have := OD2.out _ e.symm; omega))
  clear LR_t1
  have LS_s2 := hide (grown_block hgr LS_t1.out (fun e => by have := OD2.out _ e.symm; omega))
  clear LS_t1
  have BW_s2 := hide (grown_below2 BW_t1.out hgr (fun g e => by have := OD2.out g e; omega) (Nat.le_refl _))
  clear BW_t1
  have KI : Kp inner (· < w.heap.size) _ w4 := Kp.of_grown hgr (fun g e => Rows.own D2_t1.out g e) (by decide)
  have KD : Kp inner (Beh (w.heap.size + 3 + 1) (Value.slice da1 S.kinds.length dc1)) _ w4 := Kp.of_grown hgr (fun g e => Rows.own D2_t1.out g e) (by decide)
  have RJ := rows_join (w' := w4) (C := cPred (fun _ => True)) (c1 := fun a z => cPred (Beh (w.heap.size + 3 + 1) (Value.slice da1 S.kinds.length dc1)) _ a z) (c2 := fun a z => cPred (· < w.heap.size) _ a z) HX.out.1.1 HXo.out HYo.out (fun a z h => (h.keep KD).mono fun _ _ => trivial) (fun a z h => (h.keep KI).mono fun _ _ => trivial) hown
  have HTs2 := hide (HTt1.out.keep (Kp.of_grown2 hgr (fun g (hg : g < w.heap.size) e => by have := OD2.out g e.symm; omega)))
  clear HTt1
  have D3_s2 := hide (Rows.keep D3_t1.out (Kp.of_grown (T := [9, 93, 109, 107, 78, 22, 126, 100, 128, 111]) hgr (fun g e => Rows.own D2_t1.out g e) (by decide)) (by decide) (fun _ _ h => h.keep (inner_all (Kp.of_grown (T := [9, 93, 109, 107, 78, 22, 126, 100, 128, 111]) hgr (fun g e => Rows.own D2_t1.out g e) (by decide)) (by decide))))
  clear D3_t1
  have D4_s2 := hide (Rows.keep D4_t1.out (Kp.of_grown (T := [9, 93, 109, 107, 78, 22, 126, 100, 128, 111]) hgr (fun g e => Rows.own D2_t1.out g e) (by decide)) (by decide) (fun _ _ h => h))
  clear D4_t1
  have D5_s2 := hide (Rows.keep D5_t1.out (Kp.of_grown (T := [9, 93, 109, 107, 78, 22, 126, 100, 128, 111]) hgr (fun g e => Rows.own D2_t1.out g e) (by decide)) (by decide) (fun _ _ h => h.keep (inner_all (Kp.of_grown (T := [9, 93, 109, 107, 78, 22, 126, 100, 128, 111]) hgr (fun g e => Rows.own D2_t1.out g e) (by decide)) (by decide))))
  clear D5_t1
  have D6_s2 := hide (Rows.keep D6_t1.out (Kp.of_grown (T := [9, 93, 109, 107, 78, 22, 126, 100, 128, 111]) hgr (fun g e => Rows.own D2_t1.out g e) (by decide)) (by decide) (fun _ _ h => h))
  clear D6_t1
  have D7_s2 := hide (Rows.keep D7_t1.out (Kp.of_grown (T := [9, 93, 109, 107, 78, 22, 126, 100, 128, 111]) hgr (fun g e => Rows.own D2_t1.out g e) (by decide)) (by decide) (fun _ _ h => h.keep (inner_all (Kp.of_grown (T := [9, 93, 109, 107, 78, 22, 126, 100, 128, 111]) hgr (fun g e => Rows.own D2_t1.out g e) (by decide)) (by decide))))
  clear D7_t1
  have R0_s2 := hide (Rows.keep R0_t1.out (Kp.of_grown (T := [9, 93, 109, 107, 78, 22, 126, 100, 128, 111]) hgr (fun g e => Rows.own D2_t1.out g e) (by decide)) (by decide) (fun _ _ h => h))
  clear R0_t1
  have R1_s2 := hide (Rows.keep R1_t1.out (Kp.of_grown (T := [9, 93, 109, 107, 78, 22, 126, 100, 128, 111]) hgr (fun g e => Rows.own D2_t1.out g e) (by decide)) (by decide) (fun _ _ h => h))
  clear R1_t1
  clear D2_t1
  obtain ⟨ra3, rc3, hv3⟩ := rows_form RJ
  rw [List.length_append] at hv3
  subst hv3
  have R2 := hide RJ
  clear RJ hown hgr HX HY HXo HYo H1 hiM zM0 zM1 zM2 iM xs ys KI KD
  have HTt2 := hide (HTs2.out.keep (Kp.setLoc (i := 3) (v := .slice ra3 (S.preds.length + T.preds.length) rc3) LS_s2.out (by decide)))
  clear HTs2
  have D3_t2 := hide (Rows.keep D3_s2.out (Kp.setLoc (T := allT) (i := 3) (v := .slice ra3 (S.preds.length + T.preds.length) rc3) LS_s2.out (by decide)) (by decide) (fun _ _ h => h.keep (inner_all (Kp.setLoc (T := allT) (i := 3) (v := .slice ra3 (S.preds.length + T.preds.length) rc3) LS_s2.out (by decide)) (by decide))))
  clear D3_s2
  have D4_t2 := hide (Rows.keep D4_s2.out (Kp.setLoc (T := allT) (i := 3) (v := .slice ra3 (S.preds.length + T.preds.length) rc3) LS_s2.out (by decide)) (by decide) (fun _ _ h => h))
  clear D4_s2
  have D5_t2 := hide (Rows.keep D5_s2.out (Kp.setLoc (T := allT) (i := 3) (v := .slice ra3 (S.preds.length + T.preds.length) rc3) LS_s2.out (by decide)) (by decide) (fun _ _ h => h.keep (inner_all (Kp.setLoc (T := allT) (i := 3) (v := .slice ra3 (S.preds.length + T.preds.length) rc3) LS_s2.out (by decide)) (by decide))))
  clear D5_s2
  have D6_t2 := hide (Rows.keep D6_s2.out (Kp.setLoc (T := allT) (i := 3) (v := .slice ra3 (S.preds.length + T.preds.length) rc3) LS_s2.out (by decide)) (by decide) (fun _ _ h => h))
  clear D6_s2
  have D7_t2 := hide (Rows.keep D7_s2.out (Kp.setLoc (T := allT) (i := 3) (v := .slice ra3 (S.preds.length + T.preds.length) rc3) LS_s2.out (by decide)) (by decide) (fun _ _ h => h.keep (inner_all (Kp.setLoc (T := allT) (i := 3) (v := .slice ra3 (S.preds.length + T.preds.length) rc3) LS_s2.out (by decide)) (by decide))))
  clear D7_s2
  have R0_t2 := hide (Rows.keep R0_s2.out (Kp.setLoc (T := allT) (i := 3) (v := .slice ra3 (S.preds.length + T.preds.length) rc3) LS_s2.out (by decide)) (by decide) (fun _ _ h => h))
  clear R0_s2
  have R1_t2 := hide (Rows.keep R1_s2.out (Kp.setLoc (T := allT) (i := 3) (v := .slice ra3 (S.preds.length + T.preds.length) rc3) LS_s2.out (by decide)) (by decide) (fun _ _ h => h))
  clear R1_s2
  have R2_t2 := hide (Rows.keep R2.out (Kp.setLoc (T := allT) (i := 3) (v := .slice ra3 (S.preds.length + T.preds.length) rc3) LS_s2.out (by decide)) (by decide) (fun _ _ h => h.keep (inner_all (Kp.setLoc (T := allT) (i := 3) (v := .slice ra3 (S.preds.length + T.preds.length) rc3) LS_s2.out (by decide)) (by decide))))
  clear R2
  have LB_t2 := hide (loc_other (p := ⟨w1.heap.size, 3, none⟩) (v := .slice ra3 (S.preds.length + T.preds.length) rc3) LB_s2.out (by show w.heap.size + 1 ≠ w1.heap.size; omega))
  clear LB_s2
  have LR_t2 := hide (loc_other (p := ⟨w1.heap.size, 3, none⟩) (v := .slice ra3 (S.preds.length + T.preds.length) rc3) LR_s2.out (by show w.heap.size + 1 + 1 ≠ w1.heap.size; omega))
  clear LR_s2
  have zsf := fun j => frozen_of_row _ _ j _ _ LS_s2.out
  have zs := cellAt9_3 LS_s2.out
  have LS_t2 := hide (loc_set (i := 3) (v := .slice ra3 (S.preds.length + T.preds.length) rc3) LS_s2.out)
  clear LS_s2
  simp only [List.setIfInBounds_toArray, List.set_cons_zero, List.set_cons_succ] at LS_t2
  have BW_t2 := hide (below_set BW_s2.out (show w.heap.size ≤ w1.heap.size by omega) 3 (.slice ra3 (S.preds.length + T.preds.length) rc3))
  clear BW_s2
  obtain ⟨iM, hiM, zM0, zM1, zM2⟩ := info_parts' info_class
  obtain ⟨xs, hrow, hold⟩ := D3_t2.out
  obtain ⟨ys, hrow2, hold2⟩ := HTt2.out.classes
  have hone := rows_cells (Q := fun z => ∃ a, cClass (· < w.heap.size) _ a z) (by decide) hrow2.1.1 rfl (fun i a hi => ⟨a, hold2 i a hi⟩) (one_Class _)
  have HX := hide hrow
  have HY := hide hrow2
  have HXo := hide hold
  have HYo := hide hold2
  have H1 := hide hone
  clear hrow hrow2 hold hold2 hone
  have zs := cellAt9_4 LS_t2.out
  have zb := cellAt9_4 LB_t2.out
  have zsf := fun j => frozen_of_row _ _ j _ _ LS_t2.out
  go_wp2_with (at_builtin; go_must (refine wpList_append_src _ (by rfl) _ _ 25 25 rfl 22 iM _ 1 24 Tryz.underlying25 hiM zM0 zM1 zM2 (by decide) rfl _ _ xs rfl HX.out.1 _ _ ys rfl (src_own HY.out.1 Tryz.underlying25 H1.out) (by omega) ?_))
  intro v5 w5 hown hgr
  clear zs zb zsf
  have LB_s3 := hide (grown_block hgr LB_t2.out (fun e => by have := OD3.out _ e.symm; omega))
  clear LB_t2
  have LR_s3 := hide (grown_block hgr LR_t2.out (fun e => by have := OD3.out _ e.symm; omega))
  clear LR_t2
  have LS_s3 := hide (grown_block hgr LS_t2.out (fun e => by have := OD3.out _ e.symm; omega))
  clear LS_t2
  have BW_s3 := hide (grown_below2 BW_t2.out hgr (fun g e => by have := OD3.out g e; omega) (Nat.le_refl _))
  clear BW_t2
  have KI : Kp inner (· < w.heap.size) _ w5 := Kp.of_grown hgr (fun g e => Rows.own D3_t2.out g e) (by decide)
  have KD : Kp inner (Beh (w.heap.size + 3 + 1) (Value.slice da1 S.kinds.length dc1)) _ w5 := Kp.of_grown hgr (fun g e => Rows.own D3_t2.out g e) (by decide)
  have RJ := rows_join (w' := w5) (C := cClass (fun _ => True)) (c1 := fun a z => cClass (Beh (w.heap.size + 3 + 1) (Value.slice da1 S.kinds.length dc1)) _ a z) (c2 := fun a z => cClass (· < w.heap.size) _ a z) HX.out.1.1 HXo.out HYo.out (fun a z h => (h.keep KD).mono fun _ _ => trivial) (fun a z h => (h.keep KI).mono fun _ _ => trivial) hown
  have HTs3 := hide (HTt2.out.keep (Kp.of_grown2 hgr (fun g (hg : g < w.heap.size) e => by have := OD3.out g e.symm; omega)))
  clear HTt2
  have D4_s3 := hide (Rows.keep D4_t2.out (Kp.of_grown (T := [9, 93, 109, 107, 78, 92, 126, 100, 128, 111]) hgr (fun g e => Rows.own D3_t2.out g e) (by decide)) (by decide) (fun _ _ h => h))
  clear D4_t2
  have D5_s3 := hide (Rows.keep D5_t2.out (Kp.of_grown (T := [9, 93, 109, 107, 78, 92, 126, 100, 128, 111]) hgr (fun g e => Rows.own D3_t2.out g e) (by decide)) (by decide) (fun _ _ h => h.keep (inner_all (Kp.of_grown (T := [9, 93, 109, 107, 78, 92, 126, 100, 128, 111]) hgr (fun g e => Rows.own D3_t2.out g e) (by decide)) (by decide))))
  clear D5_t2
  have D6_s3 := hide (Rows.keep D6_t2.out (Kp.of_grown (T := [9, 93, 109, 107, 78, 92, 126, 100, 128, 111]) hgr (fun g e => Rows.own D3_t2.out g e) (by decide)) (by decide) (fun _ _ h => h))
  clear D6_t2
  have D7_s3 := hide (Rows.keep D7_t2.out (Kp.of_grown (T := [9, 93, 109, 107, 78, 92, 126, 100, 128, 111]) hgr (fun g e => Rows.own D3_t2.out g e) (by decide)) (by decide) (fun _ _ h => h.keep (inner_all (Kp.of_grown (T := [9, 93, 109, 107, 78, 92, 126, 100, 128, 111]) hgr (fun g e => Rows.own D3_t2.out g e) (by decide)) (by decide))))
  clear D7_t2
  have R0_s3 := hide (Rows.keep R0_t2.out (Kp.of_grown (T := [9, 93, 109, 107, 78, 92, 126, 100, 128, 111]) hgr (fun g e => Rows.own D3_t2.out g e) (by decide)) (by decide) (fun _ _ h => h))
  clear R0_t2
  have R1_s3 := hide (Rows.keep R1_t2.out (Kp.of_grown (T := [9, 93, 109, 107, 78, 92, 126, 100, 128, 111]) hgr (fun g e => Rows.own D3_t2.out g e) (by decide)) (by decide) (fun _ _ h => h))
  clear R1_t2
  have R2_s3 := hide (Rows.keep R2_t2.out (Kp.of_grown (T := [9, 93, 109, 107, 78, 92, 126, 100, 128, 111]) hgr (fun g e => Rows.own D3_t2.out g e) (by decide)) (by decide) (fun _ _ h => h.keep (inner_all (Kp.of_grown (T := [9, 93, 109, 107, 78, 92, 126, 100, 128, 111]) hgr (fun g e => Rows.own D3_t2.out g e) (by decide)) (by decide))))
  clear R2_t2
  clear D3_t2
  obtain ⟨ra4, rc4, hv4⟩ := rows_form RJ
  rw [List.length_append] at hv4
  subst hv4
  have R3 := hide RJ
  clear RJ hown hgr HX HY HXo HYo H1 hiM zM0 zM1 zM2 iM xs ys KI KD
  have HTt3 := hide (HTs3.out.keep (Kp.setLoc (i := 4) (v := .slice ra4 (S.classes.length + T.classes.length) rc4) LS_s3.out (by decide)))
  clear HTs3
  have D4_t3 := hide (Rows.keep D4_s3.out (Kp.setLoc (T := allT) (i := 4) (v := .slice ra4 (S.classes.length + T.classes.length) rc4) LS_s3.out (by decide)) (by decide) (fun _ _ h => h))
  clear D4_s3
  have D5_t3 := hide (Rows.keep D5_s3.out (Kp.setLoc (T := allT) (i := 4) (v := .slice ra4 (S.classes.length + T.classes.length) rc4) LS_s3.out (by decide)) (by decide) (fun _ _ h => h.keep (inner_all (Kp.setLoc (T := allT) (i := 4) (v := .slice ra4 (S.classes.length + T.classes.length) rc4) LS_s3.out (by decide)) (by decide))))
  clear D5_s3
  have D6_t3 := hide (Rows.keep D6_s3.out (Kp.setLoc (T := allT) (i := 4) (v := .slice ra4 (S.classes.length + T.classes.length) rc4) LS_s3.out (by decide)) (by decide) (fun _ _ h => h))
  clear D6_s3
  have D7_t3 := hide (Rows.keep D7_s3.out (Kp.setLoc (T := allT) (i := 4) (v := .slice ra4 (S.classes.length + T.classes.length) rc4) LS_s3.out (by decide)) (by decide) (fun _ _ h => h.keep (inner_all (Kp.setLoc (T := allT) (i := 4) (v := .slice ra4 (S.classes.length + T.classes.length) rc4) LS_s3.out (by decide)) (by decide))))
  clear D7_s3
  have R0_t3 := hide (Rows.keep R0_s3.out (Kp.setLoc (T := allT) (i := 4) (v := .slice ra4 (S.classes.length + T.classes.length) rc4) LS_s3.out (by decide)) (by decide) (fun _ _ h => h))
  clear R0_s3
  have R1_t3 := hide (Rows.keep R1_s3.out (Kp.setLoc (T := allT) (i := 4) (v := .slice ra4 (S.classes.length + T.classes.length) rc4) LS_s3.out (by decide)) (by decide) (fun _ _ h => h))
  clear R1_s3
  have R2_t3 := hide (Rows.keep R2_s3.out (Kp.setLoc (T := allT) (i := 4) (v := .slice ra4 (S.classes.length + T.classes.length) rc4) LS_s3.out (by decide)) (by decide) (fun _ _ h => h.keep (inner_all (Kp.setLoc (T := allT) (i := 4) (v := .slice ra4 (S.classes.length + T.classes.length) rc4) LS_s3.out (by decide)) (by decide))))
  clear R2_s3
  have R3_t3 := hide (Rows.keep R3.out (Kp.setLoc (T := allT) (i := 4) (v := .slice ra4 (S.classes.length + T.classes.length) rc4) LS_s3.out (by decide)) (by decide) (fun _ _ h => h.keep (inner_all (Kp.setLoc (T := allT) (i := 4) (v := .slice ra4 (S.classes.length + T.classes.length) rc4) LS_s3.out (by decide)) (by decide))))
  clear R3
  have LB_t3 := hide (loc_other (p := ⟨w1.heap.size, 4, none⟩) (v := .slice ra4 (S.classes.length + T.classes.length) rc4) LB_s3.out (by show w.heap.size + 1 ≠ w1.heap.size; omega))
  clear LB_s3
  have LR_t3 := hide (loc_other (p := ⟨w1.heap.size, 4, none⟩) (v := .slice ra4 (S.classes.length + T.classes.length) rc4) LR_s3.out (by show w.heap.size + 1 + 1 ≠ w1.heap.size; omega))
  clear LR_s3
  have zsf := fun j => frozen_of_row _ _ j _ _ LS_s3.out
  have zs := cellAt9_4 LS_s3.out
  have LS_t3 := hide (loc_set (i := 4) (v := .slice ra4 (S.classes.length + T.classes.length) rc4) LS_s3.out)
  clear LS_s3
  simp only [List.setIfInBounds_toArray, List.set_cons_zero, List.set_cons_succ] at LS_t3
  have BW_t3 := hide (below_set BW_s3.out (show w.heap.size ≤ w1.heap.size by omega) 4 (.slice ra4 (S.classes.length + T.classes.length) rc4))
  clear BW_s3
  obtain ⟨iM, hiM, zM0, zM1, zM2⟩ := info_parts' info_source
  obtain ⟨xs, hrow, hold⟩ := D4_t3.out
  obtain ⟨ys, hrow2, hold2⟩ := HTt3.out.sources
  have hone := rows_cells (Q := fun z => ∃ a, cSrc _ a z) (by decide) hrow2.1.1 rfl (fun i a hi => ⟨a, hold2 i a hi⟩) (one_Src _)
  have HX := hide hrow
  have HY := hide hrow2
  have HXo := hide hold
  have HYo := hide hold2
  have H1 := hide hone
  clear hrow hrow2 hold hold2 hone
  have zs := cellAt9_5 LS_t3.out
  have zb := cellAt9_5 LB_t3.out
  have zsf := fun j => frozen_of_row _ _ j _ _ LS_t3.out
  go_wp2_with (at_builtin; go_must (refine wpList_append_src _ (by rfl) _ _ 26 26 rfl 126 iM _ 2 24 Tryz.underlying26 hiM zM0 zM1 zM2 (by decide) rfl _ _ xs rfl HX.out.1 _ _ ys rfl (src_own HY.out.1 Tryz.underlying26 H1.out) (by omega) ?_))
  intro v6 w6 hown hgr
  clear zs zb zsf
  have LB_s4 := hide (grown_block hgr LB_t3.out (fun e => by have := OD4.out _ e.symm; omega))
  clear LB_t3
  have LR_s4 := hide (grown_block hgr LR_t3.out (fun e => by have := OD4.out _ e.symm; omega))
  clear LR_t3
  have LS_s4 := hide (grown_block hgr LS_t3.out (fun e => by have := OD4.out _ e.symm; omega))
  clear LS_t3
  have BW_s4 := hide (grown_below2 BW_t3.out hgr (fun g e => by have := OD4.out g e; omega) (Nat.le_refl _))
  clear BW_t3
  have RJ := rows_join (w' := w6) (C := cSrc) (c1 := fun a z => cSrc w a z) (c2 := fun a z => cSrc w a z) HX.out.1.1 HXo.out HYo.out (fun a z h => h) (fun a z h => h) hown
  have HTs4 := hide (HTt3.out.keep (Kp.of_grown2 hgr (fun g (hg : g < w.heap.size) e => by have := OD4.out g e.symm; omega)))
  clear HTt3
  have D5_s4 := hide (Rows.keep D5_t3.out (Kp.of_grown (T := [9, 93, 109, 107, 78, 92, 22, 100, 128, 111]) hgr (fun g e => Rows.own D4_t3.out g e) (by decide)) (by decide) (fun _ _ h => h.keep (inner_all (Kp.of_grown (T := [9, 93, 109, 107, 78, 92, 22, 100, 128, 111]) hgr (fun g e => Rows.own D4_t3.out g e) (by decide)) (by decide))))
  clear D5_t3
  have D6_s4 := hide (Rows.keep D6_t3.out (Kp.of_grown (T := [9, 93, 109, 107, 78, 92, 22, 100, 128, 111]) hgr (fun g e => Rows.own D4_t3.out g e) (by decide)) (by decide) (fun _ _ h => h))
  clear D6_t3
  have D7_s4 := hide (Rows.keep D7_t3.out (Kp.of_grown (T := [9, 93, 109, 107, 78, 92, 22, 100, 128, 111]) hgr (fun g e => Rows.own D4_t3.out g e) (by decide)) (by decide) (fun _ _ h => h.keep (inner_all (Kp.of_grown (T := [9, 93, 109, 107, 78, 92, 22, 100, 128, 111]) hgr (fun g e => Rows.own D4_t3.out g e) (by decide)) (by decide))))
  clear D7_t3
  have R0_s4 := hide (Rows.keep R0_t3.out (Kp.of_grown (T := [9, 93, 109, 107, 78, 92, 22, 100, 128, 111]) hgr (fun g e => Rows.own D4_t3.out g e) (by decide)) (by decide) (fun _ _ h => h))
  clear R0_t3
  have R1_s4 := hide (Rows.keep R1_t3.out (Kp.of_grown (T := [9, 93, 109, 107, 78, 92, 22, 100, 128, 111]) hgr (fun g e => Rows.own D4_t3.out g e) (by decide)) (by decide) (fun _ _ h => h))
  clear R1_t3
  have R2_s4 := hide (Rows.keep R2_t3.out (Kp.of_grown (T := [9, 93, 109, 107, 78, 92, 22, 100, 128, 111]) hgr (fun g e => Rows.own D4_t3.out g e) (by decide)) (by decide) (fun _ _ h => h.keep (inner_all (Kp.of_grown (T := [9, 93, 109, 107, 78, 92, 22, 100, 128, 111]) hgr (fun g e => Rows.own D4_t3.out g e) (by decide)) (by decide))))
  clear R2_t3
  have R3_s4 := hide (Rows.keep R3_t3.out (Kp.of_grown (T := [9, 93, 109, 107, 78, 92, 22, 100, 128, 111]) hgr (fun g e => Rows.own D4_t3.out g e) (by decide)) (by decide) (fun _ _ h => h.keep (inner_all (Kp.of_grown (T := [9, 93, 109, 107, 78, 92, 22, 100, 128, 111]) hgr (fun g e => Rows.own D4_t3.out g e) (by decide)) (by decide))))
  clear R3_t3
  clear D4_t3
  obtain ⟨ra5, rc5, hv5⟩ := rows_form RJ
  rw [List.length_append] at hv5
  subst hv5
  have R4 := hide RJ
  clear RJ hown hgr HX HY HXo HYo H1 hiM zM0 zM1 zM2 iM xs ys
  have HTt4 := hide (HTs4.out.keep (Kp.setLoc (i := 5) (v := .slice ra5 (S.sources.length + T.sources.length) rc5) LS_s4.out (by decide)))
  clear HTs4
  have D5_t4 := hide (Rows.keep D5_s4.out (Kp.setLoc (T := allT) (i := 5) (v := .slice ra5 (S.sources.length + T.sources.length) rc5) LS_s4.out (by decide)) (by decide) (fun _ _ h => h.keep (inner_all (Kp.setLoc (T := allT) (i := 5) (v := .slice ra5 (S.sources.length + T.sources.length) rc5) LS_s4.out (by decide)) (by decide))))
  clear D5_s4
  have D6_t4 := hide (Rows.keep D6_s4.out (Kp.setLoc (T := allT) (i := 5) (v := .slice ra5 (S.sources.length + T.sources.length) rc5) LS_s4.out (by decide)) (by decide) (fun _ _ h => h))
  clear D6_s4
  have D7_t4 := hide (Rows.keep D7_s4.out (Kp.setLoc (T := allT) (i := 5) (v := .slice ra5 (S.sources.length + T.sources.length) rc5) LS_s4.out (by decide)) (by decide) (fun _ _ h => h.keep (inner_all (Kp.setLoc (T := allT) (i := 5) (v := .slice ra5 (S.sources.length + T.sources.length) rc5) LS_s4.out (by decide)) (by decide))))
  clear D7_s4
  have R0_t4 := hide (Rows.keep R0_s4.out (Kp.setLoc (T := allT) (i := 5) (v := .slice ra5 (S.sources.length + T.sources.length) rc5) LS_s4.out (by decide)) (by decide) (fun _ _ h => h))
  clear R0_s4
  have R1_t4 := hide (Rows.keep R1_s4.out (Kp.setLoc (T := allT) (i := 5) (v := .slice ra5 (S.sources.length + T.sources.length) rc5) LS_s4.out (by decide)) (by decide) (fun _ _ h => h))
  clear R1_s4
  have R2_t4 := hide (Rows.keep R2_s4.out (Kp.setLoc (T := allT) (i := 5) (v := .slice ra5 (S.sources.length + T.sources.length) rc5) LS_s4.out (by decide)) (by decide) (fun _ _ h => h.keep (inner_all (Kp.setLoc (T := allT) (i := 5) (v := .slice ra5 (S.sources.length + T.sources.length) rc5) LS_s4.out (by decide)) (by decide))))
  clear R2_s4
  have R3_t4 := hide (Rows.keep R3_s4.out (Kp.setLoc (T := allT) (i := 5) (v := .slice ra5 (S.sources.length + T.sources.length) rc5) LS_s4.out (by decide)) (by decide) (fun _ _ h => h.keep (inner_all (Kp.setLoc (T := allT) (i := 5) (v := .slice ra5 (S.sources.length + T.sources.length) rc5) LS_s4.out (by decide)) (by decide))))
  clear R3_s4
  have R4_t4 := hide (Rows.keep R4.out (Kp.setLoc (T := allT) (i := 5) (v := .slice ra5 (S.sources.length + T.sources.length) rc5) LS_s4.out (by decide)) (by decide) (fun _ _ h => h))
  clear R4
  have LB_t4 := hide (loc_other (p := ⟨w1.heap.size, 5, none⟩) (v := .slice ra5 (S.sources.length + T.sources.length) rc5) LB_s4.out (by show w.heap.size + 1 ≠ w1.heap.size; omega))
  clear LB_s4
  have LR_t4 := hide (loc_other (p := ⟨w1.heap.size, 5, none⟩) (v := .slice ra5 (S.sources.length + T.sources.length) rc5) LR_s4.out (by show w.heap.size + 1 + 1 ≠ w1.heap.size; omega))
  clear LR_s4
  have zsf := fun j => frozen_of_row _ _ j _ _ LS_s4.out
  have zs := cellAt9_5 LS_s4.out
  have LS_t4 := hide (loc_set (i := 5) (v := .slice ra5 (S.sources.length + T.sources.length) rc5) LS_s4.out)
  clear LS_s4
  simp only [List.setIfInBounds_toArray, List.set_cons_zero, List.set_cons_succ] at LS_t4
  have BW_t4 := hide (below_set BW_s4.out (show w.heap.size ≤ w1.heap.size by omega) 5 (.slice ra5 (S.sources.length + T.sources.length) rc5))
  clear BW_s4
  obtain ⟨iM, hiM, zM0, zM1, zM2⟩ := info_parts' info_rule
  obtain ⟨xs, hrow, hold⟩ := D5_t4.out
  obtain ⟨ys, hrow2, hold2⟩ := HTt4.out.rules
  have hone := rows_cells (Q := fun z => ∃ a, cRule (· < w.heap.size) _ a z) (by decide) hrow2.1.1 rfl (fun i a hi => ⟨a, hold2 i a hi⟩) (one_Rule _)
  have HX := hide hrow
  have HY := hide hrow2
  have HXo := hide hold
  have HYo := hide hold2
  have H1 := hide hone
  clear hrow hrow2 hold hold2 hone
  have zs := cellAt9_6 LS_t4.out
  have zb := cellAt9_6 LB_t4.out
  have zsf := fun j => frozen_of_row _ _ j _ _ LS_t4.out
  go_wp2_with (at_builtin; go_must (refine wpList_append_src _ (by rfl) _ _ 27 27 rfl 100 iM _ 11 144 Tryz.underlying27 hiM zM0 zM1 zM2 (by decide) rfl _ _ xs rfl HX.out.1 _ _ ys rfl (src_own HY.out.1 Tryz.underlying27 H1.out) (by omega) ?_))
  intro v7 w7 hown hgr
  clear zs zb zsf
  have LB_s5 := hide (grown_block hgr LB_t4.out (fun e => by have := OD5.out _ e.symm; omega))
  clear LB_t4
  have LR_s5 := hide (grown_block hgr LR_t4.out (fun e => by have := OD5.out _ e.symm; omega))
  clear LR_t4
  have LS_s5 := hide (grown_block hgr LS_t4.out (fun e => by have := OD5.out _ e.symm; omega))
  clear LS_t4
  have BW_s5 := hide (grown_below2 BW_t4.out hgr (fun g e => by have := OD5.out g e; omega) (Nat.le_refl _))
  clear BW_t4
  have KI : Kp inner (· < w.heap.size) _ w7 := Kp.of_grown hgr (fun g e => Rows.own D5_t4.out g e) (by decide)
  have KD : Kp inner (Beh (w.heap.size + 3 + 1) (Value.slice da1 S.kinds.length dc1)) _ w7 := Kp.of_grown hgr (fun g e => Rows.own D5_t4.out g e) (by decide)
  have RJ := rows_join (w' := w7) (C := cRule (fun _ => True)) (c1 := fun a z => cRule (Beh (w.heap.size + 3 + 1) (Value.slice da1 S.kinds.length dc1)) _ a z) (c2 := fun a z => cRule (· < w.heap.size) _ a z) HX.out.1.1 HXo.out HYo.out (fun a z h => (h.keep KD).mono fun _ _ => trivial) (fun a z h => (h.keep KI).mono fun _ _ => trivial) hown
  have HTs5 := hide (HTt4.out.keep (Kp.of_grown2 hgr (fun g (hg : g < w.heap.size) e => by have := OD5.out g e.symm; omega)))
  clear HTt4
  have D6_s5 := hide (Rows.keep D6_t4.out (Kp.of_grown (T := [9, 93, 109, 107, 78, 92, 22, 126, 128, 111]) hgr (fun g e => Rows.own D5_t4.out g e) (by decide)) (by decide) (fun _ _ h => h))
  clear D6_t4
  have D7_s5 := hide (Rows.keep D7_t4.out (Kp.of_grown (T := [9, 93, 109, 107, 78, 92, 22, 126, 128, 111]) hgr (fun g e => Rows.own D5_t4.out g e) (by decide)) (by decide) (fun _ _ h => h.keep (inner_all (Kp.of_grown (T := [9, 93, 109, 107, 78, 92, 22, 126, 128, 111]) hgr (fun g e => Rows.own D5_t4.out g e) (by decide)) (by decide))))
  clear D7_t4
  have R0_s5 := hide (Rows.keep R0_t4.out (Kp.of_grown (T := [9, 93, 109, 107, 78, 92, 22, 126, 128, 111]) hgr (fun g e => Rows.own D5_t4.out g e) (by decide)) (by decide) (fun _ _ h => h))
  clear R0_t4
  have R1_s5 := hide (Rows.keep R1_t4.out (Kp.of_grown (T := [9, 93, 109, 107, 78, 92, 22, 126, 128, 111]) hgr (fun g e => Rows.own D5_t4.out g e) (by decide)) (by decide) (fun _ _ h => h))
  clear R1_t4
  have R2_s5 := hide (Rows.keep R2_t4.out (Kp.of_grown (T := [9, 93, 109, 107, 78, 92, 22, 126, 128, 111]) hgr (fun g e => Rows.own D5_t4.out g e) (by decide)) (by decide) (fun _ _ h => h.keep (inner_all (Kp.of_grown (T := [9, 93, 109, 107, 78, 92, 22, 126, 128, 111]) hgr (fun g e => Rows.own D5_t4.out g e) (by decide)) (by decide))))
  clear R2_t4
  have R3_s5 := hide (Rows.keep R3_t4.out (Kp.of_grown (T := [9, 93, 109, 107, 78, 92, 22, 126, 128, 111]) hgr (fun g e => Rows.own D5_t4.out g e) (by decide)) (by decide) (fun _ _ h => h.keep (inner_all (Kp.of_grown (T := [9, 93, 109, 107, 78, 92, 22, 126, 128, 111]) hgr (fun g e => Rows.own D5_t4.out g e) (by decide)) (by decide))))
  clear R3_t4
  have R4_s5 := hide (Rows.keep R4_t4.out (Kp.of_grown (T := [9, 93, 109, 107, 78, 92, 22, 126, 128, 111]) hgr (fun g e => Rows.own D5_t4.out g e) (by decide)) (by decide) (fun _ _ h => h))
  clear R4_t4
  clear D5_t4
  obtain ⟨ra6, rc6, hv6⟩ := rows_form RJ
  rw [List.length_append] at hv6
  subst hv6
  have R5 := hide RJ
  clear RJ hown hgr HX HY HXo HYo H1 hiM zM0 zM1 zM2 iM xs ys KI KD
  have HTt5 := hide (HTs5.out.keep (Kp.setLoc (i := 6) (v := .slice ra6 (S.rules.length + T.rules.length) rc6) LS_s5.out (by decide)))
  clear HTs5
  have D6_t5 := hide (Rows.keep D6_s5.out (Kp.setLoc (T := allT) (i := 6) (v := .slice ra6 (S.rules.length + T.rules.length) rc6) LS_s5.out (by decide)) (by decide) (fun _ _ h => h))
  clear D6_s5
  have D7_t5 := hide (Rows.keep D7_s5.out (Kp.setLoc (T := allT) (i := 6) (v := .slice ra6 (S.rules.length + T.rules.length) rc6) LS_s5.out (by decide)) (by decide) (fun _ _ h => h.keep (inner_all (Kp.setLoc (T := allT) (i := 6) (v := .slice ra6 (S.rules.length + T.rules.length) rc6) LS_s5.out (by decide)) (by decide))))
  clear D7_s5
  have R0_t5 := hide (Rows.keep R0_s5.out (Kp.setLoc (T := allT) (i := 6) (v := .slice ra6 (S.rules.length + T.rules.length) rc6) LS_s5.out (by decide)) (by decide) (fun _ _ h => h))
  clear R0_s5
  have R1_t5 := hide (Rows.keep R1_s5.out (Kp.setLoc (T := allT) (i := 6) (v := .slice ra6 (S.rules.length + T.rules.length) rc6) LS_s5.out (by decide)) (by decide) (fun _ _ h => h))
  clear R1_s5
  have R2_t5 := hide (Rows.keep R2_s5.out (Kp.setLoc (T := allT) (i := 6) (v := .slice ra6 (S.rules.length + T.rules.length) rc6) LS_s5.out (by decide)) (by decide) (fun _ _ h => h.keep (inner_all (Kp.setLoc (T := allT) (i := 6) (v := .slice ra6 (S.rules.length + T.rules.length) rc6) LS_s5.out (by decide)) (by decide))))
  clear R2_s5
  have R3_t5 := hide (Rows.keep R3_s5.out (Kp.setLoc (T := allT) (i := 6) (v := .slice ra6 (S.rules.length + T.rules.length) rc6) LS_s5.out (by decide)) (by decide) (fun _ _ h => h.keep (inner_all (Kp.setLoc (T := allT) (i := 6) (v := .slice ra6 (S.rules.length + T.rules.length) rc6) LS_s5.out (by decide)) (by decide))))
  clear R3_s5
  have R4_t5 := hide (Rows.keep R4_s5.out (Kp.setLoc (T := allT) (i := 6) (v := .slice ra6 (S.rules.length + T.rules.length) rc6) LS_s5.out (by decide)) (by decide) (fun _ _ h => h))
  clear R4_s5
  have R5_t5 := hide (Rows.keep R5.out (Kp.setLoc (T := allT) (i := 6) (v := .slice ra6 (S.rules.length + T.rules.length) rc6) LS_s5.out (by decide)) (by decide) (fun _ _ h => h.keep (inner_all (Kp.setLoc (T := allT) (i := 6) (v := .slice ra6 (S.rules.length + T.rules.length) rc6) LS_s5.out (by decide)) (by decide))))
  clear R5
  have LB_t5 := hide (loc_other (p := ⟨w1.heap.size, 6, none⟩) (v := .slice ra6 (S.rules.length + T.rules.length) rc6) LB_s5.out (by show w.heap.size + 1 ≠ w1.heap.size; omega))
  clear LB_s5
  have LR_t5 := hide (loc_other (p := ⟨w1.heap.size, 6, none⟩) (v := .slice ra6 (S.rules.length + T.rules.length) rc6) LR_s5.out (by show w.heap.size + 1 + 1 ≠ w1.heap.size; omega))
  clear LR_s5
  have zsf := fun j => frozen_of_row _ _ j _ _ LS_s5.out
  have zs := cellAt9_6 LS_s5.out
  have LS_t5 := hide (loc_set (i := 6) (v := .slice ra6 (S.rules.length + T.rules.length) rc6) LS_s5.out)
  clear LS_s5
  simp only [List.setIfInBounds_toArray, List.set_cons_zero, List.set_cons_succ] at LS_t5
  have BW_t5 := hide (below_set BW_s5.out (show w.heap.size ≤ w1.heap.size by omega) 6 (.slice ra6 (S.rules.length + T.rules.length) rc6))
  clear BW_s5
  obtain ⟨iM, hiM, zM0, zM1, zM2⟩ := info_parts' info_except
  obtain ⟨xs, hrow, hold⟩ := D6_t5.out
  obtain ⟨ys, hrow2, hold2⟩ := HTt5.out.excepts
  have hone := rows_cells (Q := fun z => ∃ a, cM _ a z) (by decide) hrow2.1.1 rfl (fun i a hi => ⟨a, hold2 i a hi⟩) (one_M _)
  have HX := hide hrow
  have HY := hide hrow2
  have HXo := hide hold
  have HYo := hide hold2
  have H1 := hide hone
  clear hrow hrow2 hold hold2 hone
  have zs := cellAt9_7 LS_t5.out
  have zb := cellAt9_7 LB_t5.out
  have zsf := fun j => frozen_of_row _ _ j _ _ LS_t5.out
  go_wp2_with (at_builtin; go_must (refine wpList_append_src _ (by rfl) _ _ 28 28 rfl 128 iM _ 2 32 Tryz.underlying28 hiM zM0 zM1 zM2 (by decide) rfl _ _ xs rfl HX.out.1 _ _ ys rfl (src_own HY.out.1 Tryz.underlying28 H1.out) (by omega) ?_))
  intro v8 w8 hown hgr
  clear zs zb zsf
  have LB_s6 := hide (grown_block hgr LB_t5.out (fun e => by have := OD6.out _ e.symm; omega))
  clear LB_t5
  have LR_s6 := hide (grown_block hgr LR_t5.out (fun e => by have := OD6.out _ e.symm; omega))
  clear LR_t5
  have LS_s6 := hide (grown_block hgr LS_t5.out (fun e => by have := OD6.out _ e.symm; omega))
  clear LS_t5
  have BW_s6 := hide (grown_below2 BW_t5.out hgr (fun g e => by have := OD6.out g e; omega) (Nat.le_refl _))
  clear BW_t5
  have RJ := rows_join (w' := w8) (C := cM) (c1 := fun a z => cM w a z) (c2 := fun a z => cM w a z) HX.out.1.1 HXo.out HYo.out (fun a z h => h) (fun a z h => h) hown
  have HTs6 := hide (HTt5.out.keep (Kp.of_grown2 hgr (fun g (hg : g < w.heap.size) e => by have := OD6.out g e.symm; omega)))
  clear HTt5
  have D7_s6 := hide (Rows.keep D7_t5.out (Kp.of_grown (T := [9, 93, 109, 107, 78, 92, 22, 126, 100, 111]) hgr (fun g e => Rows.own D6_t5.out g e) (by decide)) (by decide) (fun _ _ h => h.keep (inner_all (Kp.of_grown (T := [9, 93, 109, 107, 78, 92, 22, 126, 100, 111]) hgr (fun g e => Rows.own D6_t5.out g e) (by decide)) (by decide))))
  clear D7_t5
  have R0_s6 := hide (Rows.keep R0_t5.out (Kp.of_grown (T := [9, 93, 109, 107, 78, 92, 22, 126, 100, 111]) hgr (fun g e => Rows.own D6_t5.out g e) (by decide)) (by decide) (fun _ _ h => h))
  clear R0_t5
  have R1_s6 := hide (Rows.keep R1_t5.out (Kp.of_grown (T := [9, 93, 109, 107, 78, 92, 22, 126, 100, 111]) hgr (fun g e => Rows.own D6_t5.out g e) (by decide)) (by decide) (fun _ _ h => h))
  clear R1_t5
  have R2_s6 := hide (Rows.keep R2_t5.out (Kp.of_grown (T := [9, 93, 109, 107, 78, 92, 22, 126, 100, 111]) hgr (fun g e => Rows.own D6_t5.out g e) (by decide)) (by decide) (fun _ _ h => h.keep (inner_all (Kp.of_grown (T := [9, 93, 109, 107, 78, 92, 22, 126, 100, 111]) hgr (fun g e => Rows.own D6_t5.out g e) (by decide)) (by decide))))
  clear R2_t5
  have R3_s6 := hide (Rows.keep R3_t5.out (Kp.of_grown (T := [9, 93, 109, 107, 78, 92, 22, 126, 100, 111]) hgr (fun g e => Rows.own D6_t5.out g e) (by decide)) (by decide) (fun _ _ h => h.keep (inner_all (Kp.of_grown (T := [9, 93, 109, 107, 78, 92, 22, 126, 100, 111]) hgr (fun g e => Rows.own D6_t5.out g e) (by decide)) (by decide))))
  clear R3_t5
  have R4_s6 := hide (Rows.keep R4_t5.out (Kp.of_grown (T := [9, 93, 109, 107, 78, 92, 22, 126, 100, 111]) hgr (fun g e => Rows.own D6_t5.out g e) (by decide)) (by decide) (fun _ _ h => h))
  clear R4_t5
  have R5_s6 := hide (Rows.keep R5_t5.out (Kp.of_grown (T := [9, 93, 109, 107, 78, 92, 22, 126, 100, 111]) hgr (fun g e => Rows.own D6_t5.out g e) (by decide)) (by decide) (fun _ _ h => h.keep (inner_all (Kp.of_grown (T := [9, 93, 109, 107, 78, 92, 22, 126, 100, 111]) hgr (fun g e => Rows.own D6_t5.out g e) (by decide)) (by decide))))
  clear R5_t5
  clear D6_t5
  obtain ⟨ra7, rc7, hv7⟩ := rows_form RJ
  rw [List.length_append] at hv7
  subst hv7
  have R6 := hide RJ
  clear RJ hown hgr HX HY HXo HYo H1 hiM zM0 zM1 zM2 iM xs ys
  have HTt6 := hide (HTs6.out.keep (Kp.setLoc (i := 7) (v := .slice ra7 (S.excepts.length + T.excepts.length) rc7) LS_s6.out (by decide)))
  clear HTs6
  have D7_t6 := hide (Rows.keep D7_s6.out (Kp.setLoc (T := allT) (i := 7) (v := .slice ra7 (S.excepts.length + T.excepts.length) rc7) LS_s6.out (by decide)) (by decide) (fun _ _ h => h.keep (inner_all (Kp.setLoc (T := allT) (i := 7) (v := .slice ra7 (S.excepts.length + T.excepts.length) rc7) LS_s6.out (by decide)) (by decide))))
  clear D7_s6
  have R0_t6 := hide (Rows.keep R0_s6.out (Kp.setLoc (T := allT) (i := 7) (v := .slice ra7 (S.excepts.length + T.excepts.length) rc7) LS_s6.out (by decide)) (by decide) (fun _ _ h => h))
  clear R0_s6
  have R1_t6 := hide (Rows.keep R1_s6.out (Kp.setLoc (T := allT) (i := 7) (v := .slice ra7 (S.excepts.length + T.excepts.length) rc7) LS_s6.out (by decide)) (by decide) (fun _ _ h => h))
  clear R1_s6
  have R2_t6 := hide (Rows.keep R2_s6.out (Kp.setLoc (T := allT) (i := 7) (v := .slice ra7 (S.excepts.length + T.excepts.length) rc7) LS_s6.out (by decide)) (by decide) (fun _ _ h => h.keep (inner_all (Kp.setLoc (T := allT) (i := 7) (v := .slice ra7 (S.excepts.length + T.excepts.length) rc7) LS_s6.out (by decide)) (by decide))))
  clear R2_s6
  have R3_t6 := hide (Rows.keep R3_s6.out (Kp.setLoc (T := allT) (i := 7) (v := .slice ra7 (S.excepts.length + T.excepts.length) rc7) LS_s6.out (by decide)) (by decide) (fun _ _ h => h.keep (inner_all (Kp.setLoc (T := allT) (i := 7) (v := .slice ra7 (S.excepts.length + T.excepts.length) rc7) LS_s6.out (by decide)) (by decide))))
  clear R3_s6
  have R4_t6 := hide (Rows.keep R4_s6.out (Kp.setLoc (T := allT) (i := 7) (v := .slice ra7 (S.excepts.length + T.excepts.length) rc7) LS_s6.out (by decide)) (by decide) (fun _ _ h => h))
  clear R4_s6
  have R5_t6 := hide (Rows.keep R5_s6.out (Kp.setLoc (T := allT) (i := 7) (v := .slice ra7 (S.excepts.length + T.excepts.length) rc7) LS_s6.out (by decide)) (by decide) (fun _ _ h => h.keep (inner_all (Kp.setLoc (T := allT) (i := 7) (v := .slice ra7 (S.excepts.length + T.excepts.length) rc7) LS_s6.out (by decide)) (by decide))))
  clear R5_s6
  have R6_t6 := hide (Rows.keep R6.out (Kp.setLoc (T := allT) (i := 7) (v := .slice ra7 (S.excepts.length + T.excepts.length) rc7) LS_s6.out (by decide)) (by decide) (fun _ _ h => h))
  clear R6
  have LB_t6 := hide (loc_other (p := ⟨w1.heap.size, 7, none⟩) (v := .slice ra7 (S.excepts.length + T.excepts.length) rc7) LB_s6.out (by show w.heap.size + 1 ≠ w1.heap.size; omega))
  clear LB_s6
  have LR_t6 := hide (loc_other (p := ⟨w1.heap.size, 7, none⟩) (v := .slice ra7 (S.excepts.length + T.excepts.length) rc7) LR_s6.out (by show w.heap.size + 1 + 1 ≠ w1.heap.size; omega))
  clear LR_s6
  have zsf := fun j => frozen_of_row _ _ j _ _ LS_s6.out
  have zs := cellAt9_7 LS_s6.out
  have LS_t6 := hide (loc_set (i := 7) (v := .slice ra7 (S.excepts.length + T.excepts.length) rc7) LS_s6.out)
  clear LS_s6
  simp only [List.setIfInBounds_toArray, List.set_cons_zero, List.set_cons_succ] at LS_t6
  have BW_t6 := hide (below_set BW_s6.out (show w.heap.size ≤ w1.heap.size by omega) 7 (.slice ra7 (S.excepts.length + T.excepts.length) rc7))
  clear BW_s6
  obtain ⟨iM, hiM, zM0, zM1, zM2⟩ := info_parts' info_total
  obtain ⟨xs, hrow, hold⟩ := D7_t6.out
  obtain ⟨ys, hrow2, hold2⟩ := HTt6.out.totals
  have hone := rows_cells (Q := fun z => ∃ a, cTotal (· < w.heap.size) _ a z) (by decide) hrow2.1.1 rfl (fun i a hi => ⟨a, hold2 i a hi⟩) (one_Total _)
  have HX := hide hrow
  have HY := hide hrow2
  have HXo := hide hold
  have HYo := hide hold2
  have H1 := hide hone
  clear hrow hrow2 hold hold2 hone
  have zs := cellAt9_8 LS_t6.out
  have zb := cellAt9_8 LB_t6.out
  have zsf := fun j => frozen_of_row _ _ j _ _ LS_t6.out
  go_wp2_with (at_builtin; go_must (refine wpList_append_src _ (by rfl) _ _ 29 29 rfl 111 iM _ 5 72 Tryz.underlying29 hiM zM0 zM1 zM2 (by decide) rfl _ _ xs rfl HX.out.1 _ _ ys rfl (src_own HY.out.1 Tryz.underlying29 H1.out) (by omega) ?_))
  intro v9 w9 hown hgr
  clear zs zb zsf
  have LB_s7 := hide (grown_block hgr LB_t6.out (fun e => by have := OD7.out _ e.symm; omega))
  clear LB_t6
  have LR_s7 := hide (grown_block hgr LR_t6.out (fun e => by have := OD7.out _ e.symm; omega))
  clear LR_t6
  have LS_s7 := hide (grown_block hgr LS_t6.out (fun e => by have := OD7.out _ e.symm; omega))
  clear LS_t6
  have BW_s7 := hide (grown_below2 BW_t6.out hgr (fun g e => by have := OD7.out g e; omega) (Nat.le_refl _))
  clear BW_t6
  have KI : Kp inner (· < w.heap.size) _ w9 := Kp.of_grown hgr (fun g e => Rows.own D7_t6.out g e) (by decide)
  have KD : Kp inner (Beh (w.heap.size + 3 + 1) (Value.slice da1 S.kinds.length dc1)) _ w9 := Kp.of_grown hgr (fun g e => Rows.own D7_t6.out g e) (by decide)
  have RJ := rows_join (w' := w9) (C := cTotal (fun _ => True)) (c1 := fun a z => cTotal (Beh (w.heap.size + 3 + 1) (Value.slice da1 S.kinds.length dc1)) _ a z) (c2 := fun a z => cTotal (· < w.heap.size) _ a z) HX.out.1.1 HXo.out HYo.out (fun a z h => (h.keep KD).mono fun _ _ => trivial) (fun a z h => (h.keep KI).mono fun _ _ => trivial) hown
  have HTs7 := hide (HTt6.out.keep (Kp.of_grown2 hgr (fun g (hg : g < w.heap.size) e => by have := OD7.out g e.symm; omega)))
  clear HTt6
  have R0_s7 := hide (Rows.keep R0_t6.out (Kp.of_grown (T := [9, 93, 109, 107, 78, 92, 22, 126, 100, 128]) hgr (fun g e => Rows.own D7_t6.out g e) (by decide)) (by decide) (fun _ _ h => h))
  clear R0_t6
  have R1_s7 := hide (Rows.keep R1_t6.out (Kp.of_grown (T := [9, 93, 109, 107, 78, 92, 22, 126, 100, 128]) hgr (fun g e => Rows.own D7_t6.out g e) (by decide)) (by decide) (fun _ _ h => h))
  clear R1_t6
  have R2_s7 := hide (Rows.keep R2_t6.out (Kp.of_grown (T := [9, 93, 109, 107, 78, 92, 22, 126, 100, 128]) hgr (fun g e => Rows.own D7_t6.out g e) (by decide)) (by decide) (fun _ _ h => h.keep (inner_all (Kp.of_grown (T := [9, 93, 109, 107, 78, 92, 22, 126, 100, 128]) hgr (fun g e => Rows.own D7_t6.out g e) (by decide)) (by decide))))
  clear R2_t6
  have R3_s7 := hide (Rows.keep R3_t6.out (Kp.of_grown (T := [9, 93, 109, 107, 78, 92, 22, 126, 100, 128]) hgr (fun g e => Rows.own D7_t6.out g e) (by decide)) (by decide) (fun _ _ h => h.keep (inner_all (Kp.of_grown (T := [9, 93, 109, 107, 78, 92, 22, 126, 100, 128]) hgr (fun g e => Rows.own D7_t6.out g e) (by decide)) (by decide))))
  clear R3_t6
  have R4_s7 := hide (Rows.keep R4_t6.out (Kp.of_grown (T := [9, 93, 109, 107, 78, 92, 22, 126, 100, 128]) hgr (fun g e => Rows.own D7_t6.out g e) (by decide)) (by decide) (fun _ _ h => h))
  clear R4_t6
  have R5_s7 := hide (Rows.keep R5_t6.out (Kp.of_grown (T := [9, 93, 109, 107, 78, 92, 22, 126, 100, 128]) hgr (fun g e => Rows.own D7_t6.out g e) (by decide)) (by decide) (fun _ _ h => h.keep (inner_all (Kp.of_grown (T := [9, 93, 109, 107, 78, 92, 22, 126, 100, 128]) hgr (fun g e => Rows.own D7_t6.out g e) (by decide)) (by decide))))
  clear R5_t6
  have R6_s7 := hide (Rows.keep R6_t6.out (Kp.of_grown (T := [9, 93, 109, 107, 78, 92, 22, 126, 100, 128]) hgr (fun g e => Rows.own D7_t6.out g e) (by decide)) (by decide) (fun _ _ h => h))
  clear R6_t6
  clear D7_t6
  obtain ⟨ra8, rc8, hv8⟩ := rows_form RJ
  rw [List.length_append] at hv8
  subst hv8
  have R7 := hide RJ
  clear RJ hown hgr HX HY HXo HYo H1 hiM zM0 zM1 zM2 iM xs ys KI KD
  have HTt7 := hide (HTs7.out.keep (Kp.setLoc (i := 8) (v := .slice ra8 (S.totals.length + T.totals.length) rc8) LS_s7.out (by decide)))
  clear HTs7
  have R0_t7 := hide (Rows.keep R0_s7.out (Kp.setLoc (T := allT) (i := 8) (v := .slice ra8 (S.totals.length + T.totals.length) rc8) LS_s7.out (by decide)) (by decide) (fun _ _ h => h))
  clear R0_s7
  have R1_t7 := hide (Rows.keep R1_s7.out (Kp.setLoc (T := allT) (i := 8) (v := .slice ra8 (S.totals.length + T.totals.length) rc8) LS_s7.out (by decide)) (by decide) (fun _ _ h => h))
  clear R1_s7
  have R2_t7 := hide (Rows.keep R2_s7.out (Kp.setLoc (T := allT) (i := 8) (v := .slice ra8 (S.totals.length + T.totals.length) rc8) LS_s7.out (by decide)) (by decide) (fun _ _ h => h.keep (inner_all (Kp.setLoc (T := allT) (i := 8) (v := .slice ra8 (S.totals.length + T.totals.length) rc8) LS_s7.out (by decide)) (by decide))))
  clear R2_s7
  have R3_t7 := hide (Rows.keep R3_s7.out (Kp.setLoc (T := allT) (i := 8) (v := .slice ra8 (S.totals.length + T.totals.length) rc8) LS_s7.out (by decide)) (by decide) (fun _ _ h => h.keep (inner_all (Kp.setLoc (T := allT) (i := 8) (v := .slice ra8 (S.totals.length + T.totals.length) rc8) LS_s7.out (by decide)) (by decide))))
  clear R3_s7
  have R4_t7 := hide (Rows.keep R4_s7.out (Kp.setLoc (T := allT) (i := 8) (v := .slice ra8 (S.totals.length + T.totals.length) rc8) LS_s7.out (by decide)) (by decide) (fun _ _ h => h))
  clear R4_s7
  have R5_t7 := hide (Rows.keep R5_s7.out (Kp.setLoc (T := allT) (i := 8) (v := .slice ra8 (S.totals.length + T.totals.length) rc8) LS_s7.out (by decide)) (by decide) (fun _ _ h => h.keep (inner_all (Kp.setLoc (T := allT) (i := 8) (v := .slice ra8 (S.totals.length + T.totals.length) rc8) LS_s7.out (by decide)) (by decide))))
  clear R5_s7
  have R6_t7 := hide (Rows.keep R6_s7.out (Kp.setLoc (T := allT) (i := 8) (v := .slice ra8 (S.totals.length + T.totals.length) rc8) LS_s7.out (by decide)) (by decide) (fun _ _ h => h))
  clear R6_s7
  have R7_t7 := hide (Rows.keep R7.out (Kp.setLoc (T := allT) (i := 8) (v := .slice ra8 (S.totals.length + T.totals.length) rc8) LS_s7.out (by decide)) (by decide) (fun _ _ h => h.keep (inner_all (Kp.setLoc (T := allT) (i := 8) (v := .slice ra8 (S.totals.length + T.totals.length) rc8) LS_s7.out (by decide)) (by decide))))
  clear R7
  have LB_t7 := hide (loc_other (p := ⟨w1.heap.size, 8, none⟩) (v := .slice ra8 (S.totals.length + T.totals.length) rc8) LB_s7.out (by show w.heap.size + 1 ≠ w1.heap.size; omega))
  clear LB_s7
  have LR_t7 := hide (loc_other (p := ⟨w1.heap.size, 8, none⟩) (v := .slice ra8 (S.totals.length + T.totals.length) rc8) LR_s7.out (by show w.heap.size + 1 + 1 ≠ w1.heap.size; omega))
  clear LR_s7
  have zsf := fun j => frozen_of_row _ _ j _ _ LS_s7.out
  have zs := cellAt9_8 LS_s7.out
  have LS_t7 := hide (loc_set (i := 8) (v := .slice ra8 (S.totals.length + T.totals.length) rc8) LS_s7.out)
  clear LS_s7
  simp only [List.setIfInBounds_toArray, List.set_cons_zero, List.set_cons_succ] at LS_t7
  have BW_t7 := hide (below_set BW_s7.out (show w.heap.size ≤ w1.heap.size by omega) 8 (.slice ra8 (S.totals.length + T.totals.length) rc8))
  clear BW_s7
  have HR : Hid (SZ (fun _ => True) _ ⟨.string ⟨S.title.toArray⟩, .slice ra1 (S.kinds.length + T.kinds.length) rc1, .slice ra2 (S.members.length + T.members.length) rc2, .slice ra3 (S.preds.length + T.preds.length) rc3, .slice ra4 (S.classes.length + T.classes.length) rc4, .slice ra5 (S.sources.length + T.sources.length) rc5, .slice ra6 (S.rules.length + T.rules.length) rc6, .slice ra7 (S.excepts.length + T.excepts.length) rc7, .slice ra8 (S.totals.length + T.totals.length) rc8⟩ (joinS S T)) := hide ⟨rfl, R0_t7.out, R1_t7.out, R2_t7.out, R3_t7.out, R4_t7.out, R5_t7.out, R6_t7.out, R7_t7.out⟩
  clear R0_t7 R1_t7 R2_t7 R3_t7 R4_t7 R5_t7 R6_t7 R7_t7 HTt7 OD0 OD1 OD2 OD3 OD4 OD5 OD6 OD7
  obtain ⟨k0, k1, k2, k3, k4, k5, k6, k7, k8, kf⟩ := row9 LS_t7.out
  obtain ⟨l0, l1, l2, l3, l4, l5, l6, l7, l8, lf⟩ := row9 LR_t7.out
  have x1 : w.heap.size + 1 + 1 ≠ w1.heap.size := by omega
  have x2 : w1.heap.size ≠ w.heap.size + 1 + 1 := by omega
  go_wp2_with fail
  have hz := (And.intro k0 (And.intro k1 (And.intro k2 (And.intro k3 (And.intro k4 (And.intro k5 (And.intro k6 (And.intro k7 (And.intro k8 (And.intro kf (And.intro l0 (And.intro l1 (And.intro l2 (And.intro l3 (And.intro l4 (And.intro l5 (And.intro l6 (And.intro l7 (And.intro l8 (And.intro lf (And.intro x1 (And.intro x2 (And.intro zs zsf)))))))))))))))))))))))
  simp [bodyPost, results, Tryz.results16, go_sem, hz]
  exact ⟨⟨.string ⟨S.title.toArray⟩, .slice ra1 (S.kinds.length + T.kinds.length) rc1, .slice ra2 (S.members.length + T.members.length) rc2, .slice ra3 (S.preds.length + T.preds.length) rc3, .slice ra4 (S.classes.length + T.classes.length) rc4, .slice ra5 (S.sources.length + T.sources.length) rc5, .slice ra6 (S.rules.length + T.rules.length) rc6, .slice ra7 (S.excepts.length + T.excepts.length) rc7, .slice ra8 (S.totals.length + T.totals.length) rc8⟩, ⟨rfl, rfl, rfl, rfl, rfl, rfl, rfl, rfl, rfl⟩, HR.out.keep (nine_kpt LR_t7.out (by decide)), nine_below BW_t7.out (by omega)⟩
end Go.Proofs.YthnjmfkiohgkkaaGreatDoor.Sy
