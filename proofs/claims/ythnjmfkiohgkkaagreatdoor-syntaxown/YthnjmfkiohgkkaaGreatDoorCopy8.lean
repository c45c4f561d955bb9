/- CopyStatute: the same statute in memory of its own. By program (tools/gen5/c20.py). -/
import Derived.Test.YthnjmfkiohgkkaaGreatDoorCopy7
import Derived.Test.YthnjmfkiohgkkaaGreatDoorSpacedForm
import Derived.Test.YthnjmfkiohgkkaaGreatDoorSameAll
namespace Go.Proofs.YthnjmfkiohgkkaaGreatDoor.Sy
open Go.RowKit

theorem nine_kp {T : List Nat} {Z : Nat → Prop} {W : World} {q : Nat} {v0 v1 v2 v3 v4 v5 v6 v7 v8 : Value} (hz : ∀ g, Z g → g ≠ q) : Kp T Z W (((((((((W.setCell ⟨q, 0, none⟩ v0).setCell ⟨q, 1, none⟩ v1).setCell ⟨q, 2, none⟩ v2).setCell ⟨q, 3, none⟩ v3).setCell ⟨q, 4, none⟩ v4).setCell ⟨q, 5, none⟩ v5).setCell ⟨q, 6, none⟩ v6).setCell ⟨q, 7, none⟩ v7).setCell ⟨q, 8, none⟩ v8) :=
  fun g _ _ hZ hg _ => (nine_other (hz g hZ)).trans hg
theorem nine_below {B : Nat} {w W : World} {q : Nat} {v0 v1 v2 v3 v4 v5 v6 v7 v8 : Value} (h : Below B w W) (hq : B ≤ q) : Below B w (((((((((W.setCell ⟨q, 0, none⟩ v0).setCell ⟨q, 1, none⟩ v1).setCell ⟨q, 2, none⟩ v2).setCell ⟨q, 3, none⟩ v3).setCell ⟨q, 4, none⟩ v4).setCell ⟨q, 5, none⟩ v5).setCell ⟨q, 6, none⟩ v6).setCell ⟨q, 7, none⟩ v7).setCell ⟨q, 8, none⟩ v8) :=
  below_set (below_set (below_set (below_set (below_set (below_set (below_set (below_set (below_set h hq 0 v0) hq 1 v1) hq 2 v2) hq 3 v3) hq 4 v4) hq 5 v5) hq 6 v6) hq 7 v7) hq 8 v8

set_option maxRecDepth 100000 in
set_option maxHeartbeats 3200000 in
theorem copy_statute {R : Nat} {st : St9} {S : StatM} (w : World) (hS : SRep R w st S) (hs : SmallS S) :
    Calls Tryz.prog 17 #[St9.agg st] w fun e w' => ∃ st', e = .returned (St9.agg st') ∧ SRep (w.heap.size + 1) w' st' S ∧ Below w.heap.size w w' := by
  obtain ⟨a1, c1, a2, c2, a3, c3, a4, c4, a5, c5, a6, c6, a7, c7, a8, c8, rfl⟩ := hS.form
  have HS := hide hS
  clear hS
  simp only [St9.agg]
  go_enter Tryz.func17, Tryz.ntmps17
  have B0 : Below w.heap.size w ((w.alloc (.cells #[.string ⟨S.title.toArray⟩, .slice a1 S.kinds.length c1, .slice a2 S.members.length c2, .slice a3 S.preds.length c3, .slice a4 S.classes.length c4, .slice a5 S.sources.length c5, .slice a6 S.rules.length c6, .slice a7 S.excepts.length c7, .slice a8 S.totals.length c8] 31)).alloc (.cells #[.string ⟨#[]⟩, .slice none 0 0, .slice none 0 0, .slice none 0 0, .slice none 0 0, .slice none 0 0, .slice none 0 0, .slice none 0 0, .slice none 0 0] 31)) := below_two w _ _
  have G0 : Hid (w.heap.size ≤ w.heap.size) := hide (Nat.le_refl _)
  have G1 : Hid (w.heap.size ≤ w.heap.size + 1) := hide (Nat.le_succ _)
  have NE_0_1 : Hid (w.heap.size ≠ w.heap.size + 1) := hide (by omega)
  have NE_1_0 : Hid (w.heap.size + 1 ≠ w.heap.size) := hide (by omega)
  have LB0 := hide (two_new w (.cells #[.string ⟨S.title.toArray⟩, .slice a1 S.kinds.length c1, .slice a2 S.members.length c2, .slice a3 S.preds.length c3, .slice a4 S.classes.length c4, .slice a5 S.sources.length c5, .slice a6 S.rules.length c6, .slice a7 S.excepts.length c7, .slice a8 S.totals.length c8] 31) (.cells #[.string ⟨#[]⟩, .slice none 0 0, .slice none 0 0, .slice none 0 0, .slice none 0 0, .slice none 0 0, .slice none 0 0, .slice none 0 0, .slice none 0 0] 31)).1
  have LB1 := hide (two_new w (.cells #[.string ⟨S.title.toArray⟩, .slice a1 S.kinds.length c1, .slice a2 S.members.length c2, .slice a3 S.preds.length c3, .slice a4 S.classes.length c4, .slice a5 S.sources.length c5, .slice a6 S.rules.length c6, .slice a7 S.excepts.length c7, .slice a8 S.totals.length c8] 31) (.cells #[.string ⟨#[]⟩, .slice none 0 0, .slice none 0 0, .slice none 0 0, .slice none 0 0, .slice none 0 0, .slice none 0 0, .slice none 0 0, .slice none 0 0] 31)).2
  have HS_0 := hide (HS.out.keep (Kp.of_below (T := allT) B0))
  clear HS
  have BW := hide B0
  clear B0
  have C1 := hide (copy_CopyStrings _ _ _ HS_0.out.kinds hs.kinds)
  go_wp2_with fail
  refine C1.out.mono ?_
  rintro _ w1 ⟨v1, rfl, hv, hb⟩
  have LB0_1 := hide ((hb.block _ (loc_lt LB0.out)).trans LB0.out)
  clear LB0
  have LB1_1 := hide ((hb.block _ (loc_lt LB1.out)).trans LB1.out)
  clear LB1
  have HS_0_1 := hide (HS_0.out.keep (Kp.of_below (T := allT) hb))
  clear HS_0
  obtain ⟨p1, r1, rfl⟩ := rows_form hv
  have V1 := hide (Strs.within (Z' := (w.heap.size + 1 < ·)) hv fun g _ hg => by have h2 : _ ≤ g := hg; simp at h2; omega)
  have KB : Hid (∀ g, (Value.slice p1 S.kinds.length r1).ownBlock = some g → g < w1.heap.size) := hide fun g hg => by obtain ⟨xs, ho, _⟩ := hv; exact (ho.1.lt g hg).2
  have SZ : Hid (w1.heap.size ≤ w1.heap.size) := hide (Nat.le_refl _)
  have SW : Hid (w.heap.size + 2 ≤ w1.heap.size) := hide (by have := hb.size; simp at this; omega)
  have BW1 := hide (BW.out.trans (hb.mono BW.out.size))
  clear hb hv C1 BW
  obtain ⟨z2_0, z2_1, z2_2, z2_3, z2_4, z2_5, z2_6, z2_7, z2_8, y2⟩ := row9 LB0_1.out
  have HS_0_1_3 := hide (HS_0_1.out.keep (Kp.setLoc (T := allT) (i := 1) (v := .slice p1 S.kinds.length r1) LB0_1.out (by decide)))
  clear HS_0_1
  have V1_3 := hide (Rows.keep V1.out (Kp.setLoc (T := allT) (i := 1) (v := .slice p1 S.kinds.length r1) LB0_1.out (by decide)) (by decide) (fun _ _ h => h))
  clear V1
  have LB0_1_3 := hide (loc_set (i := 1) (v := .slice p1 S.kinds.length r1) LB0_1.out)
  have LB1_1_3 := hide (loc_other (p := ⟨w.heap.size, 1, none⟩) (v := .slice p1 S.kinds.length r1) LB1_1.out NE_1_0.out)
  clear LB0_1 LB1_1
  have BW3 := hide (below_set BW1.out G0.out 1 (.slice p1 S.kinds.length r1))
  clear BW1
  have SZ : Hid (w1.heap.size ≤ (((w1).setCell ⟨w.heap.size, 1, none⟩ (.slice p1 S.kinds.length r1))).heap.size) := hide (Nat.le_trans SZ.out (by simp))
  have C4 := hide (copy_CopyMembers _ _ _ HS_0_1_3.out.members hs.members)
  go_wp2_with fail
  refine C4.out.mono ?_
  rintro _ w4 ⟨v4, rfl, hv, hb⟩
  clear z2_0 z2_1 z2_2 z2_3 z2_4 z2_5 z2_6 z2_7 z2_8 y2
  have LB0_1_3_4 := hide ((hb.block _ (loc_lt LB0_1_3.out)).trans LB0_1_3.out)
  clear LB0_1_3
  have LB1_1_3_4 := hide ((hb.block _ (loc_lt LB1_1_3.out)).trans LB1_1_3.out)
  clear LB1_1_3
  have HS_0_1_3_4 := hide (HS_0_1_3.out.keep (Kp.of_below (T := allT) hb))
  clear HS_0_1_3
  have V1_3_4 := hide (Rows.keep V1_3.out (Kp.of_below (T := allT) hb) (by decide) (fun _ _ h => h))
  clear V1_3
  obtain ⟨p2, r2, rfl⟩ := rows_form hv
  have HZ : ∀ g, New _ g → Beh (w.heap.size + 1) (.slice p1 S.kinds.length r1) g := fun g (hg : _ ≤ g) => ⟨by have h1 := SZ.out; have h2 := SW.out; have h3 := Nat.le_trans h1 hg; omega, fun h => by have h1 := KB.out g h.symm; have h2 := Nat.le_trans SZ.out hg; omega⟩
  have V2 := hide (Rows.mono hv HZ fun _ _ h => h)
  clear HZ
  have SZ : Hid (w1.heap.size ≤ w4.heap.size) := hide (Nat.le_trans SZ.out hb.size)
  have BW4 := hide (BW3.out.trans (hb.mono BW3.out.size))
  clear hb hv C4 BW3
  obtain ⟨z5_0, z5_1, z5_2, z5_3, z5_4, z5_5, z5_6, z5_7, z5_8, y5⟩ := row9 LB0_1_3_4.out
  have HS_0_1_3_4_6 := hide (HS_0_1_3_4.out.keep (Kp.setLoc (T := allT) (i := 2) (v := .slice p2 S.members.length r2) LB0_1_3_4.out (by decide)))
  clear HS_0_1_3_4
  have V1_3_4_6 := hide (Rows.keep V1_3_4.out (Kp.setLoc (T := allT) (i := 2) (v := .slice p2 S.members.length r2) LB0_1_3_4.out (by decide)) (by decide) (fun _ _ h => h))
  clear V1_3_4
  have V2_6 := hide (Rows.keep V2.out (Kp.setLoc (T := allT) (i := 2) (v := .slice p2 S.members.length r2) LB0_1_3_4.out (by decide)) (by decide) (fun _ _ h => h))
  clear V2
  have LB0_1_3_4_6 := hide (loc_set (i := 2) (v := .slice p2 S.members.length r2) LB0_1_3_4.out)
  have LB1_1_3_4_6 := hide (loc_other (p := ⟨w.heap.size, 2, none⟩) (v := .slice p2 S.members.length r2) LB1_1_3_4.out NE_1_0.out)
  clear LB0_1_3_4 LB1_1_3_4
  have BW6 := hide (below_set BW4.out G0.out 2 (.slice p2 S.members.length r2))
  clear BW4
  have SZ : Hid (w1.heap.size ≤ (((w4).setCell ⟨w.heap.size, 2, none⟩ (.slice p2 S.members.length r2))).heap.size) := hide (Nat.le_trans SZ.out (by simp))
  have C7 := hide (copy_CopyPreds _ _ _ HS_0_1_3_4_6.out.preds hs.preds hs.preds')
  go_wp2_with fail
  refine C7.out.mono ?_
  rintro _ w7 ⟨v7, rfl, hv, hb⟩
  clear z5_0 z5_1 z5_2 z5_3 z5_4 z5_5 z5_6 z5_7 z5_8 y5
  have LB0_1_3_4_6_7 := hide ((hb.block _ (loc_lt LB0_1_3_4_6.out)).trans LB0_1_3_4_6.out)
  clear LB0_1_3_4_6
  have LB1_1_3_4_6_7 := hide ((hb.block _ (loc_lt LB1_1_3_4_6.out)).trans LB1_1_3_4_6.out)
  clear LB1_1_3_4_6
  have HS_0_1_3_4_6_7 := hide (HS_0_1_3_4_6.out.keep (Kp.of_below (T := allT) hb))
  clear HS_0_1_3_4_6
  have V1_3_4_6_7 := hide (Rows.keep V1_3_4_6.out (Kp.of_below (T := allT) hb) (by decide) (fun _ _ h => h))
  clear V1_3_4_6
  have V2_6_7 := hide (Rows.keep V2_6.out (Kp.of_below (T := allT) hb) (by decide) (fun _ _ h => h))
  clear V2_6
  obtain ⟨p3, r3, rfl⟩ := rows_form hv
  have HZ : ∀ g, New _ g → Beh (w.heap.size + 1) (.slice p1 S.kinds.length r1) g := fun g (hg : _ ≤ g) => ⟨by have h1 := SZ.out; have h2 := SW.out; have h3 := Nat.le_trans h1 hg; omega, fun h => by have h1 := KB.out g h.symm; have h2 := Nat.le_trans SZ.out hg; omega⟩
  have V3 := hide (Rows.mono hv HZ fun _ _ h => h.mono HZ)
  clear HZ
  have SZ : Hid (w1.heap.size ≤ w7.heap.size) := hide (Nat.le_trans SZ.out hb.size)
  have BW7 := hide (BW6.out.trans (hb.mono BW6.out.size))
  clear hb hv C7 BW6
  obtain ⟨z8_0, z8_1, z8_2, z8_3, z8_4, z8_5, z8_6, z8_7, z8_8, y8⟩ := row9 LB0_1_3_4_6_7.out
  have HS_0_1_3_4_6_7_9 := hide (HS_0_1_3_4_6_7.out.keep (Kp.setLoc (T := allT) (i := 3) (v := .slice p3 S.preds.length r3) LB0_1_3_4_6_7.out (by decide)))
  clear HS_0_1_3_4_6_7
  have V1_3_4_6_7_9 := hide (Rows.keep V1_3_4_6_7.out (Kp.setLoc (T := allT) (i := 3) (v := .slice p3 S.preds.length r3) LB0_1_3_4_6_7.out (by decide)) (by decide) (fun _ _ h => h))
  clear V1_3_4_6_7
  have V2_6_7_9 := hide (Rows.keep V2_6_7.out (Kp.setLoc (T := allT) (i := 3) (v := .slice p3 S.preds.length r3) LB0_1_3_4_6_7.out (by decide)) (by decide) (fun _ _ h => h))
  clear V2_6_7
  have V3_9 := hide (Rows.keep V3.out (Kp.setLoc (T := allT) (i := 3) (v := .slice p3 S.preds.length r3) LB0_1_3_4_6_7.out (by decide)) (by decide) (fun _ _ h => h.keep (inner_all (Kp.setLoc (T := allT) (i := 3) (v := .slice p3 S.preds.length r3) LB0_1_3_4_6_7.out (by decide)) (by decide))))
  clear V3
  have LB0_1_3_4_6_7_9 := hide (loc_set (i := 3) (v := .slice p3 S.preds.length r3) LB0_1_3_4_6_7.out)
  have LB1_1_3_4_6_7_9 := hide (loc_other (p := ⟨w.heap.size, 3, none⟩) (v := .slice p3 S.preds.length r3) LB1_1_3_4_6_7.out NE_1_0.out)
  clear LB0_1_3_4_6_7 LB1_1_3_4_6_7
  have BW9 := hide (below_set BW7.out G0.out 3 (.slice p3 S.preds.length r3))
  clear BW7
  have SZ : Hid (w1.heap.size ≤ (((w7).setCell ⟨w.heap.size, 3, none⟩ (.slice p3 S.preds.length r3))).heap.size) := hide (Nat.le_trans SZ.out (by simp))
  have C10 := hide (copy_CopyStringLists _ _ _ HS_0_1_3_4_6_7_9.out.classes hs.classes hs.classes')
  go_wp2_with fail
  refine C10.out.mono ?_
  rintro _ w10 ⟨v10, rfl, hv, hb⟩
  clear z8_0 z8_1 z8_2 z8_3 z8_4 z8_5 z8_6 z8_7 z8_8 y8
  have LB0_1_3_4_6_7_9_10 := hide ((hb.block _ (loc_lt LB0_1_3_4_6_7_9.out)).trans LB0_1_3_4_6_7_9.out)
  clear LB0_1_3_4_6_7_9
  have LB1_1_3_4_6_7_9_10 := hide ((hb.block _ (loc_lt LB1_1_3_4_6_7_9.out)).trans LB1_1_3_4_6_7_9.out)
  clear LB1_1_3_4_6_7_9
  have HS_0_1_3_4_6_7_9_10 := hide (HS_0_1_3_4_6_7_9.out.keep (Kp.of_below (T := allT) hb))
  clear HS_0_1_3_4_6_7_9
  have V1_3_4_6_7_9_10 := hide (Rows.keep V1_3_4_6_7_9.out (Kp.of_below (T := allT) hb) (by decide) (fun _ _ h => h))
  clear V1_3_4_6_7_9
  have V2_6_7_9_10 := hide (Rows.keep V2_6_7_9.out (Kp.of_below (T := allT) hb) (by decide) (fun _ _ h => h))
  clear V2_6_7_9
  have V3_9_10 := hide (Rows.keep V3_9.out (Kp.of_below (T := allT) hb) (by decide) (fun _ _ h => h.keep (inner_all (Kp.of_below (T := allT) hb) (by decide))))
  clear V3_9
  obtain ⟨p4, r4, rfl⟩ := rows_form hv
  have HZ : ∀ g, New _ g → Beh (w.heap.size + 1) (.slice p1 S.kinds.length r1) g := fun g (hg : _ ≤ g) => ⟨by have h1 := SZ.out; have h2 := SW.out; have h3 := Nat.le_trans h1 hg; omega, fun h => by have h1 := KB.out g h.symm; have h2 := Nat.le_trans SZ.out hg; omega⟩
  have V4 := hide (Rows.mono hv HZ fun _ _ h => h.mono HZ)
  clear HZ
  have SZ : Hid (w1.heap.size ≤ w10.heap.size) := hide (Nat.le_trans SZ.out hb.size)
  have BW10 := hide (BW9.out.trans (hb.mono BW9.out.size))
  clear hb hv C10 BW9
  obtain ⟨z11_0, z11_1, z11_2, z11_3, z11_4, z11_5, z11_6, z11_7, z11_8, y11⟩ := row9 LB0_1_3_4_6_7_9_10.out
  have HS_0_1_3_4_6_7_9_10_12 := hide (HS_0_1_3_4_6_7_9_10.out.keep (Kp.setLoc (T := allT) (i := 4) (v := .slice p4 S.classes.length r4) LB0_1_3_4_6_7_9_10.out (by decide)))
  clear HS_0_1_3_4_6_7_9_10
  have V1_3_4_6_7_9_10_12 := hide (Rows.keep V1_3_4_6_7_9_10.out (Kp.setLoc (T := allT) (i := 4) (v := .slice p4 S.classes.length r4) LB0_1_3_4_6_7_9_10.out (by decide)) (by decide) (fun _ _ h => h))
  clear V1_3_4_6_7_9_10
  have V2_6_7_9_10_12 := hide (Rows.keep V2_6_7_9_10.out (Kp.setLoc (T := allT) (i := 4) (v := .slice p4 S.classes.length r4) LB0_1_3_4_6_7_9_10.out (by decide)) (by decide) (fun _ _ h => h))
  clear V2_6_7_9_10
  have V3_9_10_12 := hide (Rows.keep V3_9_10.out (Kp.setLoc (T := allT) (i := 4) (v := .slice p4 S.classes.length r4) LB0_1_3_4_6_7_9_10.out (by decide)) (by decide) (fun _ _ h => h.keep (inner_all (Kp.setLoc (T := allT) (i := 4) (v := .slice p4 S.classes.length r4) LB0_1_3_4_6_7_9_10.out (by decide)) (by decide))))
  clear V3_9_10
  have V4_12 := hide (Rows.keep V4.out (Kp.setLoc (T := allT) (i := 4) (v := .slice p4 S.classes.length r4) LB0_1_3_4_6_7_9_10.out (by decide)) (by decide) (fun _ _ h => h.keep (inner_all (Kp.setLoc (T := allT) (i := 4) (v := .slice p4 S.classes.length r4) LB0_1_3_4_6_7_9_10.out (by decide)) (by decide))))
  clear V4
  have LB0_1_3_4_6_7_9_10_12 := hide (loc_set (i := 4) (v := .slice p4 S.classes.length r4) LB0_1_3_4_6_7_9_10.out)
  have LB1_1_3_4_6_7_9_10_12 := hide (loc_other (p := ⟨w.heap.size, 4, none⟩) (v := .slice p4 S.classes.length r4) LB1_1_3_4_6_7_9_10.out NE_1_0.out)
  clear LB0_1_3_4_6_7_9_10 LB1_1_3_4_6_7_9_10
  have BW12 := hide (below_set BW10.out G0.out 4 (.slice p4 S.classes.length r4))
  clear BW10
  have SZ : Hid (w1.heap.size ≤ (((w10).setCell ⟨w.heap.size, 4, none⟩ (.slice p4 S.classes.length r4))).heap.size) := hide (Nat.le_trans SZ.out (by simp))
  have C13 := hide (copy_CopySources _ _ _ HS_0_1_3_4_6_7_9_10_12.out.sources hs.sources)
  go_wp2_with fail
  refine C13.out.mono ?_
  rintro _ w13 ⟨v13, rfl, hv, hb⟩
  clear z11_0 z11_1 z11_2 z11_3 z11_4 z11_5 z11_6 z11_7 z11_8 y11
  have LB0_1_3_4_6_7_9_10_12_13 := hide ((hb.block _ (loc_lt LB0_1_3_4_6_7_9_10_12.out)).trans LB0_1_3_4_6_7_9_10_12.out)
  clear LB0_1_3_4_6_7_9_10_12
  have LB1_1_3_4_6_7_9_10_12_13 := hide ((hb.block _ (loc_lt LB1_1_3_4_6_7_9_10_12.out)).trans LB1_1_3_4_6_7_9_10_12.out)
  clear LB1_1_3_4_6_7_9_10_12
  have HS_0_1_3_4_6_7_9_10_12_13 := hide (HS_0_1_3_4_6_7_9_10_12.out.keep (Kp.of_below (T := allT) hb))
  clear HS_0_1_3_4_6_7_9_10_12
  have V1_3_4_6_7_9_10_12_13 := hide (Rows.keep V1_3_4_6_7_9_10_12.out (Kp.of_below (T := allT) hb) (by decide) (fun _ _ h => h))
  clear V1_3_4_6_7_9_10_12
  have V2_6_7_9_10_12_13 := hide (Rows.keep V2_6_7_9_10_12.out (Kp.of_below (T := allT) hb) (by decide) (fun _ _ h => h))
  clear V2_6_7_9_10_12
  have V3_9_10_12_13 := hide (Rows.keep V3_9_10_12.out (Kp.of_below (T := allT) hb) (by decide) (fun _ _ h => h.keep (inner_all (Kp.of_below (T := allT) hb) (by decide))))
  clear V3_9_10_12
  have V4_12_13 := hide (Rows.keep V4_12.out (Kp.of_below (T := allT) hb) (by decide) (fun _ _ h => h.keep (inner_all (Kp.of_below (T := allT) hb) (by decide))))
  clear V4_12
  obtain ⟨p5, r5, rfl⟩ := rows_form hv
  have HZ : ∀ g, New _ g → Beh (w.heap.size + 1) (.slice p1 S.kinds.length r1) g := fun g (hg : _ ≤ g) => ⟨by have h1 := SZ.out; have h2 := SW.out; have h3 := Nat.le_trans h1 hg; omega, fun h => by have h1 := KB.out g h.symm; have h2 := Nat.le_trans SZ.out hg; omega⟩
  have V5 := hide (Rows.mono hv HZ fun _ _ h => h)
  clear HZ
  have SZ : Hid (w1.heap.size ≤ w13.heap.size) := hide (Nat.le_trans SZ.out hb.size)
  have BW13 := hide (BW12.out.trans (hb.mono BW12.out.size))
  clear hb hv C13 BW12
  obtain ⟨z14_0, z14_1, z14_2, z14_3, z14_4, z14_5, z14_6, z14_7, z14_8, y14⟩ := row9 LB0_1_3_4_6_7_9_10_12_13.out
  have HS_0_1_3_4_6_7_9_10_12_13_15 := hide (HS_0_1_3_4_6_7_9_10_12_13.out.keep (Kp.setLoc (T := allT) (i := 5) (v := .slice p5 S.sources.length r5) LB0_1_3_4_6_7_9_10_12_13.out (by decide)))
  clear HS_0_1_3_4_6_7_9_10_12_13
  have V1_3_4_6_7_9_10_12_13_15 := hide (Rows.keep V1_3_4_6_7_9_10_12_13.out (Kp.setLoc (T := allT) (i := 5) (v := .slice p5 S.sources.length r5) LB0_1_3_4_6_7_9_10_12_13.out (by decide)) (by decide) (fun _ _ h => h))
  clear V1_3_4_6_7_9_10_12_13
  have V2_6_7_9_10_12_13_15 := hide (Rows.keep V2_6_7_9_10_12_13.out (Kp.setLoc (T := allT) (i := 5) (v := .slice p5 S.sources.length r5) LB0_1_3_4_6_7_9_10_12_13.out (by decide)) (by decide) (fun _ _ h => h))
  clear V2_6_7_9_10_12_13
  have V3_9_10_12_13_15 := hide (Rows.keep V3_9_10_12_13.out (Kp.setLoc (T := allT) (i := 5) (v := .slice p5 S.sources.length r5) LB0_1_3_4_6_7_9_10_12_13.out (by decide)) (by decide) (fun _ _ h => h.keep (inner_all (Kp.setLoc (T := allT) (i := 5) (v := .slice p5 S.sources.length r5) LB0_1_3_4_6_7_9_10_12_13.out (by decide)) (by decide))))
  clear V3_9_10_12_13
  have V4_12_13_15 := hide (Rows.keep V4_12_13.out (Kp.setLoc (T := allT) (i := 5) (v := .slice p5 S.sources.length r5) LB0_1_3_4_6_7_9_10_12_13.out (by decide)) (by decide) (fun _ _ h => h.keep (inner_all (Kp.setLoc (T := allT) (i := 5) (v := .slice p5 S.sources.length r5) LB0_1_3_4_6_7_9_10_12_13.out (by decide)) (by decide))))
  clear V4_12_13
  have V5_15 := hide (Rows.keep V5.out (Kp.setLoc (T := allT) (i := 5) (v := .slice p5 S.sources.length r5) LB0_1_3_4_6_7_9_10_12_13.out (by decide)) (by decide) (fun _ _ h => h))
  clear V5
  have LB0_1_3_4_6_7_9_10_12_13_15 := hide (loc_set (i := 5) (v := .slice p5 S.sources.length r5) LB0_1_3_4_6_7_9_10_12_13.out)
  have LB1_1_3_4_6_7_9_10_12_13_15 := hide (loc_other (p := ⟨w.heap.size, 5, none⟩) (v := .slice p5 S.sources.length r5) LB1_1_3_4_6_7_9_10_12_13.out NE_1_0.out)
  clear LB0_1_3_4_6_7_9_10_12_13 LB1_1_3_4_6_7_9_10_12_13
  have BW15 := hide (below_set BW13.out G0.out 5 (.slice p5 S.sources.length r5))
  clear BW13
  have SZ : Hid (w1.heap.size ≤ (((w13).setCell ⟨w.heap.size, 5, none⟩ (.slice p5 S.sources.length r5))).heap.size) := hide (Nat.le_trans SZ.out (by simp))
  have C16 := hide (copy_CopyRuleTexts _ _ _ HS_0_1_3_4_6_7_9_10_12_13_15.out.rules hs.rules hs.rules')
  go_wp2_with fail
  refine C16.out.mono ?_
  rintro _ w16 ⟨v16, rfl, hv, hb⟩
  clear z14_0 z14_1 z14_2 z14_3 z14_4 z14_5 z14_6 z14_7 z14_8 y14
  have LB0_1_3_4_6_7_9_10_12_13_15_16 := hide ((hb.block _ (loc_lt LB0_1_3_4_6_7_9_10_12_13_15.out)).trans LB0_1_3_4_6_7_9_10_12_13_15.out)
  clear LB0_1_3_4_6_7_9_10_12_13_15
  have LB1_1_3_4_6_7_9_10_12_13_15_16 := hide ((hb.block _ (loc_lt LB1_1_3_4_6_7_9_10_12_13_15.out)).trans LB1_1_3_4_6_7_9_10_12_13_15.out)
  clear LB1_1_3_4_6_7_9_10_12_13_15
  have HS_0_1_3_4_6_7_9_10_12_13_15_16 := hide (HS_0_1_3_4_6_7_9_10_12_13_15.out.keep (Kp.of_below (T := allT) hb))
  clear HS_0_1_3_4_6_7_9_10_12_13_15
  have V1_3_4_6_7_9_10_12_13_15_16 := hide (Rows.keep V1_3_4_6_7_9_10_12_13_15.out (Kp.of_below (T := allT) hb) (by decide) (fun _ _ h => h))
  clear V1_3_4_6_7_9_10_12_13_15
  have V2_6_7_9_10_12_13_15_16 := hide (Rows.keep V2_6_7_9_10_12_13_15.out (Kp.of_below (T := allT) hb) (by decide) (fun _ _ h => h))
  clear V2_6_7_9_10_12_13_15
  have V3_9_10_12_13_15_16 := hide (Rows.keep V3_9_10_12_13_15.out (Kp.of_below (T := allT) hb) (by decide) (fun _ _ h => h.keep (inner_all (Kp.of_below (T := allT) hb) (by decide))))
  clear V3_9_10_12_13_15
  have V4_12_13_15_16 := hide (Rows.keep V4_12_13_15.out (Kp.of_below (T := allT) hb) (by decide) (fun _ _ h => h.keep (inner_all (Kp.of_below (T := allT) hb) (by decide))))
  clear V4_12_13_15
  have V5_15_16 := hide (Rows.keep V5_15.out (Kp.of_below (T := allT) hb) (by decide) (fun _ _ h => h))
  clear V5_15
  obtain ⟨p6, r6, rfl⟩ := rows_form hv
  have HZ : ∀ g, New _ g → Beh (w.heap.size + 1) (.slice p1 S.kinds.length r1) g := fun g (hg : _ ≤ g) => ⟨by have h1 := SZ.out; have h2 := SW.out; have h3 := Nat.le_trans h1 hg; omega, fun h => by have h1 := KB.out g h.symm; have h2 := Nat.le_trans SZ.out hg; omega⟩
  have V6 := hide (Rows.mono hv HZ fun _ _ h => h.mono HZ)
  clear HZ
  have SZ : Hid (w1.heap.size ≤ w16.heap.size) := hide (Nat.le_trans SZ.out hb.size)
  have BW16 := hide (BW15.out.trans (hb.mono BW15.out.size))
  clear hb hv C16 BW15
  obtain ⟨z17_0, z17_1, z17_2, z17_3, z17_4, z17_5, z17_6, z17_7, z17_8, y17⟩ := row9 LB0_1_3_4_6_7_9_10_12_13_15_16.out
  have HS_0_1_3_4_6_7_9_10_12_13_15_16_18 := hide (HS_0_1_3_4_6_7_9_10_12_13_15_16.out.keep (Kp.setLoc (T := allT) (i := 6) (v := .slice p6 S.rules.length r6) LB0_1_3_4_6_7_9_10_12_13_15_16.out (by decide)))
  clear HS_0_1_3_4_6_7_9_10_12_13_15_16
  have V1_3_4_6_7_9_10_12_13_15_16_18 := hide (Rows.keep V1_3_4_6_7_9_10_12_13_15_16.out (Kp.setLoc (T := allT) (i := 6) (v := .slice p6 S.rules.length r6) LB0_1_3_4_6_7_9_10_12_13_15_16.out (by decide)) (by decide) (fun _ _ h => h))
  clear V1_3_4_6_7_9_10_12_13_15_16
  have V2_6_7_9_10_12_13_15_16_18 := hide (Rows.keep V2_6_7_9_10_12_13_15_16.out (Kp.setLoc (T := allT) (i := 6) (v := .slice p6 S.rules.length r6) LB0_1_3_4_6_7_9_10_12_13_15_16.out (by decide)) (by decide) (fun _ _ h => h))
  clear V2_6_7_9_10_12_13_15_16
  have V3_9_10_12_13_15_16_18 := hide (Rows.keep V3_9_10_12_13_15_16.out (Kp.setLoc (T := allT) (i := 6) (v := .slice p6 S.rules.length r6) LB0_1_3_4_6_7_9_10_12_13_15_16.out (by decide)) (by decide) (fun _ _ h => h.keep (inner_all (Kp.setLoc (T := allT) (i := 6) (v := .slice p6 S.rules.length r6) LB0_1_3_4_6_7_9_10_12_13_15_16.out (by decide)) (by decide))))
  clear V3_9_10_12_13_15_16
  have V4_12_13_15_16_18 := hide (Rows.keep V4_12_13_15_16.out (Kp.setLoc (T := allT) (i := 6) (v := .slice p6 S.rules.length r6) LB0_1_3_4_6_7_9_10_12_13_15_16.out (by decide)) (by decide) (fun _ _ h => h.keep (inner_all (Kp.setLoc (T := allT) (i := 6) (v := .slice p6 S.rules.length r6) LB0_1_3_4_6_7_9_10_12_13_15_16.out (by decide)) (by decide))))
  clear V4_12_13_15_16
  have V5_15_16_18 := hide (Rows.keep V5_15_16.out (Kp.setLoc (T := allT) (i := 6) (v := .slice p6 S.rules.length r6) LB0_1_3_4_6_7_9_10_12_13_15_16.out (by decide)) (by decide) (fun _ _ h => h))
  clear V5_15_16
  have V6_18 := hide (Rows.keep V6.out (Kp.setLoc (T := allT) (i := 6) (v := .slice p6 S.rules.length r6) LB0_1_3_4_6_7_9_10_12_13_15_16.out (by decide)) (by decide) (fun _ _ h => h.keep (inner_all (Kp.setLoc (T := allT) (i := 6) (v := .slice p6 S.rules.length r6) LB0_1_3_4_6_7_9_10_12_13_15_16.out (by decide)) (by decide))))
  clear V6
  have LB0_1_3_4_6_7_9_10_12_13_15_16_18 := hide (loc_set (i := 6) (v := .slice p6 S.rules.length r6) LB0_1_3_4_6_7_9_10_12_13_15_16.out)
  have LB1_1_3_4_6_7_9_10_12_13_15_16_18 := hide (loc_other (p := ⟨w.heap.size, 6, none⟩) (v := .slice p6 S.rules.length r6) LB1_1_3_4_6_7_9_10_12_13_15_16.out NE_1_0.out)
  clear LB0_1_3_4_6_7_9_10_12_13_15_16 LB1_1_3_4_6_7_9_10_12_13_15_16
  have BW18 := hide (below_set BW16.out G0.out 6 (.slice p6 S.rules.length r6))
  clear BW16
  have SZ : Hid (w1.heap.size ≤ (((w16).setCell ⟨w.heap.size, 6, none⟩ (.slice p6 S.rules.length r6))).heap.size) := hide (Nat.le_trans SZ.out (by simp))
  have C19 := hide (copy_CopyExcepts _ _ _ HS_0_1_3_4_6_7_9_10_12_13_15_16_18.out.excepts hs.excepts)
  go_wp2_with fail
  refine C19.out.mono ?_
  rintro _ w19 ⟨v19, rfl, hv, hb⟩
  clear z17_0 z17_1 z17_2 z17_3 z17_4 z17_5 z17_6 z17_7 z17_8 y17
  have LB0_1_3_4_6_7_9_10_12_13_15_16_18_19 := hide ((hb.block _ (loc_lt LB0_1_3_4_6_7_9_10_12_13_15_16_18.out)).trans LB0_1_3_4_6_7_9_10_12_13_15_16_18.out)
  clear LB0_1_3_4_6_7_9_10_12_13_15_16_18
  have LB1_1_3_4_6_7_9_10_12_13_15_16_18_19 := hide ((hb.block _ (loc_lt LB1_1_3_4_6_7_9_10_12_13_15_16_18.out)).trans LB1_1_3_4_6_7_9_10_12_13_15_16_18.out)
  clear LB1_1_3_4_6_7_9_10_12_13_15_16_18
  have HS_0_1_3_4_6_7_9_10_12_13_15_16_18_19 := hide (HS_0_1_3_4_6_7_9_10_12_13_15_16_18.out.keep (Kp.of_below (T := allT) hb))
  clear HS_0_1_3_4_6_7_9_10_12_13_15_16_18
  have V1_3_4_6_7_9_10_12_13_15_16_18_19 := hide (Rows.keep V1_3_4_6_7_9_10_12_13_15_16_18.out (Kp.of_below (T := allT) hb) (by decide) (fun _ _ h => h))
  clear V1_3_4_6_7_9_10_12_13_15_16_18
  have V2_6_7_9_10_12_13_15_16_18_19 := hide (Rows.keep V2_6_7_9_10_12_13_15_16_18.out (Kp.of_below (T := allT) hb) (by decide) (fun _ _ h => h))
  clear V2_6_7_9_10_12_13_15_16_18
  have V3_9_10_12_13_15_16_18_19 := hide (Rows.keep V3_9_10_12_13_15_16_18.out (Kp.of_below (T := allT) hb) (by decide) (fun _ _ h => h.keep (inner_all (Kp.of_below (T := allT) hb) (by decide))))
  clear V3_9_10_12_13_15_16_18
  have V4_12_13_15_16_18_19 := hide (Rows.keep V4_12_13_15_16_18.out (Kp.of_below (T := allT) hb) (by decide) (fun _ _ h => h.keep (inner_all (Kp.of_below (T := allT) hb) (by decide))))
  clear V4_12_13_15_16_18
  have V5_15_16_18_19 := hide (Rows.keep V5_15_16_18.out (Kp.of_below (T := allT) hb) (by decide) (fun _ _ h => h))
  clear V5_15_16_18
  have V6_18_19 := hide (Rows.keep V6_18.out (Kp.of_below (T := allT) hb) (by decide) (fun _ _ h => h.keep (inner_all (Kp.of_below (T := allT) hb) (by decide))))
  clear V6_18
  obtain ⟨p7, r7, rfl⟩ := rows_form hv
  have HZ : ∀ g, New _ g → Beh (w.heap.size + 1) (.slice p1 S.kinds.length r1) g := fun g (hg : _ ≤ g) => ⟨by have h1 := SZ.out; have h2 := SW.out; have h3 := Nat.le_trans h1 hg; omega, fun h => by have h1 := KB.out g h.symm; have h2 := Nat.le_trans SZ.out hg; omega⟩
  have V7 := hide (Rows.mono hv HZ fun _ _ h => h)
  clear HZ
  have SZ : Hid (w1.heap.size ≤ w19.heap.size) := hide (Nat.le_trans SZ.out hb.size)
  have BW19 := hide (BW18.out.trans (hb.mono BW18.out.size))
  clear hb hv C19 BW18
  obtain ⟨z20_0, z20_1, z20_2, z20_3, z20_4, z20_5, z20_6, z20_7, z20_8, y20⟩ := row9 LB0_1_3_4_6_7_9_10_12_13_15_16_18_19.out
  have HS_0_1_3_4_6_7_9_10_12_13_15_16_18_19_21 := hide (HS_0_1_3_4_6_7_9_10_12_13_15_16_18_19.out.keep (Kp.setLoc (T := allT) (i := 7) (v := .slice p7 S.excepts.length r7) LB0_1_3_4_6_7_9_10_12_13_15_16_18_19.out (by decide)))
  clear HS_0_1_3_4_6_7_9_10_12_13_15_16_18_19
  have V1_3_4_6_7_9_10_12_13_15_16_18_19_21 := hide (Rows.keep V1_3_4_6_7_9_10_12_13_15_16_18_19.out (Kp.setLoc (T := allT) (i := 7) (v := .slice p7 S.excepts.length r7) LB0_1_3_4_6_7_9_10_12_13_15_16_18_19.out (by decide)) (by decide) (fun _ _ h => h))
  clear V1_3_4_6_7_9_10_12_13_15_16_18_19
  have V2_6_7_9_10_12_13_15_16_18_19_21 := hide (Rows.keep V2_6_7_9_10_12_13_15_16_18_19.out (Kp.setLoc (T := allT) (i := 7) (v := .slice p7 S.excepts.length r7) LB0_1_3_4_6_7_9_10_12_13_15_16_18_19.out (by decide)) (by decide) (fun _ _ h => h))
  clear V2_6_7_9_10_12_13_15_16_18_19
  have V3_9_10_12_13_15_16_18_19_21 := hide (Rows.keep V3_9_10_12_13_15_16_18_19.out (Kp.setLoc (T := allT) (i := 7) (v := .slice p7 S.excepts.length r7) LB0_1_3_4_6_7_9_10_12_13_15_16_18_19.out (by decide)) (by decide) (fun _ _ h => h.keep (inner_all (Kp.setLoc (T := allT) (i := 7) (v := .slice p7 S.excepts.length r7) LB0_1_3_4_6_7_9_10_12_13_15_16_18_19.out (by decide)) (by decide))))
  clear V3_9_10_12_13_15_16_18_19
  have V4_12_13_15_16_18_19_21 := hide (Rows.keep V4_12_13_15_16_18_19.out (Kp.setLoc (T := allT) (i := 7) (v := .slice p7 S.excepts.length r7) LB0_1_3_4_6_7_9_10_12_13_15_16_18_19.out (by decide)) (by decide) (fun _ _ h => h.keep (inner_all (Kp.setLoc (T := allT) (i := 7) (v := .slice p7 S.excepts.length r7) LB0_1_3_4_6_7_9_10_12_13_15_16_18_19.out (by decide)) (by decide))))
  clear V4_12_13_15_16_18_19
  have V5_15_16_18_19_21 := hide (Rows.keep V5_15_16_18_19.out (Kp.setLoc (T := allT) (i := 7) (v := .slice p7 S.excepts.length r7) LB0_1_3_4_6_7_9_10_12_13_15_16_18_19.out (by decide)) (by decide) (fun _ _ h => h))
  clear V5_15_16_18_19
  have V6_18_19_21 := hide (Rows.keep V6_18_19.out (Kp.setLoc (T := allT) (i := 7) (v := .slice p7 S.excepts.length r7) LB0_1_3_4_6_7_9_10_12_13_15_16_18_19.out (by decide)) (by decide) (fun _ _ h => h.keep (inner_all (Kp.setLoc (T := allT) (i := 7) (v := .slice p7 S.excepts.length r7) LB0_1_3_4_6_7_9_10_12_13_15_16_18_19.out (by decide)) (by decide))))
  clear V6_18_19
  have V7_21 := hide (Rows.keep V7.out (Kp.setLoc (T := allT) (i := 7) (v := .slice p7 S.excepts.length r7) LB0_1_3_4_6_7_9_10_12_13_15_16_18_19.out (by decide)) (by decide) (fun _ _ h => h))
  clear V7
  have LB0_1_3_4_6_7_9_10_12_13_15_16_18_19_21 := hide (loc_set (i := 7) (v := .slice p7 S.excepts.length r7) LB0_1_3_4_6_7_9_10_12_13_15_16_18_19.out)
  have LB1_1_3_4_6_7_9_10_12_13_15_16_18_19_21 := hide (loc_other (p := ⟨w.heap.size, 7, none⟩) (v := .slice p7 S.excepts.length r7) LB1_1_3_4_6_7_9_10_12_13_15_16_18_19.out NE_1_0.out)
  clear LB0_1_3_4_6_7_9_10_12_13_15_16_18_19 LB1_1_3_4_6_7_9_10_12_13_15_16_18_19
  have BW21 := hide (below_set BW19.out G0.out 7 (.slice p7 S.excepts.length r7))
  clear BW19
  have SZ : Hid (w1.heap.size ≤ (((w19).setCell ⟨w.heap.size, 7, none⟩ (.slice p7 S.excepts.length r7))).heap.size) := hide (Nat.le_trans SZ.out (by simp))
  have C22 := hide (copy_CopyTotals _ _ _ HS_0_1_3_4_6_7_9_10_12_13_15_16_18_19_21.out.totals hs.totals hs.totals')
  go_wp2_with fail
  refine C22.out.mono ?_
  rintro _ w22 ⟨v22, rfl, hv, hb⟩
  clear z20_0 z20_1 z20_2 z20_3 z20_4 z20_5 z20_6 z20_7 z20_8 y20
  have LB0_1_3_4_6_7_9_10_12_13_15_16_18_19_21_22 := hide ((hb.block _ (loc_lt LB0_1_3_4_6_7_9_10_12_13_15_16_18_19_21.out)).trans LB0_1_3_4_6_7_9_10_12_13_15_16_18_19_21.out)
  clear LB0_1_3_4_6_7_9_10_12_13_15_16_18_19_21
  have LB1_1_3_4_6_7_9_10_12_13_15_16_18_19_21_22 := hide ((hb.block _ (loc_lt LB1_1_3_4_6_7_9_10_12_13_15_16_18_19_21.out)).trans LB1_1_3_4_6_7_9_10_12_13_15_16_18_19_21.out)
  clear LB1_1_3_4_6_7_9_10_12_13_15_16_18_19_21
  have HS_0_1_3_4_6_7_9_10_12_13_15_16_18_19_21_22 := hide (HS_0_1_3_4_6_7_9_10_12_13_15_16_18_19_21.out.keep (Kp.of_below (T := allT) hb))
  clear HS_0_1_3_4_6_7_9_10_12_13_15_16_18_19_21
  have V1_3_4_6_7_9_10_12_13_15_16_18_19_21_22 := hide (Rows.keep V1_3_4_6_7_9_10_12_13_15_16_18_19_21.out (Kp.of_below (T := allT) hb) (by decide) (fun _ _ h => h))
  clear V1_3_4_6_7_9_10_12_13_15_16_18_19_21
  have V2_6_7_9_10_12_13_15_16_18_19_21_22 := hide (Rows.keep V2_6_7_9_10_12_13_15_16_18_19_21.out (Kp.of_below (T := allT) hb) (by decide) (fun _ _ h => h))
  clear V2_6_7_9_10_12_13_15_16_18_19_21
  have V3_9_10_12_13_15_16_18_19_21_22 := hide (Rows.keep V3_9_10_12_13_15_16_18_19_21.out (Kp.of_below (T := allT) hb) (by decide) (fun _ _ h => h.keep (inner_all (Kp.of_below (T := allT) hb) (by decide))))
  clear V3_9_10_12_13_15_16_18_19_21
  have V4_12_13_15_16_18_19_21_22 := hide (Rows.keep V4_12_13_15_16_18_19_21.out (Kp.of_below (T := allT) hb) (by decide) (fun _ _ h => h.keep (inner_all (Kp.of_below (T := allT) hb) (by decide))))
  clear V4_12_13_15_16_18_19_21
  have V5_15_16_18_19_21_22 := hide (Rows.keep V5_15_16_18_19_21.out (Kp.of_below (T := allT) hb) (by decide) (fun _ _ h => h))
  clear V5_15_16_18_19_21
  have V6_18_19_21_22 := hide (Rows.keep V6_18_19_21.out (Kp.of_below (T := allT) hb) (by decide) (fun _ _ h => h.keep (inner_all (Kp.of_below (T := allT) hb) (by decide))))
  clear V6_18_19_21
  have V7_21_22 := hide (Rows.keep V7_21.out (Kp.of_below (T := allT) hb) (by decide) (fun _ _ h => h))
  clear V7_21
  obtain ⟨p8, r8, rfl⟩ := rows_form hv
  have HZ : ∀ g, New _ g → Beh (w.heap.size + 1) (.slice p1 S.kinds.length r1) g := fun g (hg : _ ≤ g) => ⟨by have h1 := SZ.out; have h2 := SW.out; have h3 := Nat.le_trans h1 hg; omega, fun h => by have h1 := KB.out g h.symm; have h2 := Nat.le_trans SZ.out hg; omega⟩
  have V8 := hide (Rows.mono hv HZ fun _ _ h => h.mono HZ)
  clear HZ
  have SZ : Hid (w1.heap.size ≤ w22.heap.size) := hide (Nat.le_trans SZ.out hb.size)
  have BW22 := hide (BW21.out.trans (hb.mono BW21.out.size))
  clear hb hv C22 BW21
  obtain ⟨z23_0, z23_1, z23_2, z23_3, z23_4, z23_5, z23_6, z23_7, z23_8, y23⟩ := row9 LB0_1_3_4_6_7_9_10_12_13_15_16_18_19_21_22.out
  obtain ⟨z24_0, z24_1, z24_2, z24_3, z24_4, z24_5, z24_6, z24_7, z24_8, y24⟩ := row9 LB1_1_3_4_6_7_9_10_12_13_15_16_18_19_21_22.out
  have x25 := NE_0_1.out
  have x26 := NE_1_0.out
  have HS_0_1_3_4_6_7_9_10_12_13_15_16_18_19_21_22_27 := hide (HS_0_1_3_4_6_7_9_10_12_13_15_16_18_19_21_22.out.keep (Kp.setLoc (T := allT) (i := 8) (v := .slice p8 S.totals.length r8) LB0_1_3_4_6_7_9_10_12_13_15_16_18_19_21_22.out (by decide)))
  clear HS_0_1_3_4_6_7_9_10_12_13_15_16_18_19_21_22
  have V1_3_4_6_7_9_10_12_13_15_16_18_19_21_22_27 := hide (Rows.keep V1_3_4_6_7_9_10_12_13_15_16_18_19_21_22.out (Kp.setLoc (T := allT) (i := 8) (v := .slice p8 S.totals.length r8) LB0_1_3_4_6_7_9_10_12_13_15_16_18_19_21_22.out (by decide)) (by decide) (fun _ _ h => h))
  clear V1_3_4_6_7_9_10_12_13_15_16_18_19_21_22
  have V2_6_7_9_10_12_13_15_16_18_19_21_22_27 := hide (Rows.keep V2_6_7_9_10_12_13_15_16_18_19_21_22.out (Kp.setLoc (T := allT) (i := 8) (v := .slice p8 S.totals.length r8) LB0_1_3_4_6_7_9_10_12_13_15_16_18_19_21_22.out (by decide)) (by decide) (fun _ _ h => h))
  clear V2_6_7_9_10_12_13_15_16_18_19_21_22
  have V3_9_10_12_13_15_16_18_19_21_22_27 := hide (Rows.keep V3_9_10_12_13_15_16_18_19_21_22.out (Kp.setLoc (T := allT) (i := 8) (v := .slice p8 S.totals.length r8) LB0_1_3_4_6_7_9_10_12_13_15_16_18_19_21_22.out (by decide)) (by decide) (fun _ _ h => h.keep (inner_all (Kp.setLoc (T := allT) (i := 8) (v := .slice p8 S.totals.length r8) LB0_1_3_4_6_7_9_10_12_13_15_16_18_19_21_22.out (by decide)) (by decide))))
  clear V3_9_10_12_13_15_16_18_19_21_22
  have V4_12_13_15_16_18_19_21_22_27 := hide (Rows.keep V4_12_13_15_16_18_19_21_22.out (Kp.setLoc (T := allT) (i := 8) (v := .slice p8 S.totals.length r8) LB0_1_3_4_6_7_9_10_12_13_15_16_18_19_21_22.out (by decide)) (by decide) (fun _ _ h => h.keep (inner_all (Kp.setLoc (T := allT) (i := 8) (v := .slice p8 S.totals.length r8) LB0_1_3_4_6_7_9_10_12_13_15_16_18_19_21_22.out (by decide)) (by decide))))
  clear V4_12_13_15_16_18_19_21_22
  have V5_15_16_18_19_21_22_27 := hide (Rows.keep V5_15_16_18_19_21_22.out (Kp.setLoc (T := allT) (i := 8) (v := .slice p8 S.totals.length r8) LB0_1_3_4_6_7_9_10_12_13_15_16_18_19_21_22.out (by decide)) (by decide) (fun _ _ h => h))
  clear V5_15_16_18_19_21_22
  have V6_18_19_21_22_27 := hide (Rows.keep V6_18_19_21_22.out (Kp.setLoc (T := allT) (i := 8) (v := .slice p8 S.totals.length r8) LB0_1_3_4_6_7_9_10_12_13_15_16_18_19_21_22.out (by decide)) (by decide) (fun _ _ h => h.keep (inner_all (Kp.setLoc (T := allT) (i := 8) (v := .slice p8 S.totals.length r8) LB0_1_3_4_6_7_9_10_12_13_15_16_18_19_21_22.out (by decide)) (by decide))))
  clear V6_18_19_21_22
  have V7_21_22_27 := hide (Rows.keep V7_21_22.out (Kp.setLoc (T := allT) (i := 8) (v := .slice p8 S.totals.length r8) LB0_1_3_4_6_7_9_10_12_13_15_16_18_19_21_22.out (by decide)) (by decide) (fun _ _ h => h))
  clear V7_21_22
  have V8_27 := hide (Rows.keep V8.out (Kp.setLoc (T := allT) (i := 8) (v := .slice p8 S.totals.length r8) LB0_1_3_4_6_7_9_10_12_13_15_16_18_19_21_22.out (by decide)) (by decide) (fun _ _ h => h.keep (inner_all (Kp.setLoc (T := allT) (i := 8) (v := .slice p8 S.totals.length r8) LB0_1_3_4_6_7_9_10_12_13_15_16_18_19_21_22.out (by decide)) (by decide))))
  clear V8
  have LB0_1_3_4_6_7_9_10_12_13_15_16_18_19_21_22_27 := hide (loc_set (i := 8) (v := .slice p8 S.totals.length r8) LB0_1_3_4_6_7_9_10_12_13_15_16_18_19_21_22.out)
  have LB1_1_3_4_6_7_9_10_12_13_15_16_18_19_21_22_27 := hide (loc_other (p := ⟨w.heap.size, 8, none⟩) (v := .slice p8 S.totals.length r8) LB1_1_3_4_6_7_9_10_12_13_15_16_18_19_21_22.out NE_1_0.out)
  clear LB0_1_3_4_6_7_9_10_12_13_15_16_18_19_21_22 LB1_1_3_4_6_7_9_10_12_13_15_16_18_19_21_22
  have BW27 := hide (below_set BW22.out G0.out 8 (.slice p8 S.totals.length r8))
  clear BW22
  have SZ : Hid (w1.heap.size ≤ (((w22).setCell ⟨w.heap.size, 8, none⟩ (.slice p8 S.totals.length r8))).heap.size) := hide (Nat.le_trans SZ.out (by simp))
  have HR := hide (show SRep (w.heap.size + 1) _ ⟨.string ⟨S.title.toArray⟩, .slice p1 S.kinds.length r1, .slice p2 S.members.length r2, .slice p3 S.preds.length r3, .slice p4 S.classes.length r4, .slice p5 S.sources.length r5, .slice p6 S.rules.length r6, .slice p7 S.excepts.length r7, .slice p8 S.totals.length r8⟩ S from ⟨rfl, V1_3_4_6_7_9_10_12_13_15_16_18_19_21_22_27.out, V2_6_7_9_10_12_13_15_16_18_19_21_22_27.out, V3_9_10_12_13_15_16_18_19_21_22_27.out, V4_12_13_15_16_18_19_21_22_27.out, V5_15_16_18_19_21_22_27.out, V6_18_19_21_22_27.out, V7_21_22_27.out, V8_27.out⟩)
  clear HS_0_1_3_4_6_7_9_10_12_13_15_16_18_19_21_22_27 V1_3_4_6_7_9_10_12_13_15_16_18_19_21_22_27 V2_6_7_9_10_12_13_15_16_18_19_21_22_27 V3_9_10_12_13_15_16_18_19_21_22_27 V4_12_13_15_16_18_19_21_22_27 V5_15_16_18_19_21_22_27 V6_18_19_21_22_27 V7_21_22_27 V8_27
  go_wp2_with fail
  have hz := (And.intro z23_0 (And.intro z23_1 (And.intro z23_2 (And.intro z23_3 (And.intro z23_4 (And.intro z23_5 (And.intro z23_6 (And.intro z23_7 (And.intro z23_8 (And.intro y23 (And.intro z24_0 (And.intro z24_1 (And.intro z24_2 (And.intro z24_3 (And.intro z24_4 (And.intro z24_5 (And.intro z24_6 (And.intro z24_7 (And.intro z24_8 (And.intro y24 (And.intro x25 x26)))))))))))))))))))))
  simp [bodyPost, results, Tryz.results17, go_sem, hz]
  exact ⟨⟨.string ⟨S.title.toArray⟩, .slice p1 S.kinds.length r1, .slice p2 S.members.length r2, .slice p3 S.preds.length r3, .slice p4 S.classes.length r4, .slice p5 S.sources.length r5, .slice p6 S.rules.length r6, .slice p7 S.excepts.length r7, .slice p8 S.totals.length r8⟩, ⟨rfl, rfl, rfl, rfl, rfl, rfl, rfl, rfl, rfl⟩, HR.out.keep (nine_kp fun g (hg : w.heap.size + 1 < g) => by omega), nine_below BW27.out (Nat.le_succ _)⟩
end Go.Proofs.YthnjmfkiohgkkaaGreatDoor.Sy
