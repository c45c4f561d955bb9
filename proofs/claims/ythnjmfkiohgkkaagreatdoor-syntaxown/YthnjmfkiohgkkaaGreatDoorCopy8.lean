/- CopyStatute: the same statute in memory of its own. By program (tools/gen5/c20.py). -/
import Derived.Test.YthnjmfkiohgkkaaGreatDoorCopy7
import Derived.Test.YthnjmfkiohgkkaaGreatDoorSpacedForm
import Derived.Test.YthnjmfkiohgkkaaGreatDoorSameAll
namespace Go.Proofs.YthnjmfkiohgkkaaGreatDoor.Sy
open Go.RowKit

theorem nine_kp {T : List Nat} {Z : Nat → Prop} {W : World} {q : Nat} {v0 v1 v2 v3 v4 v5 v6 v7 v8 : Value} (hz : ∀ g, Z g → g ≠ q) : Kp T Z W (((((((((W.setCell ⟨q, 0, none⟩ v0).setCell ⟨q, 1, none⟩ v1).setCell ⟨q, 2, none⟩ v2).setCell ⟨q, 3, none⟩ v3).setCell ⟨q, 4, none⟩ v4).setCell ⟨q, 5, none⟩ v5).setCell ⟨q, 6, none⟩ v6).setCell ⟨q, 7, none⟩ v7).setCell ⟨q, 8, none⟩ v8) :=
  fun g _ _ hZ hg _ => (nine_other (hz g hZ)).trans hg
theorem nine_below {B : Nat} {w W : World} {q : Nat} {v0 v1 v2 v3 v4 v5 v6 v7 v8 : Value} (h : Below B w W) (hq : B ≤ q) : Below B w (((((((((W.setCell ⟨q, 0, none⟩ v0).setCell ⟨q, 1, none⟩ v1).setCell ⟨q, 2, none⟩ v2).setCell ⟨q, 3, none⟩ v3).setCell ⟨q, 4, none⟩ v4).setCell ⟨q, 5, none⟩ v5).setCell ⟨q, 6, none⟩ v6).setCell ⟨q, 7, none⟩ v7).setCell ⟨q, 8, none⟩ v8) :=
  below_set (below_set (below_set (below_set (below_set (below_set (below_set (below_set (below_set h hq 0 v0) hq 1 v1) hq 2 v2) hq 3 v3) hq 4 v4) hq 5 v5) hq 6 v6) hq 7 v7) hq 8 v8

set_option maxRecDepth 100000 in
set_option maxHeartbeats 3200000 in
theorem copy_statute {R : Nat} {st : St9} {S : StatM} (w : World) (hS : SRep R w st S) (hs : SmallS S) :
    Calls Tryz.prog 17 #[St9.agg st] w fun e w' => ∃ st', e = .returned (St9.agg st') ∧ SRep (w.heap.size + 1) w' st' S ∧ Below w.heap.size w w' := by
  obtain ⟨a1, c1, a2, c2, a3, c3, a4, c4, a5, c5, a6, c6, a7, c7, a8, c8, rfl⟩ := hS.form
  have HS := hide hS
  clear hS
  simp only [St9.agg]
  go_enter Tryz.func17, Tryz.ntmps17
  have B0 : Below w.heap.size w ((w.alloc (.cells #[.string ⟨S.title.toArray⟩, .slice a1 S.kinds.length c1, .slice a2 S.members.length c2, .slice a3 S.preds.length c3, .slice a4 S.classes.length c4, .slice a5 S.sources.length c5, .slice a6 S.rules.length c6, .slice a7 S.excepts.length c7, .slice a8 S.totals.length c8] 31)).alloc (.cells #[.string ⟨#[]⟩, .slice none 0 0, .slice none 0 0, .slice none 0 0, .slice none 0 0, .slice none 0 0, .slice none 0 0, .slice none 0 0, .slice none 0 0] 31)) := below_two w _ _
  have G0 : Hid (w.heap.size ≤ w.heap.size) := hide (Nat.le_refl _)
  have G1 : Hid (w.heap.size ≤ w.heap.size + 1) := hide (Nat.le_succ _)
  have q0 : Hid (w.heap.size ≠ w.heap.size + 1) := hide (by omega)
  have q1 : Hid (w.heap.size + 1 ≠ w.heap.size) := hide (by omega)
  have LB0 := hide (two_new w (.cells #[.string ⟨S.title.toArray⟩, .slice a1 S.kinds.length c1, .slice a2 S.members.length c2, .slice a3 S.preds.length c3, .slice a4 S.classes.length c4, .slice a5 S.sources.length c5, .slice a6 S.rules.length c6, .slice a7 S.excepts.length c7, .slice a8 S.totals.length c8] 31) (.cells #[.string ⟨#[]⟩, .slice none 0 0, .slice none 0 0, .slice none 0 0, .slice none 0 0, .slice none 0 0, .slice none 0 0, .slice none 0 0, .slice none 0 0] 31)).1
  have LB1 := hide (two_new w (.cells #[.string ⟨S.title.toArray⟩, .slice a1 S.kinds.length c1, .slice a2 S.members.length c2, .slice a3 S.preds.length c3, .slice a4 S.classes.length c4, .slice a5 S.sources.length c5, .slice a6 S.rules.length c6, .slice a7 S.excepts.length c7, .slice a8 S.totals.length c8] 31) (.cells #[.string ⟨#[]⟩, .slice none 0 0, .slice none 0 0, .slice none 0 0, .slice none 0 0, .slice none 0 0, .slice none 0 0, .slice none 0 0, .slice none 0 0] 31)).2
  have q2 := hide (HS.out.keep (Kp.of_below (T := allT) B0))
  clear HS
  have BW := hide B0
  clear B0
  have C1 := hide (copy_CopyStrings _ _ _ q2.out.kinds hs.kinds)
  go_wp2_with fail
  refine C1.out.mono ?_
  rintro _ w1 ⟨v1, rfl, hv, hb⟩
  have q3 := hide ((hb.block _ (loc_lt LB0.out)).trans LB0.out)
  clear LB0
  have q4 := hide ((hb.block _ (loc_lt LB1.out)).trans LB1.out)
  clear LB1
  have q5 := hide (q2.out.keep (Kp.of_below (T := allT) hb))
  clear q2
  obtain ⟨p1, r1, rfl⟩ := rows_form hv
  have V1 := hide (Strs.within (Z' := (w.heap.size + 1 < ·)) hv fun g _ hg => by have h2 : _ ≤ g := hg; simp at h2; omega)
  have KB : Hid (∀ g, (Value.slice p1 S.kinds.length r1).ownBlock = some g → g < w1.heap.size) := hide fun g hg => by obtain ⟨xs, ho, _⟩ := hv; exact (ho.1.lt g hg).2
  have SZ : Hid (w1.heap.size ≤ w1.heap.size) := hide (Nat.le_refl _)
  have SW : Hid (w.heap.size + 2 ≤ w1.heap.size) := hide (by have := hb.size; simp at this; omega)
  have BW1 := hide (BW.out.trans (hb.mono BW.out.size))
  clear hb hv C1 BW
  obtain ⟨q6, q7, q8, q9, qa, qb, qc, qd, qe, y2⟩ := row9 q3.out
  have qf := hide (q5.out.keep (Kp.setLoc (T := allT) (i := 1) (v := .slice p1 S.kinds.length r1) q3.out (by decide)))
  clear q5
  have qg := hide (Rows.keep V1.out (Kp.setLoc (T := allT) (i := 1) (v := .slice p1 S.kinds.length r1) q3.out (by decide)) (by decide) (fun _ _ h => h))
  clear V1
  have qh := hide (loc_set (i := 1) (v := .slice p1 S.kinds.length r1) q3.out)
  have qi := hide (loc_other (p := ⟨w.heap.size, 1, none⟩) (v := .slice p1 S.kinds.length r1) q4.out q1.out)
  clear q3 q4
  have BW3 := hide (below_set BW1.out G0.out 1 (.slice p1 S.kinds.length r1))
  clear BW1
  have SZ : Hid (w1.heap.size ≤ (((w1).setCell ⟨w.heap.size, 1, none⟩ (.slice p1 S.kinds.length r1))).heap.size) := hide (Nat.le_trans SZ.out (by simp))
  have C4 := hide (copy_CopyMembers _ _ _ qf.out.members hs.members)
  go_wp2_with fail
  refine C4.out.mono ?_
  rintro _ w4 ⟨v4, rfl, hv, hb⟩
  clear q6 q7 q8 q9 qa qb qc qd qe y2
  have qj := hide ((hb.block _ (loc_lt qh.out)).trans qh.out)
  clear qh
  have qk := hide ((hb.block _ (loc_lt qi.out)).trans qi.out)
  clear qi
  have ql := hide (qf.out.keep (Kp.of_below (T := allT) hb))
  clear qf
  have qm := hide (Rows.keep qg.out (Kp.of_below (T := allT) hb) (by decide) (fun _ _ h => h))
  clear qg
  obtain ⟨p2, r2, rfl⟩ := rows_form hv
  have HZ : ∀ g, New _ g → Beh (w.heap.size + 1) (.slice p1 S.kinds.length r1) g := fun g (hg : _ ≤ g) => ⟨by have h1 := SZ.out; have h2 := SW.out; have h3 := Nat.le_trans h1 hg; omega, fun h => by have h1 := KB.out g h.symm; have h2 := Nat.le_trans SZ.out hg; omega⟩
  have V2 := hide (Rows.mono hv HZ fun _ _ h => h)
  clear HZ
  have SZ : Hid (w1.heap.size ≤ w4.heap.size) := hide (Nat.le_trans SZ.out hb.size)
  have BW4 := hide (BW3.out.trans (hb.mono BW3.out.size))
  clear hb hv C4 BW3
  obtain ⟨qn, qo, qp, qq, qr, qs, qt, qu, qv, y5⟩ := row9 qj.out
  have qw := hide (ql.out.keep (Kp.setLoc (T := allT) (i := 2) (v := .slice p2 S.members.length r2) qj.out (by decide)))
  clear ql
  have qx := hide (Rows.keep qm.out (Kp.setLoc (T := allT) (i := 2) (v := .slice p2 S.members.length r2) qj.out (by decide)) (by decide) (fun _ _ h => h))
  clear qm
  have qy := hide (Rows.keep V2.out (Kp.setLoc (T := allT) (i := 2) (v := .slice p2 S.members.length r2) qj.out (by decide)) (by decide) (fun _ _ h => h))
  clear V2
  have qz := hide (loc_set (i := 2) (v := .slice p2 S.members.length r2) qj.out)
  have qA := hide (loc_other (p := ⟨w.heap.size, 2, none⟩) (v := .slice p2 S.members.length r2) qk.out q1.out)
  clear qj qk
  have BW6 := hide (below_set BW4.out G0.out 2 (.slice p2 S.members.length r2))
  clear BW4
  have SZ : Hid (w1.heap.size ≤ (((w4).setCell ⟨w.heap.size, 2, none⟩ (.slice p2 S.members.length r2))).heap.size) := hide (Nat.le_trans SZ.out (by simp))
  have C7 := hide (copy_CopyPreds _ _ _ qw.out.preds hs.preds hs.preds')
  go_wp2_with fail
  refine C7.out.mono ?_
  rintro _ w7 ⟨v7, rfl, hv, hb⟩
  clear qn qo qp qq qr qs qt qu qv y5
  have qB := hide ((hb.block _ (loc_lt qz.out)).trans qz.out)
  clear qz
  have qC := hide ((hb.block _ (loc_lt qA.out)).trans qA.out)
  clear qA
  have qD := hide (qw.out.keep (Kp.of_below (T := allT) hb))
  clear qw
  have qE := hide (Rows.keep qx.out (Kp.of_below (T := allT) hb) (by decide) (fun _ _ h => h))
  clear qx
  have qF := hide (Rows.keep qy.out (Kp.of_below (T := allT) hb) (by decide) (fun _ _ h => h))
  clear qy
  obtain ⟨p3, r3, rfl⟩ := rows_form hv
  have HZ : ∀ g, New _ g → Beh (w.heap.size + 1) (.slice p1 S.kinds.length r1) g := fun g (hg : _ ≤ g) => ⟨by have h1 := SZ.out; have h2 := SW.out; have h3 := Nat.le_trans h1 hg; omega, fun h => by have h1 := KB.out g h.symm; have h2 := Nat.le_trans SZ.out hg; omega⟩
  have V3 := hide (Rows.mono hv HZ fun _ _ h => h.mono HZ)
  clear HZ
  have SZ : Hid (w1.heap.size ≤ w7.heap.size) := hide (Nat.le_trans SZ.out hb.size)
  have BW7 := hide (BW6.out.trans (hb.mono BW6.out.size))
  clear hb hv C7 BW6
  obtain ⟨qG, qH, qI, qJ, qK, qL, qM, qN, qO, y8⟩ := row9 qB.out
  have qP := hide (qD.out.keep (Kp.setLoc (T := allT) (i := 3) (v := .slice p3 S.preds.length r3) qB.out (by decide)))
  clear qD
  have qQ := hide (Rows.keep qE.out (Kp.setLoc (T := allT) (i := 3) (v := .slice p3 S.preds.length r3) qB.out (by decide)) (by decide) (fun _ _ h => h))
  clear qE
  have qR := hide (Rows.keep qF.out (Kp.setLoc (T := allT) (i := 3) (v := .slice p3 S.preds.length r3) qB.out (by decide)) (by decide) (fun _ _ h => h))
  clear qF
  have qS := hide (Rows.keep V3.out (Kp.setLoc (T := allT) (i := 3) (v := .slice p3 S.preds.length r3) qB.out (by decide)) (by decide) (fun _ _ h => h.keep (inner_all (Kp.setLoc (T := allT) (i := 3) (v := .slice p3 S.preds.length r3) qB.out (by decide)) (by decide))))
  clear V3
  have qT := hide (loc_set (i := 3) (v := .slice p3 S.preds.length r3) qB.out)
  have qU := hide (loc_other (p := ⟨w.heap.size, 3, none⟩) (v := .slice p3 S.preds.length r3) qC.out q1.out)
  clear qB qC
  have BW9 := hide (below_set BW7.out G0.out 3 (.slice p3 S.preds.length r3))
  clear BW7
  have SZ : Hid (w1.heap.size ≤ (((w7).setCell ⟨w.heap.size, 3, none⟩ (.slice p3 S.preds.length r3))).heap.size) := hide (Nat.le_trans SZ.out (by simp))
  have C10 := hide (copy_CopyStringLists _ _ _ qP.out.classes hs.classes hs.classes')
  go_wp2_with fail
  refine C10.out.mono ?_
  rintro _ w10 ⟨v10, rfl, hv, hb⟩
  clear qG qH qI qJ qK qL qM qN qO y8
  have qV := hide ((hb.block _ (loc_lt qT.out)).trans qT.out)
  clear qT
  have qW := hide ((hb.block _ (loc_lt qU.out)).trans qU.out)
  clear qU
  have qX := hide (qP.out.keep (Kp.of_below (T := allT) hb))
  clear qP
  have qY := hide (Rows.keep qQ.out (Kp.of_below (T := allT) hb) (by decide) (fun _ _ h => h))
  clear qQ
  have qZ := hide (Rows.keep qR.out (Kp.of_below (T := allT) hb) (by decide) (fun _ _ h => h))
  clear qR
  have q10 := hide (Rows.keep qS.out (Kp.of_below (T := allT) hb) (by decide) (fun _ _ h => h.keep (inner_all (Kp.of_below (T := allT) hb) (by decide))))
  clear qS
  obtain ⟨p4, r4, rfl⟩ := rows_form hv
  have HZ : ∀ g, New _ g → Beh (w.heap.size + 1) (.slice p1 S.kinds.length r1) g := fun g (hg : _ ≤ g) => ⟨by have h1 := SZ.out; have h2 := SW.out; have h3 := Nat.le_trans h1 hg; omega, fun h => by have h1 := KB.out g h.symm; have h2 := Nat.le_trans SZ.out hg; omega⟩
  have V4 := hide (Rows.mono hv HZ fun _ _ h => h.mono HZ)
  clear HZ
  have SZ : Hid (w1.heap.size ≤ w10.heap.size) := hide (Nat.le_trans SZ.out hb.size)
  have BW10 := hide (BW9.out.trans (hb.mono BW9.out.size))
  clear hb hv C10 BW9
  obtain ⟨q11, q12, q13, q14, q15, q16, q17, q18, q19, y11⟩ := row9 qV.out
  have q1a := hide (qX.out.keep (Kp.setLoc (T := allT) (i := 4) (v := .slice p4 S.classes.length r4) qV.out (by decide)))
  clear qX
  have q1b := hide (Rows.keep qY.out (Kp.setLoc (T := allT) (i := 4) (v := .slice p4 S.classes.length r4) qV.out (by decide)) (by decide) (fun _ _ h => h))
  clear qY
  have q1c := hide (Rows.keep qZ.out (Kp.setLoc (T := allT) (i := 4) (v := .slice p4 S.classes.length r4) qV.out (by decide)) (by decide) (fun _ _ h => h))
  clear qZ
  have q1d := hide (Rows.keep q10.out (Kp.setLoc (T := allT) (i := 4) (v := .slice p4 S.classes.length r4) qV.out (by decide)) (by decide) (fun _ _ h => h.keep (inner_all (Kp.setLoc (T := allT) (i := 4) (v := .slice p4 S.classes.length r4) qV.out (by decide)) (by decide))))
  clear q10
  have q1e := hide (Rows.keep V4.out (Kp.setLoc (T := allT) (i := 4) (v := .slice p4 S.classes.length r4) qV.out (by decide)) (by decide) (fun _ _ h => h.keep (inner_all (Kp.setLoc (T := allT) (i := 4) (v := .slice p4 S.classes.length r4) qV.out (by decide)) (by decide))))
  clear V4
  have q1f := hide (loc_set (i := 4) (v := .slice p4 S.classes.length r4) qV.out)
  have q1g := hide (loc_other (p := ⟨w.heap.size, 4, none⟩) (v := .slice p4 S.classes.length r4) qW.out q1.out)
  clear qV qW
  have BW12 := hide (below_set BW10.out G0.out 4 (.slice p4 S.classes.length r4))
  clear BW10
  have SZ : Hid (w1.heap.size ≤ (((w10).setCell ⟨w.heap.size, 4, none⟩ (.slice p4 S.classes.length r4))).heap.size) := hide (Nat.le_trans SZ.out (by simp))
  have C13 := hide (copy_CopySources _ _ _ q1a.out.sources hs.sources)
  go_wp2_with fail
  refine C13.out.mono ?_
  rintro _ w13 ⟨v13, rfl, hv, hb⟩
  clear q11 q12 q13 q14 q15 q16 q17 q18 q19 y11
  have q1h := hide ((hb.block _ (loc_lt q1f.out)).trans q1f.out)
  clear q1f
  have q1i := hide ((hb.block _ (loc_lt q1g.out)).trans q1g.out)
  clear q1g
  have q1j := hide (q1a.out.keep (Kp.of_below (T := allT) hb))
  clear q1a
  have q1k := hide (Rows.keep q1b.out (Kp.of_below (T := allT) hb) (by decide) (fun _ _ h => h))
  clear q1b
  have q1l := hide (Rows.keep q1c.out (Kp.of_below (T := allT) hb) (by decide) (fun _ _ h => h))
  clear q1c
  have q1m := hide (Rows.keep q1d.out (Kp.of_below (T := allT) hb) (by decide) (fun _ _ h => h.keep (inner_all (Kp.of_below (T := allT) hb) (by decide))))
  clear q1d
  have q1n := hide (Rows.keep q1e.out (Kp.of_below (T := allT) hb) (by decide) (fun _ _ h => h.keep (inner_all (Kp.of_below (T := allT) hb) (by decide))))
  clear q1e
  obtain ⟨p5, r5, rfl⟩ := rows_form hv
  have HZ : ∀ g, New _ g → Beh (w.heap.size + 1) (.slice p1 S.kinds.length r1) g := fun g (hg : _ ≤ g) => ⟨by have h1 := SZ.out; have h2 := SW.out; have h3 := Nat.le_trans h1 hg; omega, fun h => by have h1 := KB.out g h.symm; have h2 := Nat.le_trans SZ.out hg; omega⟩
  have V5 := hide (Rows.mono hv HZ fun _ _ h => h)
  clear HZ
  have SZ : Hid (w1.heap.size ≤ w13.heap.size) := hide (Nat.le_trans SZ.out hb.size)
  have BW13 := hide (BW12.out.trans (hb.mono BW12.out.size))
  clear hb hv C13 BW12
  obtain ⟨q1o, q1p, q1q, q1r, q1s, q1t, q1u, q1v, q1w, y14⟩ := row9 q1h.out
  have q1x := hide (q1j.out.keep (Kp.setLoc (T := allT) (i := 5) (v := .slice p5 S.sources.length r5) q1h.out (by decide)))
  clear q1j
  have q1y := hide (Rows.keep q1k.out (Kp.setLoc (T := allT) (i := 5) (v := .slice p5 S.sources.length r5) q1h.out (by decide)) (by decide) (fun _ _ h => h))
  clear q1k
  have q1z := hide (Rows.keep q1l.out (Kp.setLoc (T := allT) (i := 5) (v := .slice p5 S.sources.length r5) q1h.out (by decide)) (by decide) (fun _ _ h => h))
  clear q1l
  have q1A := hide (Rows.keep q1m.out (Kp.setLoc (T := allT) (i := 5) (v := .slice p5 S.sources.length r5) q1h.out (by decide)) (by decide) (fun _ _ h => h.keep (inner_all (Kp.setLoc (T := allT) (i := 5) (v := .slice p5 S.sources.length r5) q1h.out (by decide)) (by decide))))
  clear q1m
  have q1B := hide (Rows.keep q1n.out (Kp.setLoc (T := allT) (i := 5) (v := .slice p5 S.sources.length r5) q1h.out (by decide)) (by decide) (fun _ _ h => h.keep (inner_all (Kp.setLoc (T := allT) (i := 5) (v := .slice p5 S.sources.length r5) q1h.out (by decide)) (by decide))))
  clear q1n
  have q1C := hide (Rows.keep V5.out (Kp.setLoc (T := allT) (i := 5) (v := .slice p5 S.sources.length r5) q1h.out (by decide)) (by decide) (fun _ _ h => h))
  clear V5
  have q1D := hide (loc_set (i := 5) (v := .slice p5 S.sources.length r5) q1h.out)
  have q1E := hide (loc_other (p := ⟨w.heap.size, 5, none⟩) (v := .slice p5 S.sources.length r5) q1i.out q1.out)
  clear q1h q1i
  have BW15 := hide (below_set BW13.out G0.out 5 (.slice p5 S.sources.length r5))
  clear BW13
  have SZ : Hid (w1.heap.size ≤ (((w13).setCell ⟨w.heap.size, 5, none⟩ (.slice p5 S.sources.length r5))).heap.size) := hide (Nat.le_trans SZ.out (by simp))
  have C16 := hide (copy_CopyRuleTexts _ _ _ q1x.out.rules hs.rules hs.rules')
  go_wp2_with fail
  refine C16.out.mono ?_
  rintro _ w16 ⟨v16, rfl, hv, hb⟩
  clear q1o q1p q1q q1r q1s q1t q1u q1v q1w y14
  have q1F := hide ((hb.block _ (loc_lt q1D.out)).trans q1D.out)
  clear q1D
  have q1G := hide ((hb.block _ (loc_lt q1E.out)).trans q1E.out)
  clear q1E
  have q1H := hide (q1x.out.keep (Kp.of_below (T := allT) hb))
  clear q1x
  have q1I := hide (Rows.keep q1y.out (Kp.of_below (T := allT) hb) (by decide) (fun _ _ h => h))
  clear q1y
  have q1J := hide (Rows.keep q1z.out (Kp.of_below (T := allT) hb) (by decide) (fun _ _ h => h))
  clear q1z
  have q1K := hide (Rows.keep q1A.out (Kp.of_below (T := allT) hb) (by decide) (fun _ _ h => h.keep (inner_all (Kp.of_below (T := allT) hb) (by decide))))
  clear q1A
  have q1L := hide (Rows.keep q1B.out (Kp.of_below (T := allT) hb) (by decide) (fun _ _ h => h.keep (inner_all (Kp.of_below (T := allT) hb) (by decide))))
  clear q1B
  have q1M := hide (Rows.keep q1C.out (Kp.of_below (T := allT) hb) (by decide) (fun _ _ h => h))
  clear q1C
  obtain ⟨p6, r6, rfl⟩ := rows_form hv
  have HZ : ∀ g, New _ g → Beh (w.heap.size + 1) (.slice p1 S.kinds.length r1) g := fun g (hg : _ ≤ g) => ⟨by have h1 := SZ.out; have h2 := SW.out; have h3 := Nat.le_trans h1 hg; omega, fun h => by have h1 := KB.out g h.symm; have h2 := Nat.le_trans SZ.out hg; omega⟩
  have V6 := hide (Rows.mono hv HZ fun _ _ h => h.mono HZ)
  clear HZ
  have SZ : Hid (w1.heap.size ≤ w16.heap.size) := hide (Nat.le_trans SZ.out hb.size)
  have BW16 := hide (BW15.out.trans (hb.mono BW15.out.size))
  clear hb hv C16 BW15
  obtain ⟨q1N, q1O, q1P, q1Q, q1R, q1S, q1T, q1U, q1V, y17⟩ := row9 q1F.out
  have q1W := hide (q1H.out.keep (Kp.setLoc (T := allT) (i := 6) (v := .slice p6 S.rules.length r6) q1F.out (by decide)))
  clear q1H
  have q1X := hide (Rows.keep q1I.out (Kp.setLoc (T := allT) (i := 6) (v := .slice p6 S.rules.length r6) q1F.out (by decide)) (by decide) (fun _ _ h => h))
  clear q1I
  have q1Y := hide (Rows.keep q1J.out (Kp.setLoc (T := allT) (i := 6) (v := .slice p6 S.rules.length r6) q1F.out (by decide)) (by decide) (fun _ _ h => h))
  clear q1J
  have q1Z := hide (Rows.keep q1K.out (Kp.setLoc (T := allT) (i := 6) (v := .slice p6 S.rules.length r6) q1F.out (by decide)) (by decide) (fun _ _ h => h.keep (inner_all (Kp.setLoc (T := allT) (i := 6) (v := .slice p6 S.rules.length r6) q1F.out (by decide)) (by decide))))
  clear q1K
  have q20 := hide (Rows.keep q1L.out (Kp.setLoc (T := allT) (i := 6) (v := .slice p6 S.rules.length r6) q1F.out (by decide)) (by decide) (fun _ _ h => h.keep (inner_all (Kp.setLoc (T := allT) (i := 6) (v := .slice p6 S.rules.length r6) q1F.out (by decide)) (by decide))))
  clear q1L
  have q21 := hide (Rows.keep q1M.out (Kp.setLoc (T := allT) (i := 6) (v := .slice p6 S.rules.length r6) q1F.out (by decide)) (by decide) (fun _ _ h => h))
  clear q1M
  have q22 := hide (Rows.keep V6.out (Kp.setLoc (T := allT) (i := 6) (v := .slice p6 S.rules.length r6) q1F.out (by decide)) (by decide) (fun _ _ h => h.keep (inner_all (Kp.setLoc (T := allT) (i := 6) (v := .slice p6 S.rules.length r6) q1F.out (by decide)) (by decide))))
  clear V6
  have q23 := hide (loc_set (i := 6) (v := .slice p6 S.rules.length r6) q1F.out)
  have q24 := hide (loc_other (p := ⟨w.heap.size, 6, none⟩) (v := .slice p6 S.rules.length r6) q1G.out q1.out)
  clear q1F q1G
  have BW18 := hide (below_set BW16.out G0.out 6 (.slice p6 S.rules.length r6))
  clear BW16
  have SZ : Hid (w1.heap.size ≤ (((w16).setCell ⟨w.heap.size, 6, none⟩ (.slice p6 S.rules.length r6))).heap.size) := hide (Nat.le_trans SZ.out (by simp))
  have C19 := hide (copy_CopyExcepts _ _ _ q1W.out.excepts hs.excepts)
  go_wp2_with fail
  refine C19.out.mono ?_
  rintro _ w19 ⟨v19, rfl, hv, hb⟩
  clear q1N q1O q1P q1Q q1R q1S q1T q1U q1V y17
  have q25 := hide ((hb.block _ (loc_lt q23.out)).trans q23.out)
  clear q23
  have q26 := hide ((hb.block _ (loc_lt q24.out)).trans q24.out)
  clear q24
  have q27 := hide (q1W.out.keep (Kp.of_below (T := allT) hb))
  clear q1W
  have q28 := hide (Rows.keep q1X.out (Kp.of_below (T := allT) hb) (by decide) (fun _ _ h => h))
  clear q1X
  have q29 := hide (Rows.keep q1Y.out (Kp.of_below (T := allT) hb) (by decide) (fun _ _ h => h))
  clear q1Y
  have q2a := hide (Rows.keep q1Z.out (Kp.of_below (T := allT) hb) (by decide) (fun _ _ h => h.keep (inner_all (Kp.of_below (T := allT) hb) (by decide))))
  clear q1Z
  have q2b := hide (Rows.keep q20.out (Kp.of_below (T := allT) hb) (by decide) (fun _ _ h => h.keep (inner_all (Kp.of_below (T := allT) hb) (by decide))))
  clear q20
  have q2c := hide (Rows.keep q21.out (Kp.of_below (T := allT) hb) (by decide) (fun _ _ h => h))
  clear q21
  have q2d := hide (Rows.keep q22.out (Kp.of_below (T := allT) hb) (by decide) (fun _ _ h => h.keep (inner_all (Kp.of_below (T := allT) hb) (by decide))))
  clear q22
  obtain ⟨p7, r7, rfl⟩ := rows_form hv
  have HZ : ∀ g, New _ g → Beh (w.heap.size + 1) (.slice p1 S.kinds.length r1) g := fun g (hg : _ ≤ g) => ⟨by have h1 := SZ.out; have h2 := SW.out; have h3 := Nat.le_trans h1 hg; omega, fun h => by have h1 := KB.out g h.symm; have h2 := Nat.le_trans SZ.out hg; omega⟩
  have V7 := hide (Rows.mono hv HZ fun _ _ h => h)
  clear HZ
  have SZ : Hid (w1.heap.size ≤ w19.heap.size) := hide (Nat.le_trans SZ.out hb.size)
  have BW19 := hide (BW18.out.trans (hb.mono BW18.out.size))
  clear hb hv C19 BW18
  obtain ⟨q2e, q2f, q2g, q2h, q2i, q2j, q2k, q2l, q2m, y20⟩ := row9 q25.out
  have q2n := hide (q27.out.keep (Kp.setLoc (T := allT) (i := 7) (v := .slice p7 S.excepts.length r7) q25.out (by decide)))
  clear q27
  have q2o := hide (Rows.keep q28.out (Kp.setLoc (T := allT) (i := 7) (v := .slice p7 S.excepts.length r7) q25.out (by decide)) (by decide) (fun _ _ h => h))
  clear q28
  have q2p := hide (Rows.keep q29.out (Kp.setLoc (T := allT) (i := 7) (v := .slice p7 S.excepts.length r7) q25.out (by decide)) (by decide) (fun _ _ h => h))
  clear q29
  have q2q := hide (Rows.keep q2a.out (Kp.setLoc (T := allT) (i := 7) (v := .slice p7 S.excepts.length r7) q25.out (by decide)) (by decide) (fun _ _ h => h.keep (inner_all (Kp.setLoc (T := allT) (i := 7) (v := .slice p7 S.excepts.length r7) q25.out (by decide)) (by decide))))
  clear q2a
  have q2r := hide (Rows.keep q2b.out (Kp.setLoc (T := allT) (i := 7) (v := .slice p7 S.excepts.length r7) q25.out (by decide)) (by decide) (fun _ _ h => h.keep (inner_all (Kp.setLoc (T := allT) (i := 7) (v := .slice p7 S.excepts.length r7) q25.out (by decide)) (by decide))))
  clear q2b
  have q2s := hide (Rows.keep q2c.out (Kp.setLoc (T := allT) (i := 7) (v := .slice p7 S.excepts.length r7) q25.out (by decide)) (by decide) (fun _ _ h => h))
  clear q2c
  have q2t := hide (Rows.keep q2d.out (Kp.setLoc (T := allT) (i := 7) (v := .slice p7 S.excepts.length r7) q25.out (by decide)) (by decide) (fun _ _ h => h.keep (inner_all (Kp.setLoc (T := allT) (i := 7) (v := .slice p7 S.excepts.length r7) q25.out (by decide)) (by decide))))
  clear q2d
  have q2u := hide (Rows.keep V7.out (Kp.setLoc (T := allT) (i := 7) (v := .slice p7 S.excepts.length r7) q25.out (by decide)) (by decide) (fun _ _ h => h))
  clear V7
  have q2v := hide (loc_set (i := 7) (v := .slice p7 S.excepts.length r7) q25.out)
  have q2w := hide (loc_other (p := ⟨w.heap.size, 7, none⟩) (v := .slice p7 S.excepts.length r7) q26.out q1.out)
  clear q25 q26
  have BW21 := hide (below_set BW19.out G0.out 7 (.slice p7 S.excepts.length r7))
  clear BW19
  have SZ : Hid (w1.heap.size ≤ (((w19).setCell ⟨w.heap.size, 7, none⟩ (.slice p7 S.excepts.length r7))).heap.size) := hide (Nat.le_trans SZ.out (by simp))
  have C22 := hide (copy_CopyTotals _ _ _ q2n.out.totals hs.totals hs.totals')
  go_wp2_with fail
  refine C22.out.mono ?_
  rintro _ w22 ⟨v22, rfl, hv, hb⟩
  clear q2e q2f q2g q2h q2i q2j q2k q2l q2m y20
  have q2x := hide ((hb.block _ (loc_lt q2v.out)).trans q2v.out)
  clear q2v
  have q2y := hide ((hb.block _ (loc_lt q2w.out)).trans q2w.out)
  clear q2w
  have q2z := hide (q2n.out.keep (Kp.of_below (T := allT) hb))
  clear q2n
  have q2A := hide (Rows.keep q2o.out (Kp.of_below (T := allT) hb) (by decide) (fun _ _ h => h))
  clear q2o
  have q2B := hide (Rows.keep q2p.out (Kp.of_below (T := allT) hb) (by decide) (fun _ _ h => h))
  clear q2p
  have q2C := hide (Rows.keep q2q.out (Kp.of_below (T := allT) hb) (by decide) (fun _ _ h => h.keep (inner_all (Kp.of_below (T := allT) hb) (by decide))))
  clear q2q
  have q2D := hide (Rows.keep q2r.out (Kp.of_below (T := allT) hb) (by decide) (fun _ _ h => h.keep (inner_all (Kp.of_below (T := allT) hb) (by decide))))
  clear q2r
  have q2E := hide (Rows.keep q2s.out (Kp.of_below (T := allT) hb) (by decide) (fun _ _ h => h))
  clear q2s
  have q2F := hide (Rows.keep q2t.out (Kp.of_below (T := allT) hb) (by decide) (fun _ _ h => h.keep (inner_all (Kp.of_below (T := allT) hb) (by decide))))
  clear q2t
  have q2G := hide (Rows.keep q2u.out (Kp.of_below (T := allT) hb) (by decide) (fun _ _ h => h))
  clear q2u
  obtain ⟨p8, r8, rfl⟩ := rows_form hv
  have HZ : ∀ g, New _ g → Beh (w.heap.size + 1) (.slice p1 S.kinds.length r1) g := fun g (hg : _ ≤ g) => ⟨by have h1 := SZ.out; have h2 := SW.out; have h3 := Nat.le_trans h1 hg; omega, fun h => by have h1 := KB.out g h.symm; have h2 := Nat.le_trans SZ.out hg; omega⟩
  have V8 := hide (Rows.mono hv HZ fun _ _ h => h.mono HZ)
  clear HZ
  have SZ : Hid (w1.heap.size ≤ w22.heap.size) := hide (Nat.le_trans SZ.out hb.size)
  have BW22 := hide (BW21.out.trans (hb.mono BW21.out.size))
  clear hb hv C22 BW21
  obtain ⟨q2H, q2I, q2J, q2K, q2L, q2M, q2N, q2O, q2P, y23⟩ := row9 q2x.out
  obtain ⟨q2Q, q2R, q2S, q2T, q2U, q2V, q2W, q2X, q2Y, y24⟩ := row9 q2y.out
  have x25 := q0.out
  have x26 := q1.out
  have q2Z := hide (q2z.out.keep (Kp.setLoc (T := allT) (i := 8) (v := .slice p8 S.totals.length r8) q2x.out (by decide)))
  clear q2z
  have q30 := hide (Rows.keep q2A.out (Kp.setLoc (T := allT) (i := 8) (v := .slice p8 S.totals.length r8) q2x.out (by decide)) (by decide) (fun _ _ h => h))
  clear q2A
  have q31 := hide (Rows.keep q2B.out (Kp.setLoc (T := allT) (i := 8) (v := .slice p8 S.totals.length r8) q2x.out (by decide)) (by decide) (fun _ _ h => h))
  clear q2B
  have q32 := hide (Rows.keep q2C.out (Kp.setLoc (T := allT) (i := 8) (v := .slice p8 S.totals.length r8) q2x.out (by decide)) (by decide) (fun _ _ h => h.keep (inner_all (Kp.setLoc (T := allT) (i := 8) (v := .slice p8 S.totals.length r8) q2x.out (by decide)) (by decide))))
  clear q2C
  have q33 := hide (Rows.keep q2D.out (Kp.setLoc (T := allT) (i := 8) (v := .slice p8 S.totals.length r8) q2x.out (by decide)) (by decide) (fun _ _ h => h.keep (inner_all (Kp.setLoc (T := allT) (i := 8) (v := .slice p8 S.totals.length r8) q2x.out (by decide)) (by decide))))
  clear q2D
  have q34 := hide (Rows.keep q2E.out (Kp.setLoc (T := allT) (i := 8) (v := .slice p8 S.totals.length r8) q2x.out (by decide)) (by decide) (fun _ _ h => h))
  clear q2E
  have q35 := hide (Rows.keep q2F.out (Kp.setLoc (T := allT) (i := 8) (v := .slice p8 S.totals.length r8) q2x.out (by decide)) (by decide) (fun _ _ h => h.keep (inner_all (Kp.setLoc (T := allT) (i := 8) (v := .slice p8 S.totals.length r8) q2x.out (by decide)) (by decide))))
  clear q2F
  have q36 := hide (Rows.keep q2G.out (Kp.setLoc (T := allT) (i := 8) (v := .slice p8 S.totals.length r8) q2x.out (by decide)) (by decide) (fun _ _ h => h))
  clear q2G
  have q37 := hide (Rows.keep V8.out (Kp.setLoc (T := allT) (i := 8) (v := .slice p8 S.totals.length r8) q2x.out (by decide)) (by decide) (fun _ _ h => h.keep (inner_all (Kp.setLoc (T := allT) (i := 8) (v := .slice p8 S.totals.length r8) q2x.out (by decide)) (by decide))))
  clear V8
  have q38 := hide (loc_set (i := 8) (v := .slice p8 S.totals.length r8) q2x.out)
  have q39 := hide (loc_other (p := ⟨w.heap.size, 8, none⟩) (v := .slice p8 S.totals.length r8) q2y.out q1.out)
  clear q2x q2y
  have BW27 := hide (below_set BW22.out G0.out 8 (.slice p8 S.totals.length r8))
  clear BW22
  have SZ : Hid (w1.heap.size ≤ (((w22).setCell ⟨w.heap.size, 8, none⟩ (.slice p8 S.totals.length r8))).heap.size) := hide (Nat.le_trans SZ.out (by simp))
  have HR := hide (show SRep (w.heap.size + 1) _ ⟨.string ⟨S.title.toArray⟩, .slice p1 S.kinds.length r1, .slice p2 S.members.length r2, .slice p3 S.preds.length r3, .slice p4 S.classes.length r4, .slice p5 S.sources.length r5, .slice p6 S.rules.length r6, .slice p7 S.excepts.length r7, .slice p8 S.totals.length r8⟩ S from ⟨rfl, q30.out, q31.out, q32.out, q33.out, q34.out, q35.out, q36.out, q37.out⟩)
  clear q2Z q30 q31 q32 q33 q34 q35 q36 q37
  go_wp2_with fail
  have hz := (And.intro q2H (And.intro q2I (And.intro q2J (And.intro q2K (And.intro q2L (And.intro q2M (And.intro q2N (And.intro q2O (And.intro q2P (And.intro y23 (And.intro q2Q (And.intro q2R (And.intro q2S (And.intro q2T (And.intro q2U (And.intro q2V (And.intro q2W (And.intro q2X (And.intro q2Y (And.intro y24 (And.intro x25 x26)))))))))))))))))))))
  simp [bodyPost, results, Tryz.results17, go_sem, hz]
  exact ⟨⟨.string ⟨S.title.toArray⟩, .slice p1 S.kinds.length r1, .slice p2 S.members.length r2, .slice p3 S.preds.length r3, .slice p4 S.classes.length r4, .slice p5 S.sources.length r5, .slice p6 S.rules.length r6, .slice p7 S.excepts.length r7, .slice p8 S.totals.length r8⟩, ⟨rfl, rfl, rfl, rfl, rfl, rfl, rfl, rfl, rfl⟩, HR.out.keep (nine_kp fun g (hg : w.heap.size + 1 < g) => by omega), nine_below BW27.out (Nat.le_succ _)⟩
end Go.Proofs.YthnjmfkiohgkkaaGreatDoor.Sy
