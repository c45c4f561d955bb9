/- Copies of guards, premises, rules. By program (tools/gen5/c19.py). -/
import Derived.Test.YthnjmfkiohgkkaaGreatDoorCopy6
namespace Go.Proofs.YthnjmfkiohgkkaaGreatDoor.Sy
open Go.RowKit

set_option maxRecDepth 100000 in
set_option maxHeartbeats 3200000 in
theorem copy_GuardText {Z : Nat → Prop} (a : GuardM) (x0 : Value) (x1 : Value) (w : World) (hx0 : Terms Z w a.left x0) (hx1 : Terms Z w a.right x1) (hl : a.left.length ≤ 1000000000 ∧ (∀ b, b ∈ a.left → b.args.length ≤ 1000000000) ∧ a.right.length ≤ 1000000000 ∧ ∀ b, b ∈ a.right → b.args.length ≤ 1000000000) :
    Calls Tryz.prog 165 #[.agg #[x0, .int .i64 a.op, x1]] w fun e w' => ∃ v, e = .returned v ∧ vGuard (New w) w' a v ∧ Below w.heap.size w w' := by
  obtain ⟨xa0, xc0, rfl⟩ := rows_form hx0
  have HX0 := hide hx0
  clear hx0
  obtain ⟨xa1, xc1, rfl⟩ := rows_form hx1
  have HX1 := hide hx1
  clear hx1
  go_enter Tryz.func165, Tryz.ntmps165
  have B0 : Below w.heap.size w ((w.alloc (.cells #[.slice xa0 a.left.length xc0, .int .i64 a.op, .slice xa1 a.right.length xc1] 105)).alloc (.cells #[.slice none 0 0, .int .i64 0, .slice none 0 0] 105)) := below_two w _ _
  have G0 : Hid (w.heap.size ≤ w.heap.size) := hide (Nat.le_refl _)
  have G1 : Hid (w.heap.size ≤ w.heap.size + 1) := hide (Nat.le_succ _)
  have q0 : Hid (w.heap.size ≠ w.heap.size + 1) := hide (by omega)
  have q1 : Hid (w.heap.size + 1 ≠ w.heap.size) := hide (by omega)
  have LB0 := hide (two_new w (.cells #[.slice xa0 a.left.length xc0, .int .i64 a.op, .slice xa1 a.right.length xc1] 105) (.cells #[.slice none 0 0, .int .i64 0, .slice none 0 0] 105)).1
  have LB1 := hide (two_new w (.cells #[.slice xa0 a.left.length xc0, .int .i64 a.op, .slice xa1 a.right.length xc1] 105) (.cells #[.slice none 0 0, .int .i64 0, .slice none 0 0] 105)).2
  have q2 := hide (Terms.keep HX0.out (Kp.of_below (T := [9, 109]) B0) (by decide) (by decide))
  clear HX0
  have q3 := hide (Terms.keep HX1.out (Kp.of_below (T := [9, 109]) B0) (by decide) (by decide))
  clear HX1
  have BW := hide B0
  clear B0
  have C49 := hide (copy_CopyTermTexts _ _ _ q2.out hl.1 hl.2.1)
  go_wp2_with fail
  refine C49.out.mono ?_
  rintro _ w49 ⟨v49, rfl, hv, hb⟩
  have q4 := hide ((hb.block _ (loc_lt LB0.out)).trans LB0.out)
  clear LB0
  have q5 := hide ((hb.block _ (loc_lt LB1.out)).trans LB1.out)
  clear LB1
  have q6 := hide (Terms.keep q2.out (Kp.of_below (T := [9, 109]) hb) (by decide) (by decide))
  clear q2
  have q7 := hide (Terms.keep q3.out (Kp.of_below (T := [9, 109]) hb) (by decide) (by decide))
  clear q3
  have q8 := hv
  clear hv
  obtain ⟨q9, qa, rfl⟩ := rows_form q8
  have qb := hide (Terms.mono q8 fun g hg => Nat.le_trans BW.out.size hg)
  clear q8
  have BW49 := hide (BW.out.trans (hb.mono BW.out.size))
  clear hb C49 BW
  obtain ⟨qc, qd, qe, y50⟩ := row3 q4.out
  obtain ⟨qf, qg, qh, y51⟩ := row3 q5.out
  have x52 := q0.out
  have x53 := q1.out
  have qi := hide (Terms.keep q6.out (Kp.setLoc (T := [9, 109]) (i := 0) (v := .slice q9 a.left.length qa) q4.out (by decide)) (by decide) (by decide))
  clear q6
  have qj := hide (Terms.keep q7.out (Kp.setLoc (T := [9, 109]) (i := 0) (v := .slice q9 a.left.length qa) q4.out (by decide)) (by decide) (by decide))
  clear q7
  have qk := hide (Terms.keep qb.out (Kp.setLoc (T := [9, 109]) (i := 0) (v := .slice q9 a.left.length qa) q4.out (by decide)) (by decide) (by decide))
  clear qb
  have ql := hide (loc_set (i := 0) (v := .slice q9 a.left.length qa) q4.out)
  have qm := hide (loc_other (p := ⟨w.heap.size, 0, none⟩) (v := .slice q9 a.left.length qa) q5.out q1.out)
  clear q4 q5
  have BW54 := hide (below_set BW49.out G0.out 0 (.slice q9 a.left.length qa))
  clear BW49
  have C55 := hide (copy_CopyTermTexts _ _ _ qj.out hl.2.2.1 hl.2.2.2)
  go_wp2_with fail
  refine C55.out.mono ?_
  rintro _ w55 ⟨v55, rfl, hv, hb⟩
  clear qc qd qe y50 qf qg qh y51 x52 x53
  have qn := hide ((hb.block _ (loc_lt ql.out)).trans ql.out)
  clear ql
  have qo := hide ((hb.block _ (loc_lt qm.out)).trans qm.out)
  clear qm
  have qp := hide (Terms.keep qi.out (Kp.of_below (T := [9, 109]) hb) (by decide) (by decide))
  clear qi
  have qq := hide (Terms.keep qj.out (Kp.of_below (T := [9, 109]) hb) (by decide) (by decide))
  clear qj
  have qr := hide (Terms.keep qk.out (Kp.of_below (T := [9, 109]) hb) (by decide) (by decide))
  clear qk
  have qs := hv
  clear hv
  obtain ⟨qt, qu, rfl⟩ := rows_form qs
  have qv := hide (Terms.mono qs fun g hg => Nat.le_trans BW54.out.size hg)
  clear qs
  have BW55 := hide (BW54.out.trans (hb.mono BW54.out.size))
  clear hb C55 BW54
  obtain ⟨qw, qx, qy, y56⟩ := row3 qn.out
  obtain ⟨qz, qA, qB, y57⟩ := row3 qo.out
  have x58 := q0.out
  have x59 := q1.out
  have qC := hide (Terms.keep qp.out (Kp.setLoc (T := [9, 109]) (i := 2) (v := .slice qt a.right.length qu) qn.out (by decide)) (by decide) (by decide))
  clear qp
  have qD := hide (Terms.keep qq.out (Kp.setLoc (T := [9, 109]) (i := 2) (v := .slice qt a.right.length qu) qn.out (by decide)) (by decide) (by decide))
  clear qq
  have qE := hide (Terms.keep qr.out (Kp.setLoc (T := [9, 109]) (i := 2) (v := .slice qt a.right.length qu) qn.out (by decide)) (by decide) (by decide))
  clear qr
  have qF := hide (Terms.keep qv.out (Kp.setLoc (T := [9, 109]) (i := 2) (v := .slice qt a.right.length qu) qn.out (by decide)) (by decide) (by decide))
  clear qv
  have qG := hide (loc_set (i := 2) (v := .slice qt a.right.length qu) qn.out)
  have qH := hide (loc_other (p := ⟨w.heap.size, 2, none⟩) (v := .slice qt a.right.length qu) qo.out q1.out)
  clear qn qo
  have BW60 := hide (below_set BW55.out G0.out 2 (.slice qt a.right.length qu))
  clear BW55
  go_wp2_with fail
  have hz := (And.intro qw (And.intro qx (And.intro qy (And.intro y56 (And.intro qz (And.intro qA (And.intro qB (And.intro y57 (And.intro x58 x59)))))))))
  simp [bodyPost, results, Tryz.results165, go_sem, hz]
  have qI := hide (Terms.keep qC.out (Kp.setLoc (T := [9, 109]) (i := 0) (v := .slice q9 a.left.length qa) qH.out (by decide)) (by decide) (by decide))
  clear qC
  have qJ := hide (Terms.keep qD.out (Kp.setLoc (T := [9, 109]) (i := 0) (v := .slice q9 a.left.length qa) qH.out (by decide)) (by decide) (by decide))
  clear qD
  have qK := hide (Terms.keep qE.out (Kp.setLoc (T := [9, 109]) (i := 0) (v := .slice q9 a.left.length qa) qH.out (by decide)) (by decide) (by decide))
  clear qE
  have qL := hide (Terms.keep qF.out (Kp.setLoc (T := [9, 109]) (i := 0) (v := .slice q9 a.left.length qa) qH.out (by decide)) (by decide) (by decide))
  clear qF
  have qM := hide (loc_other (p := ⟨w.heap.size + 1, 0, none⟩) (v := .slice q9 a.left.length qa) qG.out q0.out)
  have qN := hide (loc_set (i := 0) (v := .slice q9 a.left.length qa) qH.out)
  clear qG qH
  have BW61 := hide (below_set BW60.out G1.out 0 (.slice q9 a.left.length qa))
  clear BW60
  have qO := hide (Terms.keep qI.out (Kp.setLoc (T := [9, 109]) (i := 1) (v := .int .i64 a.op) qN.out (by decide)) (by decide) (by decide))
  clear qI
  have qP := hide (Terms.keep qJ.out (Kp.setLoc (T := [9, 109]) (i := 1) (v := .int .i64 a.op) qN.out (by decide)) (by decide) (by decide))
  clear qJ
  have qQ := hide (Terms.keep qK.out (Kp.setLoc (T := [9, 109]) (i := 1) (v := .int .i64 a.op) qN.out (by decide)) (by decide) (by decide))
  clear qK
  have qR := hide (Terms.keep qL.out (Kp.setLoc (T := [9, 109]) (i := 1) (v := .int .i64 a.op) qN.out (by decide)) (by decide) (by decide))
  clear qL
  have qS := hide (loc_other (p := ⟨w.heap.size + 1, 1, none⟩) (v := .int .i64 a.op) qM.out q0.out)
  have qT := hide (loc_set (i := 1) (v := .int .i64 a.op) qN.out)
  clear qM qN
  have BW62 := hide (below_set BW61.out G1.out 1 (.int .i64 a.op))
  clear BW61
  have qU := hide (Terms.keep qO.out (Kp.setLoc (T := [9, 109]) (i := 2) (v := .slice qt a.right.length qu) qT.out (by decide)) (by decide) (by decide))
  clear qO
  have qV := hide (Terms.keep qP.out (Kp.setLoc (T := [9, 109]) (i := 2) (v := .slice qt a.right.length qu) qT.out (by decide)) (by decide) (by decide))
  clear qP
  have qW := hide (Terms.keep qQ.out (Kp.setLoc (T := [9, 109]) (i := 2) (v := .slice qt a.right.length qu) qT.out (by decide)) (by decide) (by decide))
  clear qQ
  have qX := hide (Terms.keep qR.out (Kp.setLoc (T := [9, 109]) (i := 2) (v := .slice qt a.right.length qu) qT.out (by decide)) (by decide) (by decide))
  clear qR
  have qY := hide (loc_other (p := ⟨w.heap.size + 1, 2, none⟩) (v := .slice qt a.right.length qu) qS.out q0.out)
  have qZ := hide (loc_set (i := 2) (v := .slice qt a.right.length qu) qT.out)
  clear qS qT
  have BW63 := hide (below_set BW62.out G1.out 2 (.slice qt a.right.length qu))
  clear BW62
  exact ⟨⟨_, _, rfl, qW.out, qX.out⟩, BW63.out⟩

set_option maxRecDepth 100000 in
set_option maxHeartbeats 3200000 in
theorem copy_Premise {Z : Nat → Prop} (a : PremM) (x0 : Value) (x1 : Value) (x2 : Value) (w : World) (hx0 : Strs Z w a.lit.args x0) (hx1 : Terms Z w a.guard.left x1) (hx2 : Terms Z w a.guard.right x2) (hl : SmallPrem a) :
    Calls Tryz.prog 144 #[.agg #[.int .i64 a.kind, .bool a.lit.neg, .string ⟨a.lit.pred.toArray⟩, x0, .bool a.lit.hasValue, .int .i64 a.lit.value, x1, .int .i64 a.guard.op, x2, .string ⟨a.a.toArray⟩, .string ⟨a.b.toArray⟩]] w fun e w' => ∃ v, e = .returned v ∧ vPrem (New w) w' a v ∧ Below w.heap.size w w' := by
  obtain ⟨xa0, xc0, rfl⟩ := rows_form hx0
  have HX0 := hide hx0
  clear hx0
  obtain ⟨xa1, xc1, rfl⟩ := rows_form hx1
  have HX1 := hide hx1
  clear hx1
  obtain ⟨xa2, xc2, rfl⟩ := rows_form hx2
  have HX2 := hide hx2
  clear hx2
  go_enter Tryz.func144, Tryz.ntmps144
  have B0 : Below w.heap.size w ((w.alloc (.cells #[.int .i64 a.kind, .bool a.lit.neg, .string ⟨a.lit.pred.toArray⟩, .slice xa0 a.lit.args.length xc0, .bool a.lit.hasValue, .int .i64 a.lit.value, .slice xa1 a.guard.left.length xc1, .int .i64 a.guard.op, .slice xa2 a.guard.right.length xc2, .string ⟨a.a.toArray⟩, .string ⟨a.b.toArray⟩] 107)).alloc (.cells #[.int .i64 0, .bool false, .string ⟨#[]⟩, .slice none 0 0, .bool false, .int .i64 0, .slice none 0 0, .int .i64 0, .slice none 0 0, .string ⟨#[]⟩, .string ⟨#[]⟩] 107)) := below_two w _ _
  have G0 : Hid (w.heap.size ≤ w.heap.size) := hide (Nat.le_refl _)
  have G1 : Hid (w.heap.size ≤ w.heap.size + 1) := hide (Nat.le_succ _)
  have q0 : Hid (w.heap.size ≠ w.heap.size + 1) := hide (by omega)
  have q1 : Hid (w.heap.size + 1 ≠ w.heap.size) := hide (by omega)
  have LB0 := hide (two_new w (.cells #[.int .i64 a.kind, .bool a.lit.neg, .string ⟨a.lit.pred.toArray⟩, .slice xa0 a.lit.args.length xc0, .bool a.lit.hasValue, .int .i64 a.lit.value, .slice xa1 a.guard.left.length xc1, .int .i64 a.guard.op, .slice xa2 a.guard.right.length xc2, .string ⟨a.a.toArray⟩, .string ⟨a.b.toArray⟩] 107) (.cells #[.int .i64 0, .bool false, .string ⟨#[]⟩, .slice none 0 0, .bool false, .int .i64 0, .slice none 0 0, .int .i64 0, .slice none 0 0, .string ⟨#[]⟩, .string ⟨#[]⟩] 107)).1
  have LB1 := hide (two_new w (.cells #[.int .i64 a.kind, .bool a.lit.neg, .string ⟨a.lit.pred.toArray⟩, .slice xa0 a.lit.args.length xc0, .bool a.lit.hasValue, .int .i64 a.lit.value, .slice xa1 a.guard.left.length xc1, .int .i64 a.guard.op, .slice xa2 a.guard.right.length xc2, .string ⟨a.a.toArray⟩, .string ⟨a.b.toArray⟩] 107) (.cells #[.int .i64 0, .bool false, .string ⟨#[]⟩, .slice none 0 0, .bool false, .int .i64 0, .slice none 0 0, .int .i64 0, .slice none 0 0, .string ⟨#[]⟩, .string ⟨#[]⟩] 107)).2
  have q2 := hide (Strs.keep HX0.out (Kp.of_below (T := [9]) B0) (by decide))
  clear HX0
  have q3 := hide (Terms.keep HX1.out (Kp.of_below (T := [9, 109]) B0) (by decide) (by decide))
  clear HX1
  have q4 := hide (Terms.keep HX2.out (Kp.of_below (T := [9, 109]) B0) (by decide) (by decide))
  clear HX2
  have BW := hide B0
  clear B0
  have C64 := hide (copy_LitText _ _ _ q2.out hl.1)
  go_wp2_with fail
  refine C64.out.mono ?_
  rintro _ w64 ⟨v64, rfl, hv, hb⟩
  have q5 := hide ((hb.block _ (loc_lt LB0.out)).trans LB0.out)
  clear LB0
  have q6 := hide ((hb.block _ (loc_lt LB1.out)).trans LB1.out)
  clear LB1
  have q7 := hide (Strs.keep q2.out (Kp.of_below (T := [9]) hb) (by decide))
  clear q2
  have q8 := hide (Terms.keep q3.out (Kp.of_below (T := [9, 109]) hb) (by decide) (by decide))
  clear q3
  have q9 := hide (Terms.keep q4.out (Kp.of_below (T := [9, 109]) hb) (by decide) (by decide))
  clear q4
  obtain ⟨qa, rfl, qb⟩ := hv
  obtain ⟨qc, qd, rfl⟩ := rows_form qb
  have qe := hide (Strs.mono qb fun g hg => Nat.le_trans BW.out.size hg)
  clear qb
  have BW64 := hide (BW.out.trans (hb.mono BW.out.size))
  clear hb C64 BW
  obtain ⟨qf, qg, qh, qi, qj, qk, ql, qm, qn, qo, qp, y65⟩ := row11 q5.out
  obtain ⟨qq, qr, qs, qt, qu, qv, qw, qx, qy, qz, qA, y66⟩ := row11 q6.out
  have x67 := q0.out
  have x68 := q1.out
  have qB := hide (Strs.keep q7.out (Kp.setLoc (T := [9]) (i := 1) (v := .bool a.lit.neg) q5.out (by decide)) (by decide))
  clear q7
  have qC := hide (Terms.keep q8.out (Kp.setLoc (T := [9, 109]) (i := 1) (v := .bool a.lit.neg) q5.out (by decide)) (by decide) (by decide))
  clear q8
  have qD := hide (Terms.keep q9.out (Kp.setLoc (T := [9, 109]) (i := 1) (v := .bool a.lit.neg) q5.out (by decide)) (by decide) (by decide))
  clear q9
  have qE := hide (Strs.keep qe.out (Kp.setLoc (T := [9]) (i := 1) (v := .bool a.lit.neg) q5.out (by decide)) (by decide))
  clear qe
  have qF := hide (loc_set (i := 1) (v := .bool a.lit.neg) q5.out)
  have qG := hide (loc_other (p := ⟨w.heap.size, 1, none⟩) (v := .bool a.lit.neg) q6.out q1.out)
  clear q5 q6
  have BW69 := hide (below_set BW64.out G0.out 1 (.bool a.lit.neg))
  clear BW64
  have qH := hide (Strs.keep qB.out (Kp.setLoc (T := [9]) (i := 2) (v := .string ⟨a.lit.pred.toArray⟩) qF.out (by decide)) (by decide))
  clear qB
  have qI := hide (Terms.keep qC.out (Kp.setLoc (T := [9, 109]) (i := 2) (v := .string ⟨a.lit.pred.toArray⟩) qF.out (by decide)) (by decide) (by decide))
  clear qC
  have qJ := hide (Terms.keep qD.out (Kp.setLoc (T := [9, 109]) (i := 2) (v := .string ⟨a.lit.pred.toArray⟩) qF.out (by decide)) (by decide) (by decide))
  clear qD
  have qK := hide (Strs.keep qE.out (Kp.setLoc (T := [9]) (i := 2) (v := .string ⟨a.lit.pred.toArray⟩) qF.out (by decide)) (by decide))
  clear qE
  have qL := hide (loc_set (i := 2) (v := .string ⟨a.lit.pred.toArray⟩) qF.out)
  have qM := hide (loc_other (p := ⟨w.heap.size, 2, none⟩) (v := .string ⟨a.lit.pred.toArray⟩) qG.out q1.out)
  clear qF qG
  have BW70 := hide (below_set BW69.out G0.out 2 (.string ⟨a.lit.pred.toArray⟩))
  clear BW69
  have qN := hide (Strs.keep qH.out (Kp.setLoc (T := [9]) (i := 3) (v := .slice qc a.lit.args.length qd) qL.out (by decide)) (by decide))
  clear qH
  have qO := hide (Terms.keep qI.out (Kp.setLoc (T := [9, 109]) (i := 3) (v := .slice qc a.lit.args.length qd) qL.out (by decide)) (by decide) (by decide))
  clear qI
  have qP := hide (Terms.keep qJ.out (Kp.setLoc (T := [9, 109]) (i := 3) (v := .slice qc a.lit.args.length qd) qL.out (by decide)) (by decide) (by decide))
  clear qJ
  have qQ := hide (Strs.keep qK.out (Kp.setLoc (T := [9]) (i := 3) (v := .slice qc a.lit.args.length qd) qL.out (by decide)) (by decide))
  clear qK
  have qR := hide (loc_set (i := 3) (v := .slice qc a.lit.args.length qd) qL.out)
  have qS := hide (loc_other (p := ⟨w.heap.size, 3, none⟩) (v := .slice qc a.lit.args.length qd) qM.out q1.out)
  clear qL qM
  have BW71 := hide (below_set BW70.out G0.out 3 (.slice qc a.lit.args.length qd))
  clear BW70
  have qT := hide (Strs.keep qN.out (Kp.setLoc (T := [9]) (i := 4) (v := .bool a.lit.hasValue) qR.out (by decide)) (by decide))
  clear qN
  have qU := hide (Terms.keep qO.out (Kp.setLoc (T := [9, 109]) (i := 4) (v := .bool a.lit.hasValue) qR.out (by decide)) (by decide) (by decide))
  clear qO
  have qV := hide (Terms.keep qP.out (Kp.setLoc (T := [9, 109]) (i := 4) (v := .bool a.lit.hasValue) qR.out (by decide)) (by decide) (by decide))
  clear qP
  have qW := hide (Strs.keep qQ.out (Kp.setLoc (T := [9]) (i := 4) (v := .bool a.lit.hasValue) qR.out (by decide)) (by decide))
  clear qQ
  have qX := hide (loc_set (i := 4) (v := .bool a.lit.hasValue) qR.out)
  have qY := hide (loc_other (p := ⟨w.heap.size, 4, none⟩) (v := .bool a.lit.hasValue) qS.out q1.out)
  clear qR qS
  have BW72 := hide (below_set BW71.out G0.out 4 (.bool a.lit.hasValue))
  clear BW71
  have qZ := hide (Strs.keep qT.out (Kp.setLoc (T := [9]) (i := 5) (v := .int .i64 a.lit.value) qX.out (by decide)) (by decide))
  clear qT
  have q10 := hide (Terms.keep qU.out (Kp.setLoc (T := [9, 109]) (i := 5) (v := .int .i64 a.lit.value) qX.out (by decide)) (by decide) (by decide))
  clear qU
  have q11 := hide (Terms.keep qV.out (Kp.setLoc (T := [9, 109]) (i := 5) (v := .int .i64 a.lit.value) qX.out (by decide)) (by decide) (by decide))
  clear qV
  have q12 := hide (Strs.keep qW.out (Kp.setLoc (T := [9]) (i := 5) (v := .int .i64 a.lit.value) qX.out (by decide)) (by decide))
  clear qW
  have q13 := hide (loc_set (i := 5) (v := .int .i64 a.lit.value) qX.out)
  have q14 := hide (loc_other (p := ⟨w.heap.size, 5, none⟩) (v := .int .i64 a.lit.value) qY.out q1.out)
  clear qX qY
  have BW73 := hide (below_set BW72.out G0.out 5 (.int .i64 a.lit.value))
  clear BW72
  have C74 := hide (copy_GuardText _ _ _ _ q10.out q11.out hl.2)
  go_wp2_with fail
  refine C74.out.mono ?_
  rintro _ w74 ⟨v74, rfl, hv, hb⟩
  clear qf qg qh qi qj qk ql qm qn qo qp y65 qq qr qs qt qu qv qw qx qy qz qA y66 x67 x68
  have q15 := hide ((hb.block _ (loc_lt q13.out)).trans q13.out)
  clear q13
  have q16 := hide ((hb.block _ (loc_lt q14.out)).trans q14.out)
  clear q14
  have q17 := hide (Strs.keep qZ.out (Kp.of_below (T := [9]) hb) (by decide))
  clear qZ
  have q18 := hide (Terms.keep q10.out (Kp.of_below (T := [9, 109]) hb) (by decide) (by decide))
  clear q10
  have q19 := hide (Terms.keep q11.out (Kp.of_below (T := [9, 109]) hb) (by decide) (by decide))
  clear q11
  have q1a := hide (Strs.keep q12.out (Kp.of_below (T := [9]) hb) (by decide))
  clear q12
  obtain ⟨q1b, q1c, rfl, q1d, q1e⟩ := hv
  obtain ⟨q1f, q1g, rfl⟩ := rows_form q1d
  have q1h := hide (Terms.mono q1d fun g hg => Nat.le_trans BW73.out.size hg)
  clear q1d
  obtain ⟨q1i, q1j, rfl⟩ := rows_form q1e
  have q1k := hide (Terms.mono q1e fun g hg => Nat.le_trans BW73.out.size hg)
  clear q1e
  have BW74 := hide (BW73.out.trans (hb.mono BW73.out.size))
  clear hb C74 BW73
  obtain ⟨q1l, q1m, q1n, q1o, q1p, q1q, q1r, q1s, q1t, q1u, q1v, y75⟩ := row11 q15.out
  obtain ⟨q1w, q1x, q1y, q1z, q1A, q1B, q1C, q1D, q1E, q1F, q1G, y76⟩ := row11 q16.out
  have x77 := q0.out
  have x78 := q1.out
  have q1H := hide (Strs.keep q17.out (Kp.setLoc (T := [9]) (i := 6) (v := .slice q1f a.guard.left.length q1g) q15.out (by decide)) (by decide))
  clear q17
  have q1I := hide (Terms.keep q18.out (Kp.setLoc (T := [9, 109]) (i := 6) (v := .slice q1f a.guard.left.length q1g) q15.out (by decide)) (by decide) (by decide))
  clear q18
  have q1J := hide (Terms.keep q19.out (Kp.setLoc (T := [9, 109]) (i := 6) (v := .slice q1f a.guard.left.length q1g) q15.out (by decide)) (by decide) (by decide))
  clear q19
  have q1K := hide (Strs.keep q1a.out (Kp.setLoc (T := [9]) (i := 6) (v := .slice q1f a.guard.left.length q1g) q15.out (by decide)) (by decide))
  clear q1a
  have q1L := hide (Terms.keep q1h.out (Kp.setLoc (T := [9, 109]) (i := 6) (v := .slice q1f a.guard.left.length q1g) q15.out (by decide)) (by decide) (by decide))
  clear q1h
  have q1M := hide (Terms.keep q1k.out (Kp.setLoc (T := [9, 109]) (i := 6) (v := .slice q1f a.guard.left.length q1g) q15.out (by decide)) (by decide) (by decide))
  clear q1k
  have q1N := hide (loc_set (i := 6) (v := .slice q1f a.guard.left.length q1g) q15.out)
  have q1O := hide (loc_other (p := ⟨w.heap.size, 6, none⟩) (v := .slice q1f a.guard.left.length q1g) q16.out q1.out)
  clear q15 q16
  have BW79 := hide (below_set BW74.out G0.out 6 (.slice q1f a.guard.left.length q1g))
  clear BW74
  have q1P := hide (Strs.keep q1H.out (Kp.setLoc (T := [9]) (i := 7) (v := .int .i64 a.guard.op) q1N.out (by decide)) (by decide))
  clear q1H
  have q1Q := hide (Terms.keep q1I.out (Kp.setLoc (T := [9, 109]) (i := 7) (v := .int .i64 a.guard.op) q1N.out (by decide)) (by decide) (by decide))
  clear q1I
  have q1R := hide (Terms.keep q1J.out (Kp.setLoc (T := [9, 109]) (i := 7) (v := .int .i64 a.guard.op) q1N.out (by decide)) (by decide) (by decide))
  clear q1J
  have q1S := hide (Strs.keep q1K.out (Kp.setLoc (T := [9]) (i := 7) (v := .int .i64 a.guard.op) q1N.out (by decide)) (by decide))
  clear q1K
  have q1T := hide (Terms.keep q1L.out (Kp.setLoc (T := [9, 109]) (i := 7) (v := .int .i64 a.guard.op) q1N.out (by decide)) (by decide) (by decide))
  clear q1L
  have q1U := hide (Terms.keep q1M.out (Kp.setLoc (T := [9, 109]) (i := 7) (v := .int .i64 a.guard.op) q1N.out (by decide)) (by decide) (by decide))
  clear q1M
  have q1V := hide (loc_set (i := 7) (v := .int .i64 a.guard.op) q1N.out)
  have q1W := hide (loc_other (p := ⟨w.heap.size, 7, none⟩) (v := .int .i64 a.guard.op) q1O.out q1.out)
  clear q1N q1O
  have BW80 := hide (below_set BW79.out G0.out 7 (.int .i64 a.guard.op))
  clear BW79
  have q1X := hide (Strs.keep q1P.out (Kp.setLoc (T := [9]) (i := 8) (v := .slice q1i a.guard.right.length q1j) q1V.out (by decide)) (by decide))
  clear q1P
  have q1Y := hide (Terms.keep q1Q.out (Kp.setLoc (T := [9, 109]) (i := 8) (v := .slice q1i a.guard.right.length q1j) q1V.out (by decide)) (by decide) (by decide))
  clear q1Q
  have q1Z := hide (Terms.keep q1R.out (Kp.setLoc (T := [9, 109]) (i := 8) (v := .slice q1i a.guard.right.length q1j) q1V.out (by decide)) (by decide) (by decide))
  clear q1R
  have q20 := hide (Strs.keep q1S.out (Kp.setLoc (T := [9]) (i := 8) (v := .slice q1i a.guard.right.length q1j) q1V.out (by decide)) (by decide))
  clear q1S
  have q21 := hide (Terms.keep q1T.out (Kp.setLoc (T := [9, 109]) (i := 8) (v := .slice q1i a.guard.right.length q1j) q1V.out (by decide)) (by decide) (by decide))
  clear q1T
  have q22 := hide (Terms.keep q1U.out (Kp.setLoc (T := [9, 109]) (i := 8) (v := .slice q1i a.guard.right.length q1j) q1V.out (by decide)) (by decide) (by decide))
  clear q1U
  have q23 := hide (loc_set (i := 8) (v := .slice q1i a.guard.right.length q1j) q1V.out)
  have q24 := hide (loc_other (p := ⟨w.heap.size, 8, none⟩) (v := .slice q1i a.guard.right.length q1j) q1W.out q1.out)
  clear q1V q1W
  have BW81 := hide (below_set BW80.out G0.out 8 (.slice q1i a.guard.right.length q1j))
  clear BW80
  go_wp2_with fail
  have hz := (And.intro q1l (And.intro q1m (And.intro q1n (And.intro q1o (And.intro q1p (And.intro q1q (And.intro q1r (And.intro q1s (And.intro q1t (And.intro q1u (And.intro q1v (And.intro y75 (And.intro q1w (And.intro q1x (And.intro q1y (And.intro q1z (And.intro q1A (And.intro q1B (And.intro q1C (And.intro q1D (And.intro q1E (And.intro q1F (And.intro q1G (And.intro y76 (And.intro x77 x78)))))))))))))))))))))))))
  simp [bodyPost, results, Tryz.results144, go_sem, hz]
  have q25 := hide (Strs.keep q1X.out (Kp.setLoc (T := [9]) (i := 0) (v := .int .i64 a.kind) q24.out (by decide)) (by decide))
  clear q1X
  have q26 := hide (Terms.keep q1Y.out (Kp.setLoc (T := [9, 109]) (i := 0) (v := .int .i64 a.kind) q24.out (by decide)) (by decide) (by decide))
  clear q1Y
  have q27 := hide (Terms.keep q1Z.out (Kp.setLoc (T := [9, 109]) (i := 0) (v := .int .i64 a.kind) q24.out (by decide)) (by decide) (by decide))
  clear q1Z
  have q28 := hide (Strs.keep q20.out (Kp.setLoc (T := [9]) (i := 0) (v := .int .i64 a.kind) q24.out (by decide)) (by decide))
  clear q20
  have q29 := hide (Terms.keep q21.out (Kp.setLoc (T := [9, 109]) (i := 0) (v := .int .i64 a.kind) q24.out (by decide)) (by decide) (by decide))
  clear q21
  have q2a := hide (Terms.keep q22.out (Kp.setLoc (T := [9, 109]) (i := 0) (v := .int .i64 a.kind) q24.out (by decide)) (by decide) (by decide))
  clear q22
  have q2b := hide (loc_other (p := ⟨w.heap.size + 1, 0, none⟩) (v := .int .i64 a.kind) q23.out q0.out)
  have q2c := hide (loc_set (i := 0) (v := .int .i64 a.kind) q24.out)
  clear q23 q24
  have BW82 := hide (below_set BW81.out G1.out 0 (.int .i64 a.kind))
  clear BW81
  have q2d := hide (Strs.keep q25.out (Kp.setLoc (T := [9]) (i := 1) (v := .bool a.lit.neg) q2c.out (by decide)) (by decide))
  clear q25
  have q2e := hide (Terms.keep q26.out (Kp.setLoc (T := [9, 109]) (i := 1) (v := .bool a.lit.neg) q2c.out (by decide)) (by decide) (by decide))
  clear q26
  have q2f := hide (Terms.keep q27.out (Kp.setLoc (T := [9, 109]) (i := 1) (v := .bool a.lit.neg) q2c.out (by decide)) (by decide) (by decide))
  clear q27
  have q2g := hide (Strs.keep q28.out (Kp.setLoc (T := [9]) (i := 1) (v := .bool a.lit.neg) q2c.out (by decide)) (by decide))
  clear q28
  have q2h := hide (Terms.keep q29.out (Kp.setLoc (T := [9, 109]) (i := 1) (v := .bool a.lit.neg) q2c.out (by decide)) (by decide) (by decide))
  clear q29
  have q2i := hide (Terms.keep q2a.out (Kp.setLoc (T := [9, 109]) (i := 1) (v := .bool a.lit.neg) q2c.out (by decide)) (by decide) (by decide))
  clear q2a
  have q2j := hide (loc_other (p := ⟨w.heap.size + 1, 1, none⟩) (v := .bool a.lit.neg) q2b.out q0.out)
  have q2k := hide (loc_set (i := 1) (v := .bool a.lit.neg) q2c.out)
  clear q2b q2c
  have BW83 := hide (below_set BW82.out G1.out 1 (.bool a.lit.neg))
  clear BW82
  have q2l := hide (Strs.keep q2d.out (Kp.setLoc (T := [9]) (i := 2) (v := .string ⟨a.lit.pred.toArray⟩) q2k.out (by decide)) (by decide))
  clear q2d
  have q2m := hide (Terms.keep q2e.out (Kp.setLoc (T := [9, 109]) (i := 2) (v := .string ⟨a.lit.pred.toArray⟩) q2k.out (by decide)) (by decide) (by decide))
  clear q2e
  have q2n := hide (Terms.keep q2f.out (Kp.setLoc (T := [9, 109]) (i := 2) (v := .string ⟨a.lit.pred.toArray⟩) q2k.out (by decide)) (by decide) (by decide))
  clear q2f
  have q2o := hide (Strs.keep q2g.out (Kp.setLoc (T := [9]) (i := 2) (v := .string ⟨a.lit.pred.toArray⟩) q2k.out (by decide)) (by decide))
  clear q2g
  have q2p := hide (Terms.keep q2h.out (Kp.setLoc (T := [9, 109]) (i := 2) (v := .string ⟨a.lit.pred.toArray⟩) q2k.out (by decide)) (by decide) (by decide))
  clear q2h
  have q2q := hide (Terms.keep q2i.out (Kp.setLoc (T := [9, 109]) (i := 2) (v := .string ⟨a.lit.pred.toArray⟩) q2k.out (by decide)) (by decide) (by decide))
  clear q2i
  have q2r := hide (loc_other (p := ⟨w.heap.size + 1, 2, none⟩) (v := .string ⟨a.lit.pred.toArray⟩) q2j.out q0.out)
  have q2s := hide (loc_set (i := 2) (v := .string ⟨a.lit.pred.toArray⟩) q2k.out)
  clear q2j q2k
  have BW84 := hide (below_set BW83.out G1.out 2 (.string ⟨a.lit.pred.toArray⟩))
  clear BW83
  have q2t := hide (Strs.keep q2l.out (Kp.setLoc (T := [9]) (i := 3) (v := .slice qc a.lit.args.length qd) q2s.out (by decide)) (by decide))
  clear q2l
  have q2u := hide (Terms.keep q2m.out (Kp.setLoc (T := [9, 109]) (i := 3) (v := .slice qc a.lit.args.length qd) q2s.out (by decide)) (by decide) (by decide))
  clear q2m
  have q2v := hide (Terms.keep q2n.out (Kp.setLoc (T := [9, 109]) (i := 3) (v := .slice qc a.lit.args.length qd) q2s.out (by decide)) (by decide) (by decide))
  clear q2n
  have q2w := hide (Strs.keep q2o.out (Kp.setLoc (T := [9]) (i := 3) (v := .slice qc a.lit.args.length qd) q2s.out (by decide)) (by decide))
  clear q2o
  have q2x := hide (Terms.keep q2p.out (Kp.setLoc (T := [9, 109]) (i := 3) (v := .slice qc a.lit.args.length qd) q2s.out (by decide)) (by decide) (by decide))
  clear q2p
  have q2y := hide (Terms.keep q2q.out (Kp.setLoc (T := [9, 109]) (i := 3) (v := .slice qc a.lit.args.length qd) q2s.out (by decide)) (by decide) (by decide))
  clear q2q
  have q2z := hide (loc_other (p := ⟨w.heap.size + 1, 3, none⟩) (v := .slice qc a.lit.args.length qd) q2r.out q0.out)
  have q2A := hide (loc_set (i := 3) (v := .slice qc a.lit.args.length qd) q2s.out)
  clear q2r q2s
  have BW85 := hide (below_set BW84.out G1.out 3 (.slice qc a.lit.args.length qd))
  clear BW84
  have q2B := hide (Strs.keep q2t.out (Kp.setLoc (T := [9]) (i := 4) (v := .bool a.lit.hasValue) q2A.out (by decide)) (by decide))
  clear q2t
  have q2C := hide (Terms.keep q2u.out (Kp.setLoc (T := [9, 109]) (i := 4) (v := .bool a.lit.hasValue) q2A.out (by decide)) (by decide) (by decide))
  clear q2u
  have q2D := hide (Terms.keep q2v.out (Kp.setLoc (T := [9, 109]) (i := 4) (v := .bool a.lit.hasValue) q2A.out (by decide)) (by decide) (by decide))
  clear q2v
  have q2E := hide (Strs.keep q2w.out (Kp.setLoc (T := [9]) (i := 4) (v := .bool a.lit.hasValue) q2A.out (by decide)) (by decide))
  clear q2w
  have q2F := hide (Terms.keep q2x.out (Kp.setLoc (T := [9, 109]) (i := 4) (v := .bool a.lit.hasValue) q2A.out (by decide)) (by decide) (by decide))
  clear q2x
  have q2G := hide (Terms.keep q2y.out (Kp.setLoc (T := [9, 109]) (i := 4) (v := .bool a.lit.hasValue) q2A.out (by decide)) (by decide) (by decide))
  clear q2y
  have q2H := hide (loc_other (p := ⟨w.heap.size + 1, 4, none⟩) (v := .bool a.lit.hasValue) q2z.out q0.out)
  have q2I := hide (loc_set (i := 4) (v := .bool a.lit.hasValue) q2A.out)
  clear q2z q2A
  have BW86 := hide (below_set BW85.out G1.out 4 (.bool a.lit.hasValue))
  clear BW85
  have q2J := hide (Strs.keep q2B.out (Kp.setLoc (T := [9]) (i := 5) (v := .int .i64 a.lit.value) q2I.out (by decide)) (by decide))
  clear q2B
  have q2K := hide (Terms.keep q2C.out (Kp.setLoc (T := [9, 109]) (i := 5) (v := .int .i64 a.lit.value) q2I.out (by decide)) (by decide) (by decide))
  clear q2C
  have q2L := hide (Terms.keep q2D.out (Kp.setLoc (T := [9, 109]) (i := 5) (v := .int .i64 a.lit.value) q2I.out (by decide)) (by decide) (by decide))
  clear q2D
  have q2M := hide (Strs.keep q2E.out (Kp.setLoc (T := [9]) (i := 5) (v := .int .i64 a.lit.value) q2I.out (by decide)) (by decide))
  clear q2E
  have q2N := hide (Terms.keep q2F.out (Kp.setLoc (T := [9, 109]) (i := 5) (v := .int .i64 a.lit.value) q2I.out (by decide)) (by decide) (by decide))
  clear q2F
  have q2O := hide (Terms.keep q2G.out (Kp.setLoc (T := [9, 109]) (i := 5) (v := .int .i64 a.lit.value) q2I.out (by decide)) (by decide) (by decide))
  clear q2G
  have q2P := hide (loc_other (p := ⟨w.heap.size + 1, 5, none⟩) (v := .int .i64 a.lit.value) q2H.out q0.out)
  have q2Q := hide (loc_set (i := 5) (v := .int .i64 a.lit.value) q2I.out)
  clear q2H q2I
  have BW87 := hide (below_set BW86.out G1.out 5 (.int .i64 a.lit.value))
  clear BW86
  have q2R := hide (Strs.keep q2J.out (Kp.setLoc (T := [9]) (i := 6) (v := .slice q1f a.guard.left.length q1g) q2Q.out (by decide)) (by decide))
  clear q2J
  have q2S := hide (Terms.keep q2K.out (Kp.setLoc (T := [9, 109]) (i := 6) (v := .slice q1f a.guard.left.length q1g) q2Q.out (by decide)) (by decide) (by decide))
  clear q2K
  have q2T := hide (Terms.keep q2L.out (Kp.setLoc (T := [9, 109]) (i := 6) (v := .slice q1f a.guard.left.length q1g) q2Q.out (by decide)) (by decide) (by decide))
  clear q2L
  have q2U := hide (Strs.keep q2M.out (Kp.setLoc (T := [9]) (i := 6) (v := .slice q1f a.guard.left.length q1g) q2Q.out (by decide)) (by decide))
  clear q2M
  have q2V := hide (Terms.keep q2N.out (Kp.setLoc (T := [9, 109]) (i := 6) (v := .slice q1f a.guard.left.length q1g) q2Q.out (by decide)) (by decide) (by decide))
  clear q2N
  have q2W := hide (Terms.keep q2O.out (Kp.setLoc (T := [9, 109]) (i := 6) (v := .slice q1f a.guard.left.length q1g) q2Q.out (by decide)) (by decide) (by decide))
  clear q2O
  have q2X := hide (loc_other (p := ⟨w.heap.size + 1, 6, none⟩) (v := .slice q1f a.guard.left.length q1g) q2P.out q0.out)
  have q2Y := hide (loc_set (i := 6) (v := .slice q1f a.guard.left.length q1g) q2Q.out)
  clear q2P q2Q
  have BW88 := hide (below_set BW87.out G1.out 6 (.slice q1f a.guard.left.length q1g))
  clear BW87
  have q2Z := hide (Strs.keep q2R.out (Kp.setLoc (T := [9]) (i := 7) (v := .int .i64 a.guard.op) q2Y.out (by decide)) (by decide))
  clear q2R
  have q30 := hide (Terms.keep q2S.out (Kp.setLoc (T := [9, 109]) (i := 7) (v := .int .i64 a.guard.op) q2Y.out (by decide)) (by decide) (by decide))
  clear q2S
  have q31 := hide (Terms.keep q2T.out (Kp.setLoc (T := [9, 109]) (i := 7) (v := .int .i64 a.guard.op) q2Y.out (by decide)) (by decide) (by decide))
  clear q2T
  have q32 := hide (Strs.keep q2U.out (Kp.setLoc (T := [9]) (i := 7) (v := .int .i64 a.guard.op) q2Y.out (by decide)) (by decide))
  clear q2U
  have q33 := hide (Terms.keep q2V.out (Kp.setLoc (T := [9, 109]) (i := 7) (v := .int .i64 a.guard.op) q2Y.out (by decide)) (by decide) (by decide))
  clear q2V
  have q34 := hide (Terms.keep q2W.out (Kp.setLoc (T := [9, 109]) (i := 7) (v := .int .i64 a.guard.op) q2Y.out (by decide)) (by decide) (by decide))
  clear q2W
  have q35 := hide (loc_other (p := ⟨w.heap.size + 1, 7, none⟩) (v := .int .i64 a.guard.op) q2X.out q0.out)
  have q36 := hide (loc_set (i := 7) (v := .int .i64 a.guard.op) q2Y.out)
  clear q2X q2Y
  have BW89 := hide (below_set BW88.out G1.out 7 (.int .i64 a.guard.op))
  clear BW88
  have q37 := hide (Strs.keep q2Z.out (Kp.setLoc (T := [9]) (i := 8) (v := .slice q1i a.guard.right.length q1j) q36.out (by decide)) (by decide))
  clear q2Z
  have q38 := hide (Terms.keep q30.out (Kp.setLoc (T := [9, 109]) (i := 8) (v := .slice q1i a.guard.right.length q1j) q36.out (by decide)) (by decide) (by decide))
  clear q30
  have q39 := hide (Terms.keep q31.out (Kp.setLoc (T := [9, 109]) (i := 8) (v := .slice q1i a.guard.right.length q1j) q36.out (by decide)) (by decide) (by decide))
  clear q31
  have q3a := hide (Strs.keep q32.out (Kp.setLoc (T := [9]) (i := 8) (v := .slice q1i a.guard.right.length q1j) q36.out (by decide)) (by decide))
  clear q32
  have q3b := hide (Terms.keep q33.out (Kp.setLoc (T := [9, 109]) (i := 8) (v := .slice q1i a.guard.right.length q1j) q36.out (by decide)) (by decide) (by decide))
  clear q33
  have q3c := hide (Terms.keep q34.out (Kp.setLoc (T := [9, 109]) (i := 8) (v := .slice q1i a.guard.right.length q1j) q36.out (by decide)) (by decide) (by decide))
  clear q34
  have q3d := hide (loc_other (p := ⟨w.heap.size + 1, 8, none⟩) (v := .slice q1i a.guard.right.length q1j) q35.out q0.out)
  have q3e := hide (loc_set (i := 8) (v := .slice q1i a.guard.right.length q1j) q36.out)
  clear q35 q36
  have BW90 := hide (below_set BW89.out G1.out 8 (.slice q1i a.guard.right.length q1j))
  clear BW89
  have q3f := hide (Strs.keep q37.out (Kp.setLoc (T := [9]) (i := 9) (v := .string ⟨a.a.toArray⟩) q3e.out (by decide)) (by decide))
  clear q37
  have q3g := hide (Terms.keep q38.out (Kp.setLoc (T := [9, 109]) (i := 9) (v := .string ⟨a.a.toArray⟩) q3e.out (by decide)) (by decide) (by decide))
  clear q38
  have q3h := hide (Terms.keep q39.out (Kp.setLoc (T := [9, 109]) (i := 9) (v := .string ⟨a.a.toArray⟩) q3e.out (by decide)) (by decide) (by decide))
  clear q39
  have q3i := hide (Strs.keep q3a.out (Kp.setLoc (T := [9]) (i := 9) (v := .string ⟨a.a.toArray⟩) q3e.out (by decide)) (by decide))
  clear q3a
  have q3j := hide (Terms.keep q3b.out (Kp.setLoc (T := [9, 109]) (i := 9) (v := .string ⟨a.a.toArray⟩) q3e.out (by decide)) (by decide) (by decide))
  clear q3b
  have q3k := hide (Terms.keep q3c.out (Kp.setLoc (T := [9, 109]) (i := 9) (v := .string ⟨a.a.toArray⟩) q3e.out (by decide)) (by decide) (by decide))
  clear q3c
  have q3l := hide (loc_other (p := ⟨w.heap.size + 1, 9, none⟩) (v := .string ⟨a.a.toArray⟩) q3d.out q0.out)
  have q3m := hide (loc_set (i := 9) (v := .string ⟨a.a.toArray⟩) q3e.out)
  clear q3d q3e
  have BW91 := hide (below_set BW90.out G1.out 9 (.string ⟨a.a.toArray⟩))
  clear BW90
  have q3n := hide (Strs.keep q3f.out (Kp.setLoc (T := [9]) (i := 10) (v := .string ⟨a.b.toArray⟩) q3m.out (by decide)) (by decide))
  clear q3f
  have q3o := hide (Terms.keep q3g.out (Kp.setLoc (T := [9, 109]) (i := 10) (v := .string ⟨a.b.toArray⟩) q3m.out (by decide)) (by decide) (by decide))
  clear q3g
  have q3p := hide (Terms.keep q3h.out (Kp.setLoc (T := [9, 109]) (i := 10) (v := .string ⟨a.b.toArray⟩) q3m.out (by decide)) (by decide) (by decide))
  clear q3h
  have q3q := hide (Strs.keep q3i.out (Kp.setLoc (T := [9]) (i := 10) (v := .string ⟨a.b.toArray⟩) q3m.out (by decide)) (by decide))
  clear q3i
  have q3r := hide (Terms.keep q3j.out (Kp.setLoc (T := [9, 109]) (i := 10) (v := .string ⟨a.b.toArray⟩) q3m.out (by decide)) (by decide) (by decide))
  clear q3j
  have q3s := hide (Terms.keep q3k.out (Kp.setLoc (T := [9, 109]) (i := 10) (v := .string ⟨a.b.toArray⟩) q3m.out (by decide)) (by decide) (by decide))
  clear q3k
  have q3t := hide (loc_other (p := ⟨w.heap.size + 1, 10, none⟩) (v := .string ⟨a.b.toArray⟩) q3l.out q0.out)
  have q3u := hide (loc_set (i := 10) (v := .string ⟨a.b.toArray⟩) q3m.out)
  clear q3l q3m
  have BW92 := hide (below_set BW91.out G1.out 10 (.string ⟨a.b.toArray⟩))
  clear BW91
  exact ⟨⟨_, _, _, rfl, q3q.out, q3r.out, q3s.out⟩, BW92.out⟩

set_option maxRecDepth 100000 in
set_option maxHeartbeats 3200000 in
theorem copy_CopyPremises {Z : Nat → Prop} (l : List PremM) (va : Value) (w : World) (ha : Rows Z 107 11 (cPrem Z) w l va) (hl : l.length ≤ 1000000000) (hi : ∀ a, a ∈ l → SmallPrem a) :
    Calls Tryz.prog 108 #[va] w fun e w' => ∃ v, e = .returned v ∧ Rows (New w) 107 11 (cPrem (New w)) w' l v ∧ Below w.heap.size w w' := by
  obtain ⟨iM, hiM, zM0, zM1, zM2⟩ := info_parts' info_prem
  have HA := hide ha
  obtain ⟨aa, ca, rfl⟩ := rows_form ha
  clear ha
  go_enter Tryz.func108, Tryz.ntmps108
  go_wp2_with fail
  go_loopw [3, 4] (fun x z wr => ∃ k : Nat, k ≤ l.length ∧ z = .int .i64 k ∧ Hid (Rows (New w) 107 11 (cPrem (New w)) wr (l.take k) x) ∧ Hid (Below w.heap.size w wr)) (fun _ z _ => l.length - (intOf z).toNat)
  case atStart => exact ⟨0, by omega, rfl, hide (Rows.nil _ _ _ _ _), hide (Below.refl _ w)⟩
  case round =>
    obtain ⟨k, hk, rfl, HV, HW⟩ := hrel
    by_cases hlt : k < l.length
    · obtain ⟨t, ht⟩ : ∃ t, l[k]? = some t := ⟨l[k], by simp [hlt]⟩
      obtain ⟨ga, xa, ya, e1, _, ⟨av0, av1, av2, rfl, hs0, hs1, hs2⟩, h2⟩ := (HA.out.keep (T := [9, 109, 107]) (Kp.of_below HW.out) (by decide) (fun _ _ h => h.keep (T := [9, 109, 107]) (Kp.of_below HW.out) (by decide) (by decide))).at ht
      simp only [Value.slice.injEq] at e1
      obtain ⟨rfl, _, rfl⟩ := e1
      have a0 : wr.cell? ⟨ga, k * 11, none⟩ = some (.int .i64 t.kind) := by have := h2 0 _ rfl; simpa using this
      have a1 : wr.cell? ⟨ga, k * 11 + 1, none⟩ = some (.bool t.lit.neg) := by have := h2 1 _ rfl; simpa using this
      have a2 : wr.cell? ⟨ga, k * 11 + 2, none⟩ = some (.string ⟨t.lit.pred.toArray⟩) := by have := h2 2 _ rfl; simpa using this
      have a3 : wr.cell? ⟨ga, k * 11 + 3, none⟩ = some (av0) := by have := h2 3 _ rfl; simpa using this
      have a4 : wr.cell? ⟨ga, k * 11 + 4, none⟩ = some (.bool t.lit.hasValue) := by have := h2 4 _ rfl; simpa using this
      have a5 : wr.cell? ⟨ga, k * 11 + 5, none⟩ = some (.int .i64 t.lit.value) := by have := h2 5 _ rfl; simpa using this
      have a6 : wr.cell? ⟨ga, k * 11 + 6, none⟩ = some (av1) := by have := h2 6 _ rfl; simpa using this
      have a7 : wr.cell? ⟨ga, k * 11 + 7, none⟩ = some (.int .i64 t.guard.op) := by have := h2 7 _ rfl; simpa using this
      have a8 : wr.cell? ⟨ga, k * 11 + 8, none⟩ = some (av2) := by have := h2 8 _ rfl; simpa using this
      have a9 : wr.cell? ⟨ga, k * 11 + 9, none⟩ = some (.string ⟨t.a.toArray⟩) := by have := h2 9 _ rfl; simpa using this
      have a10 : wr.cell? ⟨ga, k * 11 + 10, none⟩ = some (.string ⟨t.b.toArray⟩) := by have := h2 10 _ rfl; simpa using this
      have hit := hi t (List.mem_of_getElem? ht)
      have HS := hide (take_snoc ht)
      obtain ⟨xs, hrow, hold⟩ := HV.out
      have hln : (l.take k).length = k := by simp; omega
      obtain ⟨ta, tc, rfl⟩ := slice_form hrow.1
      rw [hln] at hrow
      have HROW := hide hrow
      have HOLD := hide hold
      have C := hide (copy_Premise t av0 av1 av2 wr hs0 hs1 hs2 hit)
      clear h2 ht hrow hold HV hit hs0 hs1 hs2
      rw [hln]
      go_wp2_with fail
      refine C.out.mono ?_
      rintro _ w2 ⟨v2, rfl, ⟨u0, u1, u2, rfl, hv0, hv1, hv2⟩, hb⟩
      obtain ⟨p0, r0, rfl⟩ := rows_form hv0
      have HV0 := hide (Strs.mono hv0 fun g hg => Nat.le_trans HW.out.size hg)
      obtain ⟨p1, r1, rfl⟩ := rows_form hv1
      have HV1 := hide (Terms.mono hv1 fun g hg => Nat.le_trans HW.out.size hg)
      obtain ⟨p2, r2, rfl⟩ := rows_form hv2
      have HV2 := hide (Terms.mono hv2 fun g hg => Nat.le_trans HW.out.size hg)
      have HROW2 := hide (HROW.out.keep (Kp.of_below (T := [107]) hb) (by decide))
      have HC : Hid (∀ w0 w' b ys, Kp [9, 109] (New w) w0 w' → cPrem (New w) w0 b ys → cPrem (New w) w' b ys) := hide (fun _ _ _ _ hk h => h.keep hk (by decide) (by decide))
      have HOLD2 : Hid (∀ i b, (l.take k)[i]? = some b → cPrem (New w) w2 b ((xs.drop (i * 11)).take 11)) := hide fun i b hi => HC.out _ _ _ _ (Kp.of_below hb) (HOLD.out i b hi)
      have HW2 := hide (HW.out.trans (hb.mono HW.out.size))
      have HZ : Hid (∀ g, w2.heap.size ≤ g → New w g) := hide fun g hg => Nat.le_trans HW2.out.size hg
      have HSZ := hide HW2.out.size
      clear hb hv0 hv1 hv2 HROW HOLD HW C
      go_wp2_with (at_builtin; go_must (refine wpList_append_two _ rfl _ _ 95 rfl 0 107 iM _ 11 160 Tryz.underlying95 hiM zM0 zM1 zM2 rfl (by decide) _ _ _ rfl (HROW2.out.1.alloc _) ⟨w2.heap.size, 0, none⟩ 1 [.int .i64 t.kind, .bool t.lit.neg, .string ⟨t.lit.pred.toArray⟩, .slice p0 t.lit.args.length r0, .bool t.lit.hasValue, .int .i64 t.lit.value, .slice p1 t.guard.left.length r1, .int .i64 t.guard.op, .slice p2 t.guard.right.length r2, .string ⟨t.a.toArray⟩, .string ⟨t.b.toArray⟩] rfl rfl (news_at rfl) (by simp [Value.oneCell']) (by unfold maxLen; omega) (by omega) (Nat.zero_le _) ?_))
      intro g cap w4 hown hg
      obtain ⟨p1, p2⟩ := put_more (T := [9, 109]) (B := w.heap.size) (a := t) rfl (by rw [hln]; exact HROW2.out) HOLD2.out ⟨_, _, _, rfl, HV0.out, HV1.out, HV2.out⟩ rfl HZ.out HC.out (by decide) (fun g hg => hg) HSZ.out (by rw [hln]; exact hown) hg
      rw [HS.out, hln] at p1
      have P1 := hide p1
      have P2 := hide (HW2.out.trans p2)
      clear p1 p2 hown hg HROW2 HOLD2 HW2 HZ HSZ HC
      go_wp2_with fail
      go_roundw
      case rel => exact ⟨k + 1, by omega, by go_num, P1, P2⟩
      case measure => simp [intOf]; omega
    · have ek : k = l.length := by omega
      subst ek
      rw [List.take_length] at HV
      go_wp2_with fail
      go_ret
      exact ⟨_, rfl, HV.out, HW.out⟩

set_option maxRecDepth 100000 in
set_option maxHeartbeats 3200000 in
theorem copy_RuleText {Z : Nat → Prop} (a : RuleM) (x0 : Value) (x1 : Value) (w : World) (hx0 : Prems Z w a.body x0) (hx1 : Strs Z w a.head.args x1) (hl : SmallRule a) :
    Calls Tryz.prog 64 #[.agg #[.string ⟨a.name.toArray⟩, .string ⟨a.source.toArray⟩, .int .i64 a.day, .int .i64 a.till, x0, .int .i64 a.arrow, .bool a.head.neg, .string ⟨a.head.pred.toArray⟩, x1, .bool a.head.hasValue, .int .i64 a.head.value]] w fun e w' => ∃ v, e = .returned v ∧ vRule (New w) w' a v ∧ Below w.heap.size w w' := by
  obtain ⟨xa0, xc0, rfl⟩ := rows_form hx0
  have HX0 := hide hx0
  clear hx0
  obtain ⟨xa1, xc1, rfl⟩ := rows_form hx1
  have HX1 := hide hx1
  clear hx1
  go_enter Tryz.func64, Tryz.ntmps64
  have B0 : Below w.heap.size w ((w.alloc (.cells #[.string ⟨a.name.toArray⟩, .string ⟨a.source.toArray⟩, .int .i64 a.day, .int .i64 a.till, .slice xa0 a.body.length xc0, .int .i64 a.arrow, .bool a.head.neg, .string ⟨a.head.pred.toArray⟩, .slice xa1 a.head.args.length xc1, .bool a.head.hasValue, .int .i64 a.head.value] 100)).alloc (.cells #[.string ⟨#[]⟩, .string ⟨#[]⟩, .int .i64 0, .int .i64 0, .slice none 0 0, .int .i64 0, .bool false, .string ⟨#[]⟩, .slice none 0 0, .bool false, .int .i64 0] 100)) := below_two w _ _
  have G0 : Hid (w.heap.size ≤ w.heap.size) := hide (Nat.le_refl _)
  have G1 : Hid (w.heap.size ≤ w.heap.size + 1) := hide (Nat.le_succ _)
  have q0 : Hid (w.heap.size ≠ w.heap.size + 1) := hide (by omega)
  have q1 : Hid (w.heap.size + 1 ≠ w.heap.size) := hide (by omega)
  have LB0 := hide (two_new w (.cells #[.string ⟨a.name.toArray⟩, .string ⟨a.source.toArray⟩, .int .i64 a.day, .int .i64 a.till, .slice xa0 a.body.length xc0, .int .i64 a.arrow, .bool a.head.neg, .string ⟨a.head.pred.toArray⟩, .slice xa1 a.head.args.length xc1, .bool a.head.hasValue, .int .i64 a.head.value] 100) (.cells #[.string ⟨#[]⟩, .string ⟨#[]⟩, .int .i64 0, .int .i64 0, .slice none 0 0, .int .i64 0, .bool false, .string ⟨#[]⟩, .slice none 0 0, .bool false, .int .i64 0] 100)).1
  have LB1 := hide (two_new w (.cells #[.string ⟨a.name.toArray⟩, .string ⟨a.source.toArray⟩, .int .i64 a.day, .int .i64 a.till, .slice xa0 a.body.length xc0, .int .i64 a.arrow, .bool a.head.neg, .string ⟨a.head.pred.toArray⟩, .slice xa1 a.head.args.length xc1, .bool a.head.hasValue, .int .i64 a.head.value] 100) (.cells #[.string ⟨#[]⟩, .string ⟨#[]⟩, .int .i64 0, .int .i64 0, .slice none 0 0, .int .i64 0, .bool false, .string ⟨#[]⟩, .slice none 0 0, .bool false, .int .i64 0] 100)).2
  have q2 := hide (Prems.keep HX0.out (Kp.of_below (T := inner) B0))
  clear HX0
  have q3 := hide (Strs.keep HX1.out (Kp.of_below (T := [9]) B0) (by decide))
  clear HX1
  have BW := hide B0
  clear B0
  have C93 := hide (copy_CopyPremises _ _ _ q2.out hl.1 hl.2.1)
  go_wp2_with fail
  refine C93.out.mono ?_
  rintro _ w93 ⟨v93, rfl, hv, hb⟩
  have q4 := hide ((hb.block _ (loc_lt LB0.out)).trans LB0.out)
  clear LB0
  have q5 := hide ((hb.block _ (loc_lt LB1.out)).trans LB1.out)
  clear LB1
  have q6 := hide (Prems.keep q2.out (Kp.of_below (T := inner) hb))
  clear q2
  have q7 := hide (Strs.keep q3.out (Kp.of_below (T := [9]) hb) (by decide))
  clear q3
  have q8 := hv
  clear hv
  obtain ⟨q9, qa, rfl⟩ := rows_form q8
  have qb := hide (Prems.mono q8 fun g hg => Nat.le_trans BW.out.size hg)
  clear q8
  have BW93 := hide (BW.out.trans (hb.mono BW.out.size))
  clear hb C93 BW
  obtain ⟨qc, qd, qe, qf, qg, qh, qi, qj, qk, ql, qm, y94⟩ := row11 q4.out
  obtain ⟨qn, qo, qp, qq, qr, qs, qt, qu, qv, qw, qx, y95⟩ := row11 q5.out
  have x96 := q0.out
  have x97 := q1.out
  have qy := hide (Prems.keep q6.out (Kp.setLoc (T := inner) (i := 4) (v := .slice q9 a.body.length qa) q4.out (by decide)))
  clear q6
  have qz := hide (Strs.keep q7.out (Kp.setLoc (T := [9]) (i := 4) (v := .slice q9 a.body.length qa) q4.out (by decide)) (by decide))
  clear q7
  have qA := hide (Prems.keep qb.out (Kp.setLoc (T := inner) (i := 4) (v := .slice q9 a.body.length qa) q4.out (by decide)))
  clear qb
  have qB := hide (loc_set (i := 4) (v := .slice q9 a.body.length qa) q4.out)
  have qC := hide (loc_other (p := ⟨w.heap.size, 4, none⟩) (v := .slice q9 a.body.length qa) q5.out q1.out)
  clear q4 q5
  have BW98 := hide (below_set BW93.out G0.out 4 (.slice q9 a.body.length qa))
  clear BW93
  have C99 := hide (copy_LitText _ _ _ qz.out hl.2.2)
  go_wp2_with fail
  refine C99.out.mono ?_
  rintro _ w99 ⟨v99, rfl, hv, hb⟩
  clear qc qd qe qf qg qh qi qj qk ql qm y94 qn qo qp qq qr qs qt qu qv qw qx y95 x96 x97
  have qD := hide ((hb.block _ (loc_lt qB.out)).trans qB.out)
  clear qB
  have qE := hide ((hb.block _ (loc_lt qC.out)).trans qC.out)
  clear qC
  have qF := hide (Prems.keep qy.out (Kp.of_below (T := inner) hb))
  clear qy
  have qG := hide (Strs.keep qz.out (Kp.of_below (T := [9]) hb) (by decide))
  clear qz
  have qH := hide (Prems.keep qA.out (Kp.of_below (T := inner) hb))
  clear qA
  obtain ⟨qI, rfl, qJ⟩ := hv
  obtain ⟨qK, qL, rfl⟩ := rows_form qJ
  have qM := hide (Strs.mono qJ fun g hg => Nat.le_trans BW98.out.size hg)
  clear qJ
  have BW99 := hide (BW98.out.trans (hb.mono BW98.out.size))
  clear hb C99 BW98
  obtain ⟨qN, qO, qP, qQ, qR, qS, qT, qU, qV, qW, qX, y100⟩ := row11 qD.out
  obtain ⟨qY, qZ, q10, q11, q12, q13, q14, q15, q16, q17, q18, y101⟩ := row11 qE.out
  have x102 := q0.out
  have x103 := q1.out
  have q19 := hide (Prems.keep qF.out (Kp.setLoc (T := inner) (i := 6) (v := .bool a.head.neg) qD.out (by decide)))
  clear qF
  have q1a := hide (Strs.keep qG.out (Kp.setLoc (T := [9]) (i := 6) (v := .bool a.head.neg) qD.out (by decide)) (by decide))
  clear qG
  have q1b := hide (Prems.keep qH.out (Kp.setLoc (T := inner) (i := 6) (v := .bool a.head.neg) qD.out (by decide)))
  clear qH
  have q1c := hide (Strs.keep qM.out (Kp.setLoc (T := [9]) (i := 6) (v := .bool a.head.neg) qD.out (by decide)) (by decide))
  clear qM
  have q1d := hide (loc_set (i := 6) (v := .bool a.head.neg) qD.out)
  have q1e := hide (loc_other (p := ⟨w.heap.size, 6, none⟩) (v := .bool a.head.neg) qE.out q1.out)
  clear qD qE
  have BW104 := hide (below_set BW99.out G0.out 6 (.bool a.head.neg))
  clear BW99
  have q1f := hide (Prems.keep q19.out (Kp.setLoc (T := inner) (i := 7) (v := .string ⟨a.head.pred.toArray⟩) q1d.out (by decide)))
  clear q19
  have q1g := hide (Strs.keep q1a.out (Kp.setLoc (T := [9]) (i := 7) (v := .string ⟨a.head.pred.toArray⟩) q1d.out (by decide)) (by decide))
  clear q1a
  have q1h := hide (Prems.keep q1b.out (Kp.setLoc (T := inner) (i := 7) (v := .string ⟨a.head.pred.toArray⟩) q1d.out (by decide)))
  clear q1b
  have q1i := hide (Strs.keep q1c.out (Kp.setLoc (T := [9]) (i := 7) (v := .string ⟨a.head.pred.toArray⟩) q1d.out (by decide)) (by decide))
  clear q1c
  have q1j := hide (loc_set (i := 7) (v := .string ⟨a.head.pred.toArray⟩) q1d.out)
  have q1k := hide (loc_other (p := ⟨w.heap.size, 7, none⟩) (v := .string ⟨a.head.pred.toArray⟩) q1e.out q1.out)
  clear q1d q1e
  have BW105 := hide (below_set BW104.out G0.out 7 (.string ⟨a.head.pred.toArray⟩))
  clear BW104
  have q1l := hide (Prems.keep q1f.out (Kp.setLoc (T := inner) (i := 8) (v := .slice qK a.head.args.length qL) q1j.out (by decide)))
  clear q1f
  have q1m := hide (Strs.keep q1g.out (Kp.setLoc (T := [9]) (i := 8) (v := .slice qK a.head.args.length qL) q1j.out (by decide)) (by decide))
  clear q1g
  have q1n := hide (Prems.keep q1h.out (Kp.setLoc (T := inner) (i := 8) (v := .slice qK a.head.args.length qL) q1j.out (by decide)))
  clear q1h
  have q1o := hide (Strs.keep q1i.out (Kp.setLoc (T := [9]) (i := 8) (v := .slice qK a.head.args.length qL) q1j.out (by decide)) (by decide))
  clear q1i
  have q1p := hide (loc_set (i := 8) (v := .slice qK a.head.args.length qL) q1j.out)
  have q1q := hide (loc_other (p := ⟨w.heap.size, 8, none⟩) (v := .slice qK a.head.args.length qL) q1k.out q1.out)
  clear q1j q1k
  have BW106 := hide (below_set BW105.out G0.out 8 (.slice qK a.head.args.length qL))
  clear BW105
  have q1r := hide (Prems.keep q1l.out (Kp.setLoc (T := inner) (i := 9) (v := .bool a.head.hasValue) q1p.out (by decide)))
  clear q1l
  have q1s := hide (Strs.keep q1m.out (Kp.setLoc (T := [9]) (i := 9) (v := .bool a.head.hasValue) q1p.out (by decide)) (by decide))
  clear q1m
  have q1t := hide (Prems.keep q1n.out (Kp.setLoc (T := inner) (i := 9) (v := .bool a.head.hasValue) q1p.out (by decide)))
  clear q1n
  have q1u := hide (Strs.keep q1o.out (Kp.setLoc (T := [9]) (i := 9) (v := .bool a.head.hasValue) q1p.out (by decide)) (by decide))
  clear q1o
  have q1v := hide (loc_set (i := 9) (v := .bool a.head.hasValue) q1p.out)
  have q1w := hide (loc_other (p := ⟨w.heap.size, 9, none⟩) (v := .bool a.head.hasValue) q1q.out q1.out)
  clear q1p q1q
  have BW107 := hide (below_set BW106.out G0.out 9 (.bool a.head.hasValue))
  clear BW106
  have q1x := hide (Prems.keep q1r.out (Kp.setLoc (T := inner) (i := 10) (v := .int .i64 a.head.value) q1v.out (by decide)))
  clear q1r
  have q1y := hide (Strs.keep q1s.out (Kp.setLoc (T := [9]) (i := 10) (v := .int .i64 a.head.value) q1v.out (by decide)) (by decide))
  clear q1s
  have q1z := hide (Prems.keep q1t.out (Kp.setLoc (T := inner) (i := 10) (v := .int .i64 a.head.value) q1v.out (by decide)))
  clear q1t
  have q1A := hide (Strs.keep q1u.out (Kp.setLoc (T := [9]) (i := 10) (v := .int .i64 a.head.value) q1v.out (by decide)) (by decide))
  clear q1u
  have q1B := hide (loc_set (i := 10) (v := .int .i64 a.head.value) q1v.out)
  have q1C := hide (loc_other (p := ⟨w.heap.size, 10, none⟩) (v := .int .i64 a.head.value) q1w.out q1.out)
  clear q1v q1w
  have BW108 := hide (below_set BW107.out G0.out 10 (.int .i64 a.head.value))
  clear BW107
  go_wp2_with fail
  have hz := (And.intro qN (And.intro qO (And.intro qP (And.intro qQ (And.intro qR (And.intro qS (And.intro qT (And.intro qU (And.intro qV (And.intro qW (And.intro qX (And.intro y100 (And.intro qY (And.intro qZ (And.intro q10 (And.intro q11 (And.intro q12 (And.intro q13 (And.intro q14 (And.intro q15 (And.intro q16 (And.intro q17 (And.intro q18 (And.intro y101 (And.intro x102 x103)))))))))))))))))))))))))
  simp [bodyPost, results, Tryz.results64, go_sem, hz]
  have q1D := hide (Prems.keep q1x.out (Kp.setLoc (T := inner) (i := 0) (v := .string ⟨a.name.toArray⟩) q1C.out (by decide)))
  clear q1x
  have q1E := hide (Strs.keep q1y.out (Kp.setLoc (T := [9]) (i := 0) (v := .string ⟨a.name.toArray⟩) q1C.out (by decide)) (by decide))
  clear q1y
  have q1F := hide (Prems.keep q1z.out (Kp.setLoc (T := inner) (i := 0) (v := .string ⟨a.name.toArray⟩) q1C.out (by decide)))
  clear q1z
  have q1G := hide (Strs.keep q1A.out (Kp.setLoc (T := [9]) (i := 0) (v := .string ⟨a.name.toArray⟩) q1C.out (by decide)) (by decide))
  clear q1A
  have q1H := hide (loc_other (p := ⟨w.heap.size + 1, 0, none⟩) (v := .string ⟨a.name.toArray⟩) q1B.out q0.out)
  have q1I := hide (loc_set (i := 0) (v := .string ⟨a.name.toArray⟩) q1C.out)
  clear q1B q1C
  have BW109 := hide (below_set BW108.out G1.out 0 (.string ⟨a.name.toArray⟩))
  clear BW108
  have q1J := hide (Prems.keep q1D.out (Kp.setLoc (T := inner) (i := 1) (v := .string ⟨a.source.toArray⟩) q1I.out (by decide)))
  clear q1D
  have q1K := hide (Strs.keep q1E.out (Kp.setLoc (T := [9]) (i := 1) (v := .string ⟨a.source.toArray⟩) q1I.out (by decide)) (by decide))
  clear q1E
  have q1L := hide (Prems.keep q1F.out (Kp.setLoc (T := inner) (i := 1) (v := .string ⟨a.source.toArray⟩) q1I.out (by decide)))
  clear q1F
  have q1M := hide (Strs.keep q1G.out (Kp.setLoc (T := [9]) (i := 1) (v := .string ⟨a.source.toArray⟩) q1I.out (by decide)) (by decide))
  clear q1G
  have q1N := hide (loc_other (p := ⟨w.heap.size + 1, 1, none⟩) (v := .string ⟨a.source.toArray⟩) q1H.out q0.out)
  have q1O := hide (loc_set (i := 1) (v := .string ⟨a.source.toArray⟩) q1I.out)
  clear q1H q1I
  have BW110 := hide (below_set BW109.out G1.out 1 (.string ⟨a.source.toArray⟩))
  clear BW109
  have q1P := hide (Prems.keep q1J.out (Kp.setLoc (T := inner) (i := 2) (v := .int .i64 a.day) q1O.out (by decide)))
  clear q1J
  have q1Q := hide (Strs.keep q1K.out (Kp.setLoc (T := [9]) (i := 2) (v := .int .i64 a.day) q1O.out (by decide)) (by decide))
  clear q1K
  have q1R := hide (Prems.keep q1L.out (Kp.setLoc (T := inner) (i := 2) (v := .int .i64 a.day) q1O.out (by decide)))
  clear q1L
  have q1S := hide (Strs.keep q1M.out (Kp.setLoc (T := [9]) (i := 2) (v := .int .i64 a.day) q1O.out (by decide)) (by decide))
  clear q1M
  have q1T := hide (loc_other (p := ⟨w.heap.size + 1, 2, none⟩) (v := .int .i64 a.day) q1N.out q0.out)
  have q1U := hide (loc_set (i := 2) (v := .int .i64 a.day) q1O.out)
  clear q1N q1O
  have BW111 := hide (below_set BW110.out G1.out 2 (.int .i64 a.day))
  clear BW110
  have q1V := hide (Prems.keep q1P.out (Kp.setLoc (T := inner) (i := 3) (v := .int .i64 a.till) q1U.out (by decide)))
  clear q1P
  have q1W := hide (Strs.keep q1Q.out (Kp.setLoc (T := [9]) (i := 3) (v := .int .i64 a.till) q1U.out (by decide)) (by decide))
  clear q1Q
  have q1X := hide (Prems.keep q1R.out (Kp.setLoc (T := inner) (i := 3) (v := .int .i64 a.till) q1U.out (by decide)))
  clear q1R
  have q1Y := hide (Strs.keep q1S.out (Kp.setLoc (T := [9]) (i := 3) (v := .int .i64 a.till) q1U.out (by decide)) (by decide))
  clear q1S
  have q1Z := hide (loc_other (p := ⟨w.heap.size + 1, 3, none⟩) (v := .int .i64 a.till) q1T.out q0.out)
  have q20 := hide (loc_set (i := 3) (v := .int .i64 a.till) q1U.out)
  clear q1T q1U
  have BW112 := hide (below_set BW111.out G1.out 3 (.int .i64 a.till))
  clear BW111
  have q21 := hide (Prems.keep q1V.out (Kp.setLoc (T := inner) (i := 4) (v := .slice q9 a.body.length qa) q20.out (by decide)))
  clear q1V
  have q22 := hide (Strs.keep q1W.out (Kp.setLoc (T := [9]) (i := 4) (v := .slice q9 a.body.length qa) q20.out (by decide)) (by decide))
  clear q1W
  have q23 := hide (Prems.keep q1X.out (Kp.setLoc (T := inner) (i := 4) (v := .slice q9 a.body.length qa) q20.out (by decide)))
  clear q1X
  have q24 := hide (Strs.keep q1Y.out (Kp.setLoc (T := [9]) (i := 4) (v := .slice q9 a.body.length qa) q20.out (by decide)) (by decide))
  clear q1Y
  have q25 := hide (loc_other (p := ⟨w.heap.size + 1, 4, none⟩) (v := .slice q9 a.body.length qa) q1Z.out q0.out)
  have q26 := hide (loc_set (i := 4) (v := .slice q9 a.body.length qa) q20.out)
  clear q1Z q20
  have BW113 := hide (below_set BW112.out G1.out 4 (.slice q9 a.body.length qa))
  clear BW112
  have q27 := hide (Prems.keep q21.out (Kp.setLoc (T := inner) (i := 5) (v := .int .i64 a.arrow) q26.out (by decide)))
  clear q21
  have q28 := hide (Strs.keep q22.out (Kp.setLoc (T := [9]) (i := 5) (v := .int .i64 a.arrow) q26.out (by decide)) (by decide))
  clear q22
  have q29 := hide (Prems.keep q23.out (Kp.setLoc (T := inner) (i := 5) (v := .int .i64 a.arrow) q26.out (by decide)))
  clear q23
  have q2a := hide (Strs.keep q24.out (Kp.setLoc (T := [9]) (i := 5) (v := .int .i64 a.arrow) q26.out (by decide)) (by decide))
  clear q24
  have q2b := hide (loc_other (p := ⟨w.heap.size + 1, 5, none⟩) (v := .int .i64 a.arrow) q25.out q0.out)
  have q2c := hide (loc_set (i := 5) (v := .int .i64 a.arrow) q26.out)
  clear q25 q26
  have BW114 := hide (below_set BW113.out G1.out 5 (.int .i64 a.arrow))
  clear BW113
  have q2d := hide (Prems.keep q27.out (Kp.setLoc (T := inner) (i := 6) (v := .bool a.head.neg) q2c.out (by decide)))
  clear q27
  have q2e := hide (Strs.keep q28.out (Kp.setLoc (T := [9]) (i := 6) (v := .bool a.head.neg) q2c.out (by decide)) (by decide))
  clear q28
  have q2f := hide (Prems.keep q29.out (Kp.setLoc (T := inner) (i := 6) (v := .bool a.head.neg) q2c.out (by decide)))
  clear q29
  have q2g := hide (Strs.keep q2a.out (Kp.setLoc (T := [9]) (i := 6) (v := .bool a.head.neg) q2c.out (by decide)) (by decide))
  clear q2a
  have q2h := hide (loc_other (p := ⟨w.heap.size + 1, 6, none⟩) (v := .bool a.head.neg) q2b.out q0.out)
  have q2i := hide (loc_set (i := 6) (v := .bool a.head.neg) q2c.out)
  clear q2b q2c
  have BW115 := hide (below_set BW114.out G1.out 6 (.bool a.head.neg))
  clear BW114
  have q2j := hide (Prems.keep q2d.out (Kp.setLoc (T := inner) (i := 7) (v := .string ⟨a.head.pred.toArray⟩) q2i.out (by decide)))
  clear q2d
  have q2k := hide (Strs.keep q2e.out (Kp.setLoc (T := [9]) (i := 7) (v := .string ⟨a.head.pred.toArray⟩) q2i.out (by decide)) (by decide))
  clear q2e
  have q2l := hide (Prems.keep q2f.out (Kp.setLoc (T := inner) (i := 7) (v := .string ⟨a.head.pred.toArray⟩) q2i.out (by decide)))
  clear q2f
  have q2m := hide (Strs.keep q2g.out (Kp.setLoc (T := [9]) (i := 7) (v := .string ⟨a.head.pred.toArray⟩) q2i.out (by decide)) (by decide))
  clear q2g
  have q2n := hide (loc_other (p := ⟨w.heap.size + 1, 7, none⟩) (v := .string ⟨a.head.pred.toArray⟩) q2h.out q0.out)
  have q2o := hide (loc_set (i := 7) (v := .string ⟨a.head.pred.toArray⟩) q2i.out)
  clear q2h q2i
  have BW116 := hide (below_set BW115.out G1.out 7 (.string ⟨a.head.pred.toArray⟩))
  clear BW115
  have q2p := hide (Prems.keep q2j.out (Kp.setLoc (T := inner) (i := 8) (v := .slice qK a.head.args.length qL) q2o.out (by decide)))
  clear q2j
  have q2q := hide (Strs.keep q2k.out (Kp.setLoc (T := [9]) (i := 8) (v := .slice qK a.head.args.length qL) q2o.out (by decide)) (by decide))
  clear q2k
  have q2r := hide (Prems.keep q2l.out (Kp.setLoc (T := inner) (i := 8) (v := .slice qK a.head.args.length qL) q2o.out (by decide)))
  clear q2l
  have q2s := hide (Strs.keep q2m.out (Kp.setLoc (T := [9]) (i := 8) (v := .slice qK a.head.args.length qL) q2o.out (by decide)) (by decide))
  clear q2m
  have q2t := hide (loc_other (p := ⟨w.heap.size + 1, 8, none⟩) (v := .slice qK a.head.args.length qL) q2n.out q0.out)
  have q2u := hide (loc_set (i := 8) (v := .slice qK a.head.args.length qL) q2o.out)
  clear q2n q2o
  have BW117 := hide (below_set BW116.out G1.out 8 (.slice qK a.head.args.length qL))
  clear BW116
  have q2v := hide (Prems.keep q2p.out (Kp.setLoc (T := inner) (i := 9) (v := .bool a.head.hasValue) q2u.out (by decide)))
  clear q2p
  have q2w := hide (Strs.keep q2q.out (Kp.setLoc (T := [9]) (i := 9) (v := .bool a.head.hasValue) q2u.out (by decide)) (by decide))
  clear q2q
  have q2x := hide (Prems.keep q2r.out (Kp.setLoc (T := inner) (i := 9) (v := .bool a.head.hasValue) q2u.out (by decide)))
  clear q2r
  have q2y := hide (Strs.keep q2s.out (Kp.setLoc (T := [9]) (i := 9) (v := .bool a.head.hasValue) q2u.out (by decide)) (by decide))
  clear q2s
  have q2z := hide (loc_other (p := ⟨w.heap.size + 1, 9, none⟩) (v := .bool a.head.hasValue) q2t.out q0.out)
  have q2A := hide (loc_set (i := 9) (v := .bool a.head.hasValue) q2u.out)
  clear q2t q2u
  have BW118 := hide (below_set BW117.out G1.out 9 (.bool a.head.hasValue))
  clear BW117
  have q2B := hide (Prems.keep q2v.out (Kp.setLoc (T := inner) (i := 10) (v := .int .i64 a.head.value) q2A.out (by decide)))
  clear q2v
  have q2C := hide (Strs.keep q2w.out (Kp.setLoc (T := [9]) (i := 10) (v := .int .i64 a.head.value) q2A.out (by decide)) (by decide))
  clear q2w
  have q2D := hide (Prems.keep q2x.out (Kp.setLoc (T := inner) (i := 10) (v := .int .i64 a.head.value) q2A.out (by decide)))
  clear q2x
  have q2E := hide (Strs.keep q2y.out (Kp.setLoc (T := [9]) (i := 10) (v := .int .i64 a.head.value) q2A.out (by decide)) (by decide))
  clear q2y
  have q2F := hide (loc_other (p := ⟨w.heap.size + 1, 10, none⟩) (v := .int .i64 a.head.value) q2z.out q0.out)
  have q2G := hide (loc_set (i := 10) (v := .int .i64 a.head.value) q2A.out)
  clear q2z q2A
  have BW119 := hide (below_set BW118.out G1.out 10 (.int .i64 a.head.value))
  clear BW118
  exact ⟨⟨_, _, rfl, q2D.out, q2E.out⟩, BW119.out⟩

set_option maxRecDepth 100000 in
set_option maxHeartbeats 3200000 in
theorem copy_CopyRuleTexts {Z : Nat → Prop} (l : List RuleM) (va : Value) (w : World) (ha : Rows Z 100 11 (cRule Z) w l va) (hl : l.length ≤ 1000000000) (hi : ∀ a, a ∈ l → SmallRule a) :
    Calls Tryz.prog 42 #[va] w fun e w' => ∃ v, e = .returned v ∧ Rows (New w) 100 11 (cRule (New w)) w' l v ∧ Below w.heap.size w w' := by
  obtain ⟨iM, hiM, zM0, zM1, zM2⟩ := info_parts' info_rule
  have HA := hide ha
  obtain ⟨aa, ca, rfl⟩ := rows_form ha
  clear ha
  go_enter Tryz.func42, Tryz.ntmps42
  go_wp2_with fail
  go_loopw [3, 4] (fun x z wr => ∃ k : Nat, k ≤ l.length ∧ z = .int .i64 k ∧ Hid (Rows (New w) 100 11 (cRule (New w)) wr (l.take k) x) ∧ Hid (Below w.heap.size w wr)) (fun _ z _ => l.length - (intOf z).toNat)
  case atStart => exact ⟨0, by omega, rfl, hide (Rows.nil _ _ _ _ _), hide (Below.refl _ w)⟩
  case round =>
    obtain ⟨k, hk, rfl, HV, HW⟩ := hrel
    by_cases hlt : k < l.length
    · obtain ⟨t, ht⟩ : ∃ t, l[k]? = some t := ⟨l[k], by simp [hlt]⟩
      obtain ⟨ga, xa, ya, e1, _, ⟨av0, av1, rfl, hs0, hs1⟩, h2⟩ := (HA.out.keep (T := [100]) (Kp.of_below HW.out) (by decide) (fun _ _ h => h.keep (Kp.of_below HW.out))).at ht
      simp only [Value.slice.injEq] at e1
      obtain ⟨rfl, _, rfl⟩ := e1
      have a0 : wr.cell? ⟨ga, k * 11, none⟩ = some (.string ⟨t.name.toArray⟩) := by have := h2 0 _ rfl; simpa using this
      have a1 : wr.cell? ⟨ga, k * 11 + 1, none⟩ = some (.string ⟨t.source.toArray⟩) := by have := h2 1 _ rfl; simpa using this
      have a2 : wr.cell? ⟨ga, k * 11 + 2, none⟩ = some (.int .i64 t.day) := by have := h2 2 _ rfl; simpa using this
      have a3 : wr.cell? ⟨ga, k * 11 + 3, none⟩ = some (.int .i64 t.till) := by have := h2 3 _ rfl; simpa using this
      have a4 : wr.cell? ⟨ga, k * 11 + 4, none⟩ = some (av0) := by have := h2 4 _ rfl; simpa using this
      have a5 : wr.cell? ⟨ga, k * 11 + 5, none⟩ = some (.int .i64 t.arrow) := by have := h2 5 _ rfl; simpa using this
      have a6 : wr.cell? ⟨ga, k * 11 + 6, none⟩ = some (.bool t.head.neg) := by have := h2 6 _ rfl; simpa using this
      have a7 : wr.cell? ⟨ga, k * 11 + 7, none⟩ = some (.string ⟨t.head.pred.toArray⟩) := by have := h2 7 _ rfl; simpa using this
      have a8 : wr.cell? ⟨ga, k * 11 + 8, none⟩ = some (av1) := by have := h2 8 _ rfl; simpa using this
      have a9 : wr.cell? ⟨ga, k * 11 + 9, none⟩ = some (.bool t.head.hasValue) := by have := h2 9 _ rfl; simpa using this
      have a10 : wr.cell? ⟨ga, k * 11 + 10, none⟩ = some (.int .i64 t.head.value) := by have := h2 10 _ rfl; simpa using this
      have hit := hi t (List.mem_of_getElem? ht)
      have HS := hide (take_snoc ht)
      obtain ⟨xs, hrow, hold⟩ := HV.out
      have hln : (l.take k).length = k := by simp; omega
      obtain ⟨ta, tc, rfl⟩ := slice_form hrow.1
      rw [hln] at hrow
      have HROW := hide hrow
      have HOLD := hide hold
      have C := hide (copy_RuleText t av0 av1 wr hs0 hs1 hit)
      clear h2 ht hrow hold HV hit hs0 hs1
      rw [hln]
      go_wp2_with fail
      refine C.out.mono ?_
      rintro _ w2 ⟨v2, rfl, ⟨u0, u1, rfl, hv0, hv1⟩, hb⟩
      obtain ⟨p0, r0, rfl⟩ := rows_form hv0
      have HV0 := hide (Prems.mono hv0 fun g hg => Nat.le_trans HW.out.size hg)
      obtain ⟨p1, r1, rfl⟩ := rows_form hv1
      have HV1 := hide (Strs.mono hv1 fun g hg => Nat.le_trans HW.out.size hg)
      have HROW2 := hide (HROW.out.keep (Kp.of_below (T := [100]) hb) (by decide))
      have HC : Hid (∀ w0 w' b ys, Kp inner (New w) w0 w' → cRule (New w) w0 b ys → cRule (New w) w' b ys) := hide (fun _ _ _ _ hk h => h.keep hk)
      have HOLD2 : Hid (∀ i b, (l.take k)[i]? = some b → cRule (New w) w2 b ((xs.drop (i * 11)).take 11)) := hide fun i b hi => HC.out _ _ _ _ (Kp.of_below hb) (HOLD.out i b hi)
      have HW2 := hide (HW.out.trans (hb.mono HW.out.size))
      have HZ : Hid (∀ g, w2.heap.size ≤ g → New w g) := hide fun g hg => Nat.le_trans HW2.out.size hg
      have HSZ := hide HW2.out.size
      clear hb hv0 hv1 HROW HOLD HW C
      go_wp2_with (at_builtin; go_must (refine wpList_append_two _ rfl _ _ 27 rfl 0 100 iM _ 11 144 Tryz.underlying27 hiM zM0 zM1 zM2 rfl (by decide) _ _ _ rfl (HROW2.out.1.alloc _) ⟨w2.heap.size, 0, none⟩ 1 [.string ⟨t.name.toArray⟩, .string ⟨t.source.toArray⟩, .int .i64 t.day, .int .i64 t.till, .slice p0 t.body.length r0, .int .i64 t.arrow, .bool t.head.neg, .string ⟨t.head.pred.toArray⟩, .slice p1 t.head.args.length r1, .bool t.head.hasValue, .int .i64 t.head.value] rfl rfl (news_at rfl) (by simp [Value.oneCell']) (by unfold maxLen; omega) (by omega) (Nat.zero_le _) ?_))
      intro g cap w4 hown hg
      obtain ⟨p1, p2⟩ := put_more (T := inner) (B := w.heap.size) (a := t) rfl (by rw [hln]; exact HROW2.out) HOLD2.out ⟨_, _, rfl, HV0.out, HV1.out⟩ rfl HZ.out HC.out (by decide) (fun g hg => hg) HSZ.out (by rw [hln]; exact hown) hg
      rw [HS.out, hln] at p1
      have P1 := hide p1
      have P2 := hide (HW2.out.trans p2)
      clear p1 p2 hown hg HROW2 HOLD2 HW2 HZ HSZ HC
      go_wp2_with fail
      go_roundw
      case rel => exact ⟨k + 1, by omega, by go_num, P1, P2⟩
      case measure => simp [intOf]; omega
    · have ek : k = l.length := by omega
      subst ek
      rw [List.take_length] at HV
      go_wp2_with fail
      go_ret
      exact ⟨_, rfl, HV.out, HW.out⟩

end Go.Proofs.YthnjmfkiohgkkaaGreatDoor.Sy
