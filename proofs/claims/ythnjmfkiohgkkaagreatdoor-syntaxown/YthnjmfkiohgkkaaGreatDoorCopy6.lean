/- Copies of things that hold lists. By program (tools/gen5/c19.py). -/
import Derived.Test.YthnjmfkiohgkkaaGreatDoorCopy5
import Derived.Test.YthnjmfkiohgkkaaGreatDoorSameAll
namespace Go.Proofs.YthnjmfkiohgkkaaGreatDoor.Sy
open Go.RowKit

theorem two_new (w : World) (o0 o1 : Obj) : ((w.alloc o0).alloc o1).heap[w.heap.size]? = some o0 ∧ ((w.alloc o0).alloc o1).heap[w.heap.size + 1]? = some o1 := by
  refine ⟨?_, ?_⟩
  · rw [Go.heap_alloc_old _ _ (by simp)]; exact heap_alloc_new w _
  · have := heap_alloc_new (w.alloc o0) o1
    simpa using this

theorem below_set {B : Nat} {w w' : World} (h : Below B w w') {q : Nat} (hq : B ≤ q) (i : Nat) (v : Value) : Below B w (w'.setCell ⟨q, i, none⟩ v) :=
  ⟨h.os, h.tape, h.output, by simpa using h.size, fun k hk => (heap_setCell_other w' ⟨q, i, none⟩ k v (by show k ≠ q; omega)).trans (h.block k hk)⟩

set_option maxRecDepth 100000 in
set_option maxHeartbeats 3200000 in
theorem copy_TermText {Z : Nat → Prop} (a : TermM) (x0 : Value) (w : World) (hx0 : Strs Z w a.args x0) (hl : a.args.length ≤ 1000000000) :
    Calls Tryz.prog 201 #[.agg #[.int .i64 a.coef, .string ⟨a.pred.toArray⟩, x0, .int .i64 a.value]] w fun e w' => ∃ v, e = .returned v ∧ vTerm (New w) w' a v ∧ Below w.heap.size w w' := by
  obtain ⟨xa0, xc0, rfl⟩ := rows_form hx0
  have HX0 := hide hx0
  clear hx0
  go_enter Tryz.func201, Tryz.ntmps201
  have B0 : Below w.heap.size w ((w.alloc (.cells #[.int .i64 a.coef, .string ⟨a.pred.toArray⟩, .slice xa0 a.args.length xc0, .int .i64 a.value] 109)).alloc (.cells #[.int .i64 0, .string ⟨#[]⟩, .slice none 0 0, .int .i64 0] 109)) := below_two w _ _
  have G0 : Hid (w.heap.size ≤ w.heap.size) := hide (Nat.le_refl _)
  have G1 : Hid (w.heap.size ≤ w.heap.size + 1) := hide (Nat.le_succ _)
  have q0 : Hid (w.heap.size ≠ w.heap.size + 1) := hide (by omega)
  have q1 : Hid (w.heap.size + 1 ≠ w.heap.size) := hide (by omega)
  have LB0 := hide (two_new w (.cells #[.int .i64 a.coef, .string ⟨a.pred.toArray⟩, .slice xa0 a.args.length xc0, .int .i64 a.value] 109) (.cells #[.int .i64 0, .string ⟨#[]⟩, .slice none 0 0, .int .i64 0] 109)).1
  have LB1 := hide (two_new w (.cells #[.int .i64 a.coef, .string ⟨a.pred.toArray⟩, .slice xa0 a.args.length xc0, .int .i64 a.value] 109) (.cells #[.int .i64 0, .string ⟨#[]⟩, .slice none 0 0, .int .i64 0] 109)).2
  have q2 := hide (Strs.keep HX0.out (Kp.of_below (T := [9]) B0) (by decide))
  clear HX0
  have BW := hide B0
  clear B0
  have C1 := hide (copy_CopyStrings _ _ _ q2.out hl)
  go_wp2_with fail
  refine C1.out.mono ?_
  rintro _ w1 ⟨v1, rfl, hv, hb⟩
  have q3 := hide ((hb.block _ (loc_lt LB0.out)).trans LB0.out)
  clear LB0
  have q4 := hide ((hb.block _ (loc_lt LB1.out)).trans LB1.out)
  clear LB1
  have q5 := hide (Strs.keep q2.out (Kp.of_below (T := [9]) hb) (by decide))
  clear q2
  have q6 := hv
  clear hv
  obtain ⟨q7, q8, rfl⟩ := rows_form q6
  have q9 := hide (Strs.mono q6 fun g hg => Nat.le_trans BW.out.size hg)
  clear q6
  have BW1 := hide (BW.out.trans (hb.mono BW.out.size))
  clear hb C1 BW
  obtain ⟨qa, qb, qc, qd, y2⟩ := row4 q3.out
  obtain ⟨qe, qf, qg, qh, y3⟩ := row4 q4.out
  have x4 := q0.out
  have x5 := q1.out
  have qi := hide (Strs.keep q5.out (Kp.setLoc (T := [9]) (i := 2) (v := .slice q7 a.args.length q8) q3.out (by decide)) (by decide))
  clear q5
  have qj := hide (Strs.keep q9.out (Kp.setLoc (T := [9]) (i := 2) (v := .slice q7 a.args.length q8) q3.out (by decide)) (by decide))
  clear q9
  have qk := hide (loc_set (i := 2) (v := .slice q7 a.args.length q8) q3.out)
  have ql := hide (loc_other (p := ⟨w.heap.size, 2, none⟩) (v := .slice q7 a.args.length q8) q4.out q1.out)
  clear q3 q4
  have BW6 := hide (below_set BW1.out G0.out 2 (.slice q7 a.args.length q8))
  clear BW1
  go_wp2_with fail
  have hz := (And.intro qa (And.intro qb (And.intro qc (And.intro qd (And.intro y2 (And.intro qe (And.intro qf (And.intro qg (And.intro qh (And.intro y3 (And.intro x4 x5)))))))))))
  simp [bodyPost, results, Tryz.results201, go_sem, hz]
  have qm := hide (Strs.keep qi.out (Kp.setLoc (T := [9]) (i := 0) (v := .int .i64 a.coef) ql.out (by decide)) (by decide))
  clear qi
  have qn := hide (Strs.keep qj.out (Kp.setLoc (T := [9]) (i := 0) (v := .int .i64 a.coef) ql.out (by decide)) (by decide))
  clear qj
  have qo := hide (loc_other (p := ⟨w.heap.size + 1, 0, none⟩) (v := .int .i64 a.coef) qk.out q0.out)
  have qp := hide (loc_set (i := 0) (v := .int .i64 a.coef) ql.out)
  clear qk ql
  have BW7 := hide (below_set BW6.out G1.out 0 (.int .i64 a.coef))
  clear BW6
  have qq := hide (Strs.keep qm.out (Kp.setLoc (T := [9]) (i := 1) (v := .string ⟨a.pred.toArray⟩) qp.out (by decide)) (by decide))
  clear qm
  have qr := hide (Strs.keep qn.out (Kp.setLoc (T := [9]) (i := 1) (v := .string ⟨a.pred.toArray⟩) qp.out (by decide)) (by decide))
  clear qn
  have qs := hide (loc_other (p := ⟨w.heap.size + 1, 1, none⟩) (v := .string ⟨a.pred.toArray⟩) qo.out q0.out)
  have qt := hide (loc_set (i := 1) (v := .string ⟨a.pred.toArray⟩) qp.out)
  clear qo qp
  have BW8 := hide (below_set BW7.out G1.out 1 (.string ⟨a.pred.toArray⟩))
  clear BW7
  have qu := hide (Strs.keep qq.out (Kp.setLoc (T := [9]) (i := 2) (v := .slice q7 a.args.length q8) qt.out (by decide)) (by decide))
  clear qq
  have qv := hide (Strs.keep qr.out (Kp.setLoc (T := [9]) (i := 2) (v := .slice q7 a.args.length q8) qt.out (by decide)) (by decide))
  clear qr
  have qw := hide (loc_other (p := ⟨w.heap.size + 1, 2, none⟩) (v := .slice q7 a.args.length q8) qs.out q0.out)
  have qx := hide (loc_set (i := 2) (v := .slice q7 a.args.length q8) qt.out)
  clear qs qt
  have BW9 := hide (below_set BW8.out G1.out 2 (.slice q7 a.args.length q8))
  clear BW8
  have qy := hide (Strs.keep qu.out (Kp.setLoc (T := [9]) (i := 3) (v := .int .i64 a.value) qx.out (by decide)) (by decide))
  clear qu
  have qz := hide (Strs.keep qv.out (Kp.setLoc (T := [9]) (i := 3) (v := .int .i64 a.value) qx.out (by decide)) (by decide))
  clear qv
  have qA := hide (loc_other (p := ⟨w.heap.size + 1, 3, none⟩) (v := .int .i64 a.value) qw.out q0.out)
  have qB := hide (loc_set (i := 3) (v := .int .i64 a.value) qx.out)
  clear qw qx
  have BW10 := hide (below_set BW9.out G1.out 3 (.int .i64 a.value))
  clear BW9
  exact ⟨⟨_, rfl, qz.out⟩, BW10.out⟩

set_option maxRecDepth 100000 in
set_option maxHeartbeats 3200000 in
theorem copy_LitText {Z : Nat → Prop} (a : LitM) (x0 : Value) (w : World) (hx0 : Strs Z w a.args x0) (hl : a.args.length ≤ 1000000000) :
    Calls Tryz.prog 109 #[.agg #[.bool a.neg, .string ⟨a.pred.toArray⟩, x0, .bool a.hasValue, .int .i64 a.value]] w fun e w' => ∃ v, e = .returned v ∧ vLit (New w) w' a v ∧ Below w.heap.size w w' := by
  obtain ⟨xa0, xc0, rfl⟩ := rows_form hx0
  have HX0 := hide hx0
  clear hx0
  go_enter Tryz.func109, Tryz.ntmps109
  have B0 : Below w.heap.size w ((w.alloc (.cells #[.bool a.neg, .string ⟨a.pred.toArray⟩, .slice xa0 a.args.length xc0, .bool a.hasValue, .int .i64 a.value] 98)).alloc (.cells #[.bool false, .string ⟨#[]⟩, .slice none 0 0, .bool false, .int .i64 0] 98)) := below_two w _ _
  have G0 : Hid (w.heap.size ≤ w.heap.size) := hide (Nat.le_refl _)
  have G1 : Hid (w.heap.size ≤ w.heap.size + 1) := hide (Nat.le_succ _)
  have q0 : Hid (w.heap.size ≠ w.heap.size + 1) := hide (by omega)
  have q1 : Hid (w.heap.size + 1 ≠ w.heap.size) := hide (by omega)
  have LB0 := hide (two_new w (.cells #[.bool a.neg, .string ⟨a.pred.toArray⟩, .slice xa0 a.args.length xc0, .bool a.hasValue, .int .i64 a.value] 98) (.cells #[.bool false, .string ⟨#[]⟩, .slice none 0 0, .bool false, .int .i64 0] 98)).1
  have LB1 := hide (two_new w (.cells #[.bool a.neg, .string ⟨a.pred.toArray⟩, .slice xa0 a.args.length xc0, .bool a.hasValue, .int .i64 a.value] 98) (.cells #[.bool false, .string ⟨#[]⟩, .slice none 0 0, .bool false, .int .i64 0] 98)).2
  have q2 := hide (Strs.keep HX0.out (Kp.of_below (T := [9]) B0) (by decide))
  clear HX0
  have BW := hide B0
  clear B0
  have C11 := hide (copy_CopyStrings _ _ _ q2.out hl)
  go_wp2_with fail
  refine C11.out.mono ?_
  rintro _ w11 ⟨v11, rfl, hv, hb⟩
  have q3 := hide ((hb.block _ (loc_lt LB0.out)).trans LB0.out)
  clear LB0
  have q4 := hide ((hb.block _ (loc_lt LB1.out)).trans LB1.out)
  clear LB1
  have q5 := hide (Strs.keep q2.out (Kp.of_below (T := [9]) hb) (by decide))
  clear q2
  have q6 := hv
  clear hv
  obtain ⟨q7, q8, rfl⟩ := rows_form q6
  have q9 := hide (Strs.mono q6 fun g hg => Nat.le_trans BW.out.size hg)
  clear q6
  have BW11 := hide (BW.out.trans (hb.mono BW.out.size))
  clear hb C11 BW
  obtain ⟨qa, qb, qc, qd, qe, y12⟩ := row5 q3.out
  obtain ⟨qf, qg, qh, qi, qj, y13⟩ := row5 q4.out
  have x14 := q0.out
  have x15 := q1.out
  have qk := hide (Strs.keep q5.out (Kp.setLoc (T := [9]) (i := 2) (v := .slice q7 a.args.length q8) q3.out (by decide)) (by decide))
  clear q5
  have ql := hide (Strs.keep q9.out (Kp.setLoc (T := [9]) (i := 2) (v := .slice q7 a.args.length q8) q3.out (by decide)) (by decide))
  clear q9
  have qm := hide (loc_set (i := 2) (v := .slice q7 a.args.length q8) q3.out)
  have qn := hide (loc_other (p := ⟨w.heap.size, 2, none⟩) (v := .slice q7 a.args.length q8) q4.out q1.out)
  clear q3 q4
  have BW16 := hide (below_set BW11.out G0.out 2 (.slice q7 a.args.length q8))
  clear BW11
  go_wp2_with fail
  have hz := (And.intro qa (And.intro qb (And.intro qc (And.intro qd (And.intro qe (And.intro y12 (And.intro qf (And.intro qg (And.intro qh (And.intro qi (And.intro qj (And.intro y13 (And.intro x14 x15)))))))))))))
  simp [bodyPost, results, Tryz.results109, go_sem, hz]
  have qo := hide (Strs.keep qk.out (Kp.setLoc (T := [9]) (i := 0) (v := .bool a.neg) qn.out (by decide)) (by decide))
  clear qk
  have qp := hide (Strs.keep ql.out (Kp.setLoc (T := [9]) (i := 0) (v := .bool a.neg) qn.out (by decide)) (by decide))
  clear ql
  have qq := hide (loc_other (p := ⟨w.heap.size + 1, 0, none⟩) (v := .bool a.neg) qm.out q0.out)
  have qr := hide (loc_set (i := 0) (v := .bool a.neg) qn.out)
  clear qm qn
  have BW17 := hide (below_set BW16.out G1.out 0 (.bool a.neg))
  clear BW16
  have qs := hide (Strs.keep qo.out (Kp.setLoc (T := [9]) (i := 1) (v := .string ⟨a.pred.toArray⟩) qr.out (by decide)) (by decide))
  clear qo
  have qt := hide (Strs.keep qp.out (Kp.setLoc (T := [9]) (i := 1) (v := .string ⟨a.pred.toArray⟩) qr.out (by decide)) (by decide))
  clear qp
  have qu := hide (loc_other (p := ⟨w.heap.size + 1, 1, none⟩) (v := .string ⟨a.pred.toArray⟩) qq.out q0.out)
  have qv := hide (loc_set (i := 1) (v := .string ⟨a.pred.toArray⟩) qr.out)
  clear qq qr
  have BW18 := hide (below_set BW17.out G1.out 1 (.string ⟨a.pred.toArray⟩))
  clear BW17
  have qw := hide (Strs.keep qs.out (Kp.setLoc (T := [9]) (i := 2) (v := .slice q7 a.args.length q8) qv.out (by decide)) (by decide))
  clear qs
  have qx := hide (Strs.keep qt.out (Kp.setLoc (T := [9]) (i := 2) (v := .slice q7 a.args.length q8) qv.out (by decide)) (by decide))
  clear qt
  have qy := hide (loc_other (p := ⟨w.heap.size + 1, 2, none⟩) (v := .slice q7 a.args.length q8) qu.out q0.out)
  have qz := hide (loc_set (i := 2) (v := .slice q7 a.args.length q8) qv.out)
  clear qu qv
  have BW19 := hide (below_set BW18.out G1.out 2 (.slice q7 a.args.length q8))
  clear BW18
  have qA := hide (Strs.keep qw.out (Kp.setLoc (T := [9]) (i := 3) (v := .bool a.hasValue) qz.out (by decide)) (by decide))
  clear qw
  have qB := hide (Strs.keep qx.out (Kp.setLoc (T := [9]) (i := 3) (v := .bool a.hasValue) qz.out (by decide)) (by decide))
  clear qx
  have qC := hide (loc_other (p := ⟨w.heap.size + 1, 3, none⟩) (v := .bool a.hasValue) qy.out q0.out)
  have qD := hide (loc_set (i := 3) (v := .bool a.hasValue) qz.out)
  clear qy qz
  have BW20 := hide (below_set BW19.out G1.out 3 (.bool a.hasValue))
  clear BW19
  have qE := hide (Strs.keep qA.out (Kp.setLoc (T := [9]) (i := 4) (v := .int .i64 a.value) qD.out (by decide)) (by decide))
  clear qA
  have qF := hide (Strs.keep qB.out (Kp.setLoc (T := [9]) (i := 4) (v := .int .i64 a.value) qD.out (by decide)) (by decide))
  clear qB
  have qG := hide (loc_other (p := ⟨w.heap.size + 1, 4, none⟩) (v := .int .i64 a.value) qC.out q0.out)
  have qH := hide (loc_set (i := 4) (v := .int .i64 a.value) qD.out)
  clear qC qD
  have BW21 := hide (below_set BW20.out G1.out 4 (.int .i64 a.value))
  clear BW20
  exact ⟨⟨_, rfl, qF.out⟩, BW21.out⟩

set_option maxRecDepth 100000 in
set_option maxHeartbeats 3200000 in
theorem copy_Pred {Z : Nat → Prop} (a : PredM) (x0 : Value) (x1 : Value) (w : World) (hx0 : Strs Z w a.kinds x0) (hx1 : Moneys Z w a.values x1) (hl : a.kinds.length ≤ 1000000000) (hm : a.values.length ≤ 1000000000) :
    Calls Tryz.prog 63 #[.agg #[.string ⟨a.name.toArray⟩, .int .i64 a.sort, x0, x1]] w fun e w' => ∃ v, e = .returned v ∧ vPred (New w) w' a v ∧ Below w.heap.size w w' := by
  obtain ⟨xa0, xc0, rfl⟩ := rows_form hx0
  have HX0 := hide hx0
  clear hx0
  obtain ⟨xa1, xc1, rfl⟩ := rows_form hx1
  have HX1 := hide hx1
  clear hx1
  go_enter Tryz.func63, Tryz.ntmps63
  have B0 : Below w.heap.size w ((w.alloc (.cells #[.string ⟨a.name.toArray⟩, .int .i64 a.sort, .slice xa0 a.kinds.length xc0, .slice xa1 a.values.length xc1] 92)).alloc (.cells #[.string ⟨#[]⟩, .int .i64 0, .slice none 0 0, .slice none 0 0] 92)) := below_two w _ _
  have G0 : Hid (w.heap.size ≤ w.heap.size) := hide (Nat.le_refl _)
  have G1 : Hid (w.heap.size ≤ w.heap.size + 1) := hide (Nat.le_succ _)
  have q0 : Hid (w.heap.size ≠ w.heap.size + 1) := hide (by omega)
  have q1 : Hid (w.heap.size + 1 ≠ w.heap.size) := hide (by omega)
  have LB0 := hide (two_new w (.cells #[.string ⟨a.name.toArray⟩, .int .i64 a.sort, .slice xa0 a.kinds.length xc0, .slice xa1 a.values.length xc1] 92) (.cells #[.string ⟨#[]⟩, .int .i64 0, .slice none 0 0, .slice none 0 0] 92)).1
  have LB1 := hide (two_new w (.cells #[.string ⟨a.name.toArray⟩, .int .i64 a.sort, .slice xa0 a.kinds.length xc0, .slice xa1 a.values.length xc1] 92) (.cells #[.string ⟨#[]⟩, .int .i64 0, .slice none 0 0, .slice none 0 0] 92)).2
  have q2 := hide (Strs.keep HX0.out (Kp.of_below (T := [9]) B0) (by decide))
  clear HX0
  have q3 := hide (Moneys.keep HX1.out (Kp.of_below (T := [93]) B0) (by decide))
  clear HX1
  have BW := hide B0
  clear B0
  have C22 := hide (copy_CopyStrings _ _ _ q2.out hl)
  go_wp2_with fail
  refine C22.out.mono ?_
  rintro _ w22 ⟨v22, rfl, hv, hb⟩
  have q4 := hide ((hb.block _ (loc_lt LB0.out)).trans LB0.out)
  clear LB0
  have q5 := hide ((hb.block _ (loc_lt LB1.out)).trans LB1.out)
  clear LB1
  have q6 := hide (Strs.keep q2.out (Kp.of_below (T := [9]) hb) (by decide))
  clear q2
  have q7 := hide (Moneys.keep q3.out (Kp.of_below (T := [93]) hb) (by decide))
  clear q3
  have q8 := hv
  clear hv
  obtain ⟨q9, qa, rfl⟩ := rows_form q8
  have qb := hide (Strs.mono q8 fun g hg => Nat.le_trans BW.out.size hg)
  clear q8
  have BW22 := hide (BW.out.trans (hb.mono BW.out.size))
  clear hb C22 BW
  obtain ⟨qc, qd, qe, qf, y23⟩ := row4 q4.out
  obtain ⟨qg, qh, qi, qj, y24⟩ := row4 q5.out
  have x25 := q0.out
  have x26 := q1.out
  have qk := hide (Strs.keep q6.out (Kp.setLoc (T := [9]) (i := 2) (v := .slice q9 a.kinds.length qa) q4.out (by decide)) (by decide))
  clear q6
  have ql := hide (Moneys.keep q7.out (Kp.setLoc (T := [93]) (i := 2) (v := .slice q9 a.kinds.length qa) q4.out (by decide)) (by decide))
  clear q7
  have qm := hide (Strs.keep qb.out (Kp.setLoc (T := [9]) (i := 2) (v := .slice q9 a.kinds.length qa) q4.out (by decide)) (by decide))
  clear qb
  have qn := hide (loc_set (i := 2) (v := .slice q9 a.kinds.length qa) q4.out)
  have qo := hide (loc_other (p := ⟨w.heap.size, 2, none⟩) (v := .slice q9 a.kinds.length qa) q5.out q1.out)
  clear q4 q5
  have BW27 := hide (below_set BW22.out G0.out 2 (.slice q9 a.kinds.length qa))
  clear BW22
  have C28 := hide (copy_CopyMoney _ _ _ ql.out hm)
  go_wp2_with fail
  refine C28.out.mono ?_
  rintro _ w28 ⟨v28, rfl, hv, hb⟩
  clear qc qd qe qf y23 qg qh qi qj y24 x25 x26
  have qp := hide ((hb.block _ (loc_lt qn.out)).trans qn.out)
  clear qn
  have qq := hide ((hb.block _ (loc_lt qo.out)).trans qo.out)
  clear qo
  have qr := hide (Strs.keep qk.out (Kp.of_below (T := [9]) hb) (by decide))
  clear qk
  have qs := hide (Moneys.keep ql.out (Kp.of_below (T := [93]) hb) (by decide))
  clear ql
  have qt := hide (Strs.keep qm.out (Kp.of_below (T := [9]) hb) (by decide))
  clear qm
  have qu := hv
  clear hv
  obtain ⟨qv, qw, rfl⟩ := rows_form qu
  have qx := hide (Moneys.mono qu fun g hg => Nat.le_trans BW27.out.size hg)
  clear qu
  have BW28 := hide (BW27.out.trans (hb.mono BW27.out.size))
  clear hb C28 BW27
  obtain ⟨qy, qz, qA, qB, y29⟩ := row4 qp.out
  obtain ⟨qC, qD, qE, qF, y30⟩ := row4 qq.out
  have x31 := q0.out
  have x32 := q1.out
  have qG := hide (Strs.keep qr.out (Kp.setLoc (T := [9]) (i := 3) (v := .slice qv a.values.length qw) qp.out (by decide)) (by decide))
  clear qr
  have qH := hide (Moneys.keep qs.out (Kp.setLoc (T := [93]) (i := 3) (v := .slice qv a.values.length qw) qp.out (by decide)) (by decide))
  clear qs
  have qI := hide (Strs.keep qt.out (Kp.setLoc (T := [9]) (i := 3) (v := .slice qv a.values.length qw) qp.out (by decide)) (by decide))
  clear qt
  have qJ := hide (Moneys.keep qx.out (Kp.setLoc (T := [93]) (i := 3) (v := .slice qv a.values.length qw) qp.out (by decide)) (by decide))
  clear qx
  have qK := hide (loc_set (i := 3) (v := .slice qv a.values.length qw) qp.out)
  have qL := hide (loc_other (p := ⟨w.heap.size, 3, none⟩) (v := .slice qv a.values.length qw) qq.out q1.out)
  clear qp qq
  have BW33 := hide (below_set BW28.out G0.out 3 (.slice qv a.values.length qw))
  clear BW28
  go_wp2_with fail
  have hz := (And.intro qy (And.intro qz (And.intro qA (And.intro qB (And.intro y29 (And.intro qC (And.intro qD (And.intro qE (And.intro qF (And.intro y30 (And.intro x31 x32)))))))))))
  simp [bodyPost, results, Tryz.results63, go_sem, hz]
  have qM := hide (Strs.keep qG.out (Kp.setLoc (T := [9]) (i := 0) (v := .string ⟨a.name.toArray⟩) qL.out (by decide)) (by decide))
  clear qG
  have qN := hide (Moneys.keep qH.out (Kp.setLoc (T := [93]) (i := 0) (v := .string ⟨a.name.toArray⟩) qL.out (by decide)) (by decide))
  clear qH
  have qO := hide (Strs.keep qI.out (Kp.setLoc (T := [9]) (i := 0) (v := .string ⟨a.name.toArray⟩) qL.out (by decide)) (by decide))
  clear qI
  have qP := hide (Moneys.keep qJ.out (Kp.setLoc (T := [93]) (i := 0) (v := .string ⟨a.name.toArray⟩) qL.out (by decide)) (by decide))
  clear qJ
  have qQ := hide (loc_other (p := ⟨w.heap.size + 1, 0, none⟩) (v := .string ⟨a.name.toArray⟩) qK.out q0.out)
  have qR := hide (loc_set (i := 0) (v := .string ⟨a.name.toArray⟩) qL.out)
  clear qK qL
  have BW34 := hide (below_set BW33.out G1.out 0 (.string ⟨a.name.toArray⟩))
  clear BW33
  have qS := hide (Strs.keep qM.out (Kp.setLoc (T := [9]) (i := 1) (v := .int .i64 a.sort) qR.out (by decide)) (by decide))
  clear qM
  have qT := hide (Moneys.keep qN.out (Kp.setLoc (T := [93]) (i := 1) (v := .int .i64 a.sort) qR.out (by decide)) (by decide))
  clear qN
  have qU := hide (Strs.keep qO.out (Kp.setLoc (T := [9]) (i := 1) (v := .int .i64 a.sort) qR.out (by decide)) (by decide))
  clear qO
  have qV := hide (Moneys.keep qP.out (Kp.setLoc (T := [93]) (i := 1) (v := .int .i64 a.sort) qR.out (by decide)) (by decide))
  clear qP
  have qW := hide (loc_other (p := ⟨w.heap.size + 1, 1, none⟩) (v := .int .i64 a.sort) qQ.out q0.out)
  have qX := hide (loc_set (i := 1) (v := .int .i64 a.sort) qR.out)
  clear qQ qR
  have BW35 := hide (below_set BW34.out G1.out 1 (.int .i64 a.sort))
  clear BW34
  have qY := hide (Strs.keep qS.out (Kp.setLoc (T := [9]) (i := 2) (v := .slice q9 a.kinds.length qa) qX.out (by decide)) (by decide))
  clear qS
  have qZ := hide (Moneys.keep qT.out (Kp.setLoc (T := [93]) (i := 2) (v := .slice q9 a.kinds.length qa) qX.out (by decide)) (by decide))
  clear qT
  have q10 := hide (Strs.keep qU.out (Kp.setLoc (T := [9]) (i := 2) (v := .slice q9 a.kinds.length qa) qX.out (by decide)) (by decide))
  clear qU
  have q11 := hide (Moneys.keep qV.out (Kp.setLoc (T := [93]) (i := 2) (v := .slice q9 a.kinds.length qa) qX.out (by decide)) (by decide))
  clear qV
  have q12 := hide (loc_other (p := ⟨w.heap.size + 1, 2, none⟩) (v := .slice q9 a.kinds.length qa) qW.out q0.out)
  have q13 := hide (loc_set (i := 2) (v := .slice q9 a.kinds.length qa) qX.out)
  clear qW qX
  have BW36 := hide (below_set BW35.out G1.out 2 (.slice q9 a.kinds.length qa))
  clear BW35
  have q14 := hide (Strs.keep qY.out (Kp.setLoc (T := [9]) (i := 3) (v := .slice qv a.values.length qw) q13.out (by decide)) (by decide))
  clear qY
  have q15 := hide (Moneys.keep qZ.out (Kp.setLoc (T := [93]) (i := 3) (v := .slice qv a.values.length qw) q13.out (by decide)) (by decide))
  clear qZ
  have q16 := hide (Strs.keep q10.out (Kp.setLoc (T := [9]) (i := 3) (v := .slice qv a.values.length qw) q13.out (by decide)) (by decide))
  clear q10
  have q17 := hide (Moneys.keep q11.out (Kp.setLoc (T := [93]) (i := 3) (v := .slice qv a.values.length qw) q13.out (by decide)) (by decide))
  clear q11
  have q18 := hide (loc_other (p := ⟨w.heap.size + 1, 3, none⟩) (v := .slice qv a.values.length qw) q12.out q0.out)
  have q19 := hide (loc_set (i := 3) (v := .slice qv a.values.length qw) q13.out)
  clear q12 q13
  have BW37 := hide (below_set BW36.out G1.out 3 (.slice qv a.values.length qw))
  clear BW36
  exact ⟨⟨_, _, rfl, q16.out, q17.out⟩, BW37.out⟩

set_option maxRecDepth 100000 in
set_option maxHeartbeats 3200000 in
theorem copy_Total {Z : Nat → Prop} (a : TotalM) (x0 : Value) (w : World) (hx0 : Strs Z w a.preds x0) (hl : a.preds.length ≤ 1000000000) :
    Calls Tryz.prog 65 #[.agg #[.string ⟨a.name.toArray⟩, .string ⟨a.kind.toArray⟩, x0, .bool a.hasCap, .int .i64 a.cap]] w fun e w' => ∃ v, e = .returned v ∧ vTotal (New w) w' a v ∧ Below w.heap.size w w' := by
  obtain ⟨xa0, xc0, rfl⟩ := rows_form hx0
  have HX0 := hide hx0
  clear hx0
  go_enter Tryz.func65, Tryz.ntmps65
  have B0 : Below w.heap.size w ((w.alloc (.cells #[.string ⟨a.name.toArray⟩, .string ⟨a.kind.toArray⟩, .slice xa0 a.preds.length xc0, .bool a.hasCap, .int .i64 a.cap] 111)).alloc (.cells #[.string ⟨#[]⟩, .string ⟨#[]⟩, .slice none 0 0, .bool false, .int .i64 0] 111)) := below_two w _ _
  have G0 : Hid (w.heap.size ≤ w.heap.size) := hide (Nat.le_refl _)
  have G1 : Hid (w.heap.size ≤ w.heap.size + 1) := hide (Nat.le_succ _)
  have q0 : Hid (w.heap.size ≠ w.heap.size + 1) := hide (by omega)
  have q1 : Hid (w.heap.size + 1 ≠ w.heap.size) := hide (by omega)
  have LB0 := hide (two_new w (.cells #[.string ⟨a.name.toArray⟩, .string ⟨a.kind.toArray⟩, .slice xa0 a.preds.length xc0, .bool a.hasCap, .int .i64 a.cap] 111) (.cells #[.string ⟨#[]⟩, .string ⟨#[]⟩, .slice none 0 0, .bool false, .int .i64 0] 111)).1
  have LB1 := hide (two_new w (.cells #[.string ⟨a.name.toArray⟩, .string ⟨a.kind.toArray⟩, .slice xa0 a.preds.length xc0, .bool a.hasCap, .int .i64 a.cap] 111) (.cells #[.string ⟨#[]⟩, .string ⟨#[]⟩, .slice none 0 0, .bool false, .int .i64 0] 111)).2
  have q2 := hide (Strs.keep HX0.out (Kp.of_below (T := [9]) B0) (by decide))
  clear HX0
  have BW := hide B0
  clear B0
  have C38 := hide (copy_CopyStrings _ _ _ q2.out hl)
  go_wp2_with fail
  refine C38.out.mono ?_
  rintro _ w38 ⟨v38, rfl, hv, hb⟩
  have q3 := hide ((hb.block _ (loc_lt LB0.out)).trans LB0.out)
  clear LB0
  have q4 := hide ((hb.block _ (loc_lt LB1.out)).trans LB1.out)
  clear LB1
  have q5 := hide (Strs.keep q2.out (Kp.of_below (T := [9]) hb) (by decide))
  clear q2
  have q6 := hv
  clear hv
  obtain ⟨q7, q8, rfl⟩ := rows_form q6
  have q9 := hide (Strs.mono q6 fun g hg => Nat.le_trans BW.out.size hg)
  clear q6
  have BW38 := hide (BW.out.trans (hb.mono BW.out.size))
  clear hb C38 BW
  obtain ⟨qa, qb, qc, qd, qe, y39⟩ := row5 q3.out
  obtain ⟨qf, qg, qh, qi, qj, y40⟩ := row5 q4.out
  have x41 := q0.out
  have x42 := q1.out
  have qk := hide (Strs.keep q5.out (Kp.setLoc (T := [9]) (i := 2) (v := .slice q7 a.preds.length q8) q3.out (by decide)) (by decide))
  clear q5
  have ql := hide (Strs.keep q9.out (Kp.setLoc (T := [9]) (i := 2) (v := .slice q7 a.preds.length q8) q3.out (by decide)) (by decide))
  clear q9
  have qm := hide (loc_set (i := 2) (v := .slice q7 a.preds.length q8) q3.out)
  have qn := hide (loc_other (p := ⟨w.heap.size, 2, none⟩) (v := .slice q7 a.preds.length q8) q4.out q1.out)
  clear q3 q4
  have BW43 := hide (below_set BW38.out G0.out 2 (.slice q7 a.preds.length q8))
  clear BW38
  go_wp2_with fail
  have hz := (And.intro qa (And.intro qb (And.intro qc (And.intro qd (And.intro qe (And.intro y39 (And.intro qf (And.intro qg (And.intro qh (And.intro qi (And.intro qj (And.intro y40 (And.intro x41 x42)))))))))))))
  simp [bodyPost, results, Tryz.results65, go_sem, hz]
  have qo := hide (Strs.keep qk.out (Kp.setLoc (T := [9]) (i := 0) (v := .string ⟨a.name.toArray⟩) qn.out (by decide)) (by decide))
  clear qk
  have qp := hide (Strs.keep ql.out (Kp.setLoc (T := [9]) (i := 0) (v := .string ⟨a.name.toArray⟩) qn.out (by decide)) (by decide))
  clear ql
  have qq := hide (loc_other (p := ⟨w.heap.size + 1, 0, none⟩) (v := .string ⟨a.name.toArray⟩) qm.out q0.out)
  have qr := hide (loc_set (i := 0) (v := .string ⟨a.name.toArray⟩) qn.out)
  clear qm qn
  have BW44 := hide (below_set BW43.out G1.out 0 (.string ⟨a.name.toArray⟩))
  clear BW43
  have qs := hide (Strs.keep qo.out (Kp.setLoc (T := [9]) (i := 1) (v := .string ⟨a.kind.toArray⟩) qr.out (by decide)) (by decide))
  clear qo
  have qt := hide (Strs.keep qp.out (Kp.setLoc (T := [9]) (i := 1) (v := .string ⟨a.kind.toArray⟩) qr.out (by decide)) (by decide))
  clear qp
  have qu := hide (loc_other (p := ⟨w.heap.size + 1, 1, none⟩) (v := .string ⟨a.kind.toArray⟩) qq.out q0.out)
  have qv := hide (loc_set (i := 1) (v := .string ⟨a.kind.toArray⟩) qr.out)
  clear qq qr
  have BW45 := hide (below_set BW44.out G1.out 1 (.string ⟨a.kind.toArray⟩))
  clear BW44
  have qw := hide (Strs.keep qs.out (Kp.setLoc (T := [9]) (i := 2) (v := .slice q7 a.preds.length q8) qv.out (by decide)) (by decide))
  clear qs
  have qx := hide (Strs.keep qt.out (Kp.setLoc (T := [9]) (i := 2) (v := .slice q7 a.preds.length q8) qv.out (by decide)) (by decide))
  clear qt
  have qy := hide (loc_other (p := ⟨w.heap.size + 1, 2, none⟩) (v := .slice q7 a.preds.length q8) qu.out q0.out)
  have qz := hide (loc_set (i := 2) (v := .slice q7 a.preds.length q8) qv.out)
  clear qu qv
  have BW46 := hide (below_set BW45.out G1.out 2 (.slice q7 a.preds.length q8))
  clear BW45
  have qA := hide (Strs.keep qw.out (Kp.setLoc (T := [9]) (i := 3) (v := .bool a.hasCap) qz.out (by decide)) (by decide))
  clear qw
  have qB := hide (Strs.keep qx.out (Kp.setLoc (T := [9]) (i := 3) (v := .bool a.hasCap) qz.out (by decide)) (by decide))
  clear qx
  have qC := hide (loc_other (p := ⟨w.heap.size + 1, 3, none⟩) (v := .bool a.hasCap) qy.out q0.out)
  have qD := hide (loc_set (i := 3) (v := .bool a.hasCap) qz.out)
  clear qy qz
  have BW47 := hide (below_set BW46.out G1.out 3 (.bool a.hasCap))
  clear BW46
  have qE := hide (Strs.keep qA.out (Kp.setLoc (T := [9]) (i := 4) (v := .int .i64 a.cap) qD.out (by decide)) (by decide))
  clear qA
  have qF := hide (Strs.keep qB.out (Kp.setLoc (T := [9]) (i := 4) (v := .int .i64 a.cap) qD.out (by decide)) (by decide))
  clear qB
  have qG := hide (loc_other (p := ⟨w.heap.size + 1, 4, none⟩) (v := .int .i64 a.cap) qC.out q0.out)
  have qH := hide (loc_set (i := 4) (v := .int .i64 a.cap) qD.out)
  clear qC qD
  have BW48 := hide (below_set BW47.out G1.out 4 (.int .i64 a.cap))
  clear BW47
  exact ⟨⟨_, rfl, qF.out⟩, BW48.out⟩

set_option maxRecDepth 100000 in
set_option maxHeartbeats 3200000 in
theorem copy_CopyTermTexts {Z : Nat → Prop} (l : List TermM) (va : Value) (w : World) (ha : Rows Z 109 4 (cTerm Z) w l va) (hl : l.length ≤ 1000000000) (hi : ∀ a, a ∈ l → a.args.length ≤ 1000000000) :
    Calls Tryz.prog 183 #[va] w fun e w' => ∃ v, e = .returned v ∧ Rows (New w) 109 4 (cTerm (New w)) w' l v ∧ Below w.heap.size w w' := by
  obtain ⟨iM, hiM, zM0, zM1, zM2⟩ := info_parts' info_term
  have HA := hide ha
  obtain ⟨aa, ca, rfl⟩ := rows_form ha
  clear ha
  go_enter Tryz.func183, Tryz.ntmps183
  go_wp2_with fail
  go_loopw [3, 4] (fun x z wr => ∃ k : Nat, k ≤ l.length ∧ z = .int .i64 k ∧ Hid (Rows (New w) 109 4 (cTerm (New w)) wr (l.take k) x) ∧ Hid (Below w.heap.size w wr)) (fun _ z _ => l.length - (intOf z).toNat)
  case atStart => exact ⟨0, by omega, rfl, hide (Rows.nil _ _ _ _ _), hide (Below.refl _ w)⟩
  case round =>
    obtain ⟨k, hk, rfl, HV, HW⟩ := hrel
    by_cases hlt : k < l.length
    · obtain ⟨t, ht⟩ : ∃ t, l[k]? = some t := ⟨l[k], by simp [hlt]⟩
      obtain ⟨ga, xa, ya, e1, _, ⟨av0, rfl, hs0⟩, h2⟩ := (HA.out.keep (T := [9, 109]) (Kp.of_below HW.out) (by decide) (fun _ _ h => h.keep (T := [9, 109]) (Kp.of_below HW.out) (by decide))).at ht
      simp only [Value.slice.injEq] at e1
      obtain ⟨rfl, _, rfl⟩ := e1
      have a0 : wr.cell? ⟨ga, k * 4, none⟩ = some (.int .i64 t.coef) := by have := h2 0 _ rfl; simpa using this
      have a1 : wr.cell? ⟨ga, k * 4 + 1, none⟩ = some (.string ⟨t.pred.toArray⟩) := by have := h2 1 _ rfl; simpa using this
      have a2 : wr.cell? ⟨ga, k * 4 + 2, none⟩ = some (av0) := by have := h2 2 _ rfl; simpa using this
      have a3 : wr.cell? ⟨ga, k * 4 + 3, none⟩ = some (.int .i64 t.value) := by have := h2 3 _ rfl; simpa using this
      have hit := hi t (List.mem_of_getElem? ht)
      have HS := hide (take_snoc ht)
      obtain ⟨xs, hrow, hold⟩ := HV.out
      have hln : (l.take k).length = k := by simp; omega
      obtain ⟨ta, tc, rfl⟩ := slice_form hrow.1
      rw [hln] at hrow
      have HROW := hide hrow
      have HOLD := hide hold
      have C := hide (copy_TermText t av0 wr hs0 hit)
      clear h2 ht hrow hold HV hit hs0
      rw [hln]
      go_wp2_with fail
      refine C.out.mono ?_
      rintro _ w2 ⟨v2, rfl, ⟨u0, rfl, hv0⟩, hb⟩
      obtain ⟨p0, r0, rfl⟩ := rows_form hv0
      have HV0 := hide (Strs.mono hv0 fun g hg => Nat.le_trans HW.out.size hg)
      have HROW2 := hide (HROW.out.keep (Kp.of_below (T := [109]) hb) (by decide))
      have HC : Hid (∀ w0 w' b ys, Kp [9] (New w) w0 w' → cTerm (New w) w0 b ys → cTerm (New w) w' b ys) := hide (fun _ _ _ _ hk h => h.keep hk (by decide))
      have HOLD2 : Hid (∀ i b, (l.take k)[i]? = some b → cTerm (New w) w2 b ((xs.drop (i * 4)).take 4)) := hide fun i b hi => HC.out _ _ _ _ (Kp.of_below hb) (HOLD.out i b hi)
      have HW2 := hide (HW.out.trans (hb.mono HW.out.size))
      have HZ : Hid (∀ g, w2.heap.size ≤ g → New w g) := hide fun g hg => Nat.le_trans HW2.out.size hg
      have HSZ := hide HW2.out.size
      clear hb hv0 HROW HOLD HW C
      go_wp2_with (at_builtin; go_must (refine wpList_append_two _ rfl _ _ 102 rfl 0 109 iM _ 4 56 Tryz.underlying102 hiM zM0 zM1 zM2 rfl (by decide) _ _ _ rfl (HROW2.out.1.alloc _) ⟨w2.heap.size, 0, none⟩ 1 [.int .i64 t.coef, .string ⟨t.pred.toArray⟩, .slice p0 t.args.length r0, .int .i64 t.value] rfl rfl (news_at rfl) (by simp [Value.oneCell']) (by unfold maxLen; omega) (by omega) (Nat.zero_le _) ?_))
      intro g cap w4 hown hg
      obtain ⟨p1, p2⟩ := put_more (T := [9]) (B := w.heap.size) (a := t) rfl (by rw [hln]; exact HROW2.out) HOLD2.out ⟨_, rfl, HV0.out⟩ rfl HZ.out HC.out (by decide) (fun g hg => hg) HSZ.out (by rw [hln]; exact hown) hg
      rw [HS.out, hln] at p1
      have P1 := hide p1
      have P2 := hide (HW2.out.trans p2)
      clear p1 p2 hown hg HROW2 HOLD2 HW2 HZ HSZ HC
      go_wp2_with fail
      go_roundw
      case rel => exact ⟨k + 1, by omega, by go_num, P1, P2⟩
      case measure => simp [intOf]; omega
    · have ek : k = l.length := by omega
      subst ek
      rw [List.take_length] at HV
      go_wp2_with fail
      go_ret
      exact ⟨_, rfl, HV.out, HW.out⟩

set_option maxRecDepth 100000 in
set_option maxHeartbeats 3200000 in
theorem copy_CopyPreds {Z : Nat → Prop} (l : List PredM) (va : Value) (w : World) (ha : Rows Z 92 4 (cPred Z) w l va) (hl : l.length ≤ 1000000000) (hi : ∀ a, a ∈ l → a.kinds.length ≤ 1000000000 ∧ a.values.length ≤ 1000000000) :
    Calls Tryz.prog 39 #[va] w fun e w' => ∃ v, e = .returned v ∧ Rows (New w) 92 4 (cPred (New w)) w' l v ∧ Below w.heap.size w w' := by
  obtain ⟨iM, hiM, zM0, zM1, zM2⟩ := info_parts' info_pred
  have HA := hide ha
  obtain ⟨aa, ca, rfl⟩ := rows_form ha
  clear ha
  go_enter Tryz.func39, Tryz.ntmps39
  go_wp2_with fail
  go_loopw [3, 4] (fun x z wr => ∃ k : Nat, k ≤ l.length ∧ z = .int .i64 k ∧ Hid (Rows (New w) 92 4 (cPred (New w)) wr (l.take k) x) ∧ Hid (Below w.heap.size w wr)) (fun _ z _ => l.length - (intOf z).toNat)
  case atStart => exact ⟨0, by omega, rfl, hide (Rows.nil _ _ _ _ _), hide (Below.refl _ w)⟩
  case round =>
    obtain ⟨k, hk, rfl, HV, HW⟩ := hrel
    by_cases hlt : k < l.length
    · obtain ⟨t, ht⟩ : ∃ t, l[k]? = some t := ⟨l[k], by simp [hlt]⟩
      obtain ⟨ga, xa, ya, e1, _, ⟨av0, av1, rfl, hs0, hs1⟩, h2⟩ := (HA.out.keep (T := [92]) (Kp.of_below HW.out) (by decide) (fun _ _ h => h.keep (Kp.of_below HW.out))).at ht
      simp only [Value.slice.injEq] at e1
      obtain ⟨rfl, _, rfl⟩ := e1
      have a0 : wr.cell? ⟨ga, k * 4, none⟩ = some (.string ⟨t.name.toArray⟩) := by have := h2 0 _ rfl; simpa using this
      have a1 : wr.cell? ⟨ga, k * 4 + 1, none⟩ = some (.int .i64 t.sort) := by have := h2 1 _ rfl; simpa using this
      have a2 : wr.cell? ⟨ga, k * 4 + 2, none⟩ = some (av0) := by have := h2 2 _ rfl; simpa using this
      have a3 : wr.cell? ⟨ga, k * 4 + 3, none⟩ = some (av1) := by have := h2 3 _ rfl; simpa using this
      have hit := hi t (List.mem_of_getElem? ht)
      have HS := hide (take_snoc ht)
      obtain ⟨xs, hrow, hold⟩ := HV.out
      have hln : (l.take k).length = k := by simp; omega
      obtain ⟨ta, tc, rfl⟩ := slice_form hrow.1
      rw [hln] at hrow
      have HROW := hide hrow
      have HOLD := hide hold
      have C := hide (copy_Pred t av0 av1 wr hs0 hs1 hit.1 hit.2)
      clear h2 ht hrow hold HV hit hs0 hs1
      rw [hln]
      go_wp2_with fail
      refine C.out.mono ?_
      rintro _ w2 ⟨v2, rfl, ⟨u0, u1, rfl, hv0, hv1⟩, hb⟩
      obtain ⟨p0, r0, rfl⟩ := rows_form hv0
      have HV0 := hide (Strs.mono hv0 fun g hg => Nat.le_trans HW.out.size hg)
      obtain ⟨p1, r1, rfl⟩ := rows_form hv1
      have HV1 := hide (Moneys.mono hv1 fun g hg => Nat.le_trans HW.out.size hg)
      have HROW2 := hide (HROW.out.keep (Kp.of_below (T := [92]) hb) (by decide))
      have HC : Hid (∀ w0 w' b ys, Kp inner (New w) w0 w' → cPred (New w) w0 b ys → cPred (New w) w' b ys) := hide (fun _ _ _ _ hk h => h.keep hk)
      have HOLD2 : Hid (∀ i b, (l.take k)[i]? = some b → cPred (New w) w2 b ((xs.drop (i * 4)).take 4)) := hide fun i b hi => HC.out _ _ _ _ (Kp.of_below hb) (HOLD.out i b hi)
      have HW2 := hide (HW.out.trans (hb.mono HW.out.size))
      have HZ : Hid (∀ g, w2.heap.size ≤ g → New w g) := hide fun g hg => Nat.le_trans HW2.out.size hg
      have HSZ := hide HW2.out.size
      clear hb hv0 hv1 HROW HOLD HW C
      go_wp2_with (at_builtin; go_must (refine wpList_append_two _ rfl _ _ 24 rfl 0 92 iM _ 4 72 Tryz.underlying24 hiM zM0 zM1 zM2 rfl (by decide) _ _ _ rfl (HROW2.out.1.alloc _) ⟨w2.heap.size, 0, none⟩ 1 [.string ⟨t.name.toArray⟩, .int .i64 t.sort, .slice p0 t.kinds.length r0, .slice p1 t.values.length r1] rfl rfl (news_at rfl) (by simp [Value.oneCell']) (by unfold maxLen; omega) (by omega) (Nat.zero_le _) ?_))
      intro g cap w4 hown hg
      obtain ⟨p1, p2⟩ := put_more (T := inner) (B := w.heap.size) (a := t) rfl (by rw [hln]; exact HROW2.out) HOLD2.out ⟨_, _, rfl, HV0.out, HV1.out⟩ rfl HZ.out HC.out (by decide) (fun g hg => hg) HSZ.out (by rw [hln]; exact hown) hg
      rw [HS.out, hln] at p1
      have P1 := hide p1
      have P2 := hide (HW2.out.trans p2)
      clear p1 p2 hown hg HROW2 HOLD2 HW2 HZ HSZ HC
      go_wp2_with fail
      go_roundw
      case rel => exact ⟨k + 1, by omega, by go_num, P1, P2⟩
      case measure => simp [intOf]; omega
    · have ek : k = l.length := by omega
      subst ek
      rw [List.take_length] at HV
      go_wp2_with fail
      go_ret
      exact ⟨_, rfl, HV.out, HW.out⟩

set_option maxRecDepth 100000 in
set_option maxHeartbeats 3200000 in
theorem copy_CopyTotals {Z : Nat → Prop} (l : List TotalM) (va : Value) (w : World) (ha : Rows Z 111 5 (cTotal Z) w l va) (hl : l.length ≤ 1000000000) (hi : ∀ a, a ∈ l → a.preds.length ≤ 1000000000) :
    Calls Tryz.prog 44 #[va] w fun e w' => ∃ v, e = .returned v ∧ Rows (New w) 111 5 (cTotal (New w)) w' l v ∧ Below w.heap.size w w' := by
  obtain ⟨iM, hiM, zM0, zM1, zM2⟩ := info_parts' info_total
  have HA := hide ha
  obtain ⟨aa, ca, rfl⟩ := rows_form ha
  clear ha
  go_enter Tryz.func44, Tryz.ntmps44
  go_wp2_with fail
  go_loopw [3, 4] (fun x z wr => ∃ k : Nat, k ≤ l.length ∧ z = .int .i64 k ∧ Hid (Rows (New w) 111 5 (cTotal (New w)) wr (l.take k) x) ∧ Hid (Below w.heap.size w wr)) (fun _ z _ => l.length - (intOf z).toNat)
  case atStart => exact ⟨0, by omega, rfl, hide (Rows.nil _ _ _ _ _), hide (Below.refl _ w)⟩
  case round =>
    obtain ⟨k, hk, rfl, HV, HW⟩ := hrel
    by_cases hlt : k < l.length
    · obtain ⟨t, ht⟩ : ∃ t, l[k]? = some t := ⟨l[k], by simp [hlt]⟩
      obtain ⟨ga, xa, ya, e1, _, ⟨av0, rfl, hs0⟩, h2⟩ := (HA.out.keep (T := [111]) (Kp.of_below HW.out) (by decide) (fun _ _ h => h.keep (Kp.of_below HW.out))).at ht
      simp only [Value.slice.injEq] at e1
      obtain ⟨rfl, _, rfl⟩ := e1
      have a0 : wr.cell? ⟨ga, k * 5, none⟩ = some (.string ⟨t.name.toArray⟩) := by have := h2 0 _ rfl; simpa using this
      have a1 : wr.cell? ⟨ga, k * 5 + 1, none⟩ = some (.string ⟨t.kind.toArray⟩) := by have := h2 1 _ rfl; simpa using this
      have a2 : wr.cell? ⟨ga, k * 5 + 2, none⟩ = some (av0) := by have := h2 2 _ rfl; simpa using this
      have a3 : wr.cell? ⟨ga, k * 5 + 3, none⟩ = some (.bool t.hasCap) := by have := h2 3 _ rfl; simpa using this
      have a4 : wr.cell? ⟨ga, k * 5 + 4, none⟩ = some (.int .i64 t.cap) := by have := h2 4 _ rfl; simpa using this
      have hit := hi t (List.mem_of_getElem? ht)
      have HS := hide (take_snoc ht)
      obtain ⟨xs, hrow, hold⟩ := HV.out
      have hln : (l.take k).length = k := by simp; omega
      obtain ⟨ta, tc, rfl⟩ := slice_form hrow.1
      rw [hln] at hrow
      have HROW := hide hrow
      have HOLD := hide hold
      have C := hide (copy_Total t av0 wr hs0 hit)
      clear h2 ht hrow hold HV hit hs0
      rw [hln]
      go_wp2_with fail
      refine C.out.mono ?_
      rintro _ w2 ⟨v2, rfl, ⟨u0, rfl, hv0⟩, hb⟩
      obtain ⟨p0, r0, rfl⟩ := rows_form hv0
      have HV0 := hide (Strs.mono hv0 fun g hg => Nat.le_trans HW.out.size hg)
      have HROW2 := hide (HROW.out.keep (Kp.of_below (T := [111]) hb) (by decide))
      have HC : Hid (∀ w0 w' b ys, Kp inner (New w) w0 w' → cTotal (New w) w0 b ys → cTotal (New w) w' b ys) := hide (fun _ _ _ _ hk h => h.keep hk)
      have HOLD2 : Hid (∀ i b, (l.take k)[i]? = some b → cTotal (New w) w2 b ((xs.drop (i * 5)).take 5)) := hide fun i b hi => HC.out _ _ _ _ (Kp.of_below hb) (HOLD.out i b hi)
      have HW2 := hide (HW.out.trans (hb.mono HW.out.size))
      have HZ : Hid (∀ g, w2.heap.size ≤ g → New w g) := hide fun g hg => Nat.le_trans HW2.out.size hg
      have HSZ := hide HW2.out.size
      clear hb hv0 HROW HOLD HW C
      go_wp2_with (at_builtin; go_must (refine wpList_append_two _ rfl _ _ 29 rfl 0 111 iM _ 5 72 Tryz.underlying29 hiM zM0 zM1 zM2 rfl (by decide) _ _ _ rfl (HROW2.out.1.alloc _) ⟨w2.heap.size, 0, none⟩ 1 [.string ⟨t.name.toArray⟩, .string ⟨t.kind.toArray⟩, .slice p0 t.preds.length r0, .bool t.hasCap, .int .i64 t.cap] rfl rfl (news_at rfl) (by simp [Value.oneCell']) (by unfold maxLen; omega) (by omega) (Nat.zero_le _) ?_))
      intro g cap w4 hown hg
      obtain ⟨p1, p2⟩ := put_more (T := inner) (B := w.heap.size) (a := t) rfl (by rw [hln]; exact HROW2.out) HOLD2.out ⟨_, rfl, HV0.out⟩ rfl HZ.out HC.out (by decide) (fun g hg => hg) HSZ.out (by rw [hln]; exact hown) hg
      rw [HS.out, hln] at p1
      have P1 := hide p1
      have P2 := hide (HW2.out.trans p2)
      clear p1 p2 hown hg HROW2 HOLD2 HW2 HZ HSZ HC
      go_wp2_with fail
      go_roundw
      case rel => exact ⟨k + 1, by omega, by go_num, P1, P2⟩
      case measure => simp [intOf]; omega
    · have ek : k = l.length := by omega
      subst ek
      rw [List.take_length] at HV
      go_wp2_with fail
      go_ret
      exact ⟨_, rfl, HV.out, HW.out⟩

set_option maxRecDepth 100000 in
set_option maxHeartbeats 3200000 in
theorem copy_CopyStringLists {Z : Nat → Prop} (l : List (List Bytes)) (va : Value) (w : World) (ha : Rows Z 22 1 (cClass Z) w l va) (hl : l.length ≤ 1000000000) (hi : ∀ a, a ∈ l → a.length ≤ 1000000000) :
    Calls Tryz.prog 40 #[va] w fun e w' => ∃ v, e = .returned v ∧ Rows (New w) 22 1 (cClass (New w)) w' l v ∧ Below w.heap.size w w' := by
  obtain ⟨iM, hiM, zM0, zM1, zM2⟩ := info_parts' info_class
  have HA := hide ha
  obtain ⟨aa, ca, rfl⟩ := rows_form ha
  clear ha
  go_enter Tryz.func40, Tryz.ntmps40
  go_wp2_with fail
  go_loopw [3, 4] (fun x z wr => ∃ k : Nat, k ≤ l.length ∧ z = .int .i64 k ∧ Hid (Rows (New w) 22 1 (cClass (New w)) wr (l.take k) x) ∧ Hid (Below w.heap.size w wr)) (fun _ z _ => l.length - (intOf z).toNat)
  case atStart => exact ⟨0, by omega, rfl, hide (Rows.nil _ _ _ _ _), hide (Below.refl _ w)⟩
  case round =>
    obtain ⟨k, hk, rfl, HV, HW⟩ := hrel
    by_cases hlt : k < l.length
    · obtain ⟨t, ht⟩ : ∃ t, l[k]? = some t := ⟨l[k], by simp [hlt]⟩
      obtain ⟨ga, xa, ya, e1, _, ⟨av0, rfl, hs0⟩, h2⟩ := (HA.out.keep (T := [22]) (Kp.of_below HW.out) (by decide) (fun _ _ h => h.keep (Kp.of_below HW.out))).at ht
      simp only [Value.slice.injEq] at e1
      obtain ⟨rfl, _, rfl⟩ := e1
      have a0 : wr.cell? ⟨ga, k, none⟩ = some (av0) := by have := h2 0 _ rfl; simpa using this
      have hit := hi t (List.mem_of_getElem? ht)
      have HS := hide (take_snoc ht)
      obtain ⟨xs, hrow, hold⟩ := HV.out
      have hln : (l.take k).length = k := by simp; omega
      obtain ⟨ta, tc, rfl⟩ := slice_form hrow.1
      rw [hln] at hrow
      have HROW := hide hrow
      have HOLD := hide hold
      have C := hide (copy_CopyStrings t av0 wr hs0 hit)
      clear h2 ht hrow hold HV hit hs0
      rw [hln]
      go_wp2_with fail
      refine C.out.mono ?_
      rintro _ w2 ⟨u0, rfl, hv0, hb⟩
      obtain ⟨p0, r0, rfl⟩ := rows_form hv0
      have HV0 := hide (Strs.mono hv0 fun g hg => Nat.le_trans HW.out.size hg)
      have HROW2 := hide (HROW.out.keep (Kp.of_below (T := [22]) hb) (by decide))
      have HC : Hid (∀ w0 w' b ys, Kp inner (New w) w0 w' → cClass (New w) w0 b ys → cClass (New w) w' b ys) := hide (fun _ _ _ _ hk h => h.keep hk)
      have HOLD2 : Hid (∀ i b, (l.take k)[i]? = some b → cClass (New w) w2 b ((xs.drop (i * 1)).take 1)) := hide fun i b hi => HC.out _ _ _ _ (Kp.of_below hb) (HOLD.out i b hi)
      have HW2 := hide (HW.out.trans (hb.mono HW.out.size))
      have HZ : Hid (∀ g, w2.heap.size ≤ g → New w g) := hide fun g hg => Nat.le_trans HW2.out.size hg
      have HSZ := hide HW2.out.size
      clear hb hv0 HROW HOLD HW C
      go_wp2_with (at_builtin; go_must (refine wpList_append_two _ rfl _ _ 25 rfl 0 22 iM _ 1 24 Tryz.underlying25 hiM zM0 zM1 zM2 rfl (by decide) _ _ _ rfl (HROW2.out.1.alloc _) ⟨w2.heap.size, 0, none⟩ 1 [.slice p0 t.length r0] rfl rfl (news_at rfl) (by simp [Value.oneCell']) (by unfold maxLen; omega) (by omega) (Nat.zero_le _) ?_))
      intro g cap w4 hown hg
      obtain ⟨p1, p2⟩ := put_more (T := inner) (B := w.heap.size) (a := t) rfl (by rw [hln]; exact HROW2.out) HOLD2.out ⟨_, rfl, HV0.out⟩ rfl HZ.out HC.out (by decide) (fun g hg => hg) HSZ.out (by rw [hln]; exact hown) hg
      rw [HS.out, hln] at p1
      have P1 := hide p1
      have P2 := hide (HW2.out.trans p2)
      clear p1 p2 hown hg HROW2 HOLD2 HW2 HZ HSZ HC
      go_wp2_with fail
      go_roundw
      case rel => exact ⟨k + 1, by omega, by go_num, P1, P2⟩
      case measure => simp [intOf]; omega
    · have ek : k = l.length := by omega
      subst ek
      rw [List.take_length] at HV
      go_wp2_with fail
      go_ret
      exact ⟨_, rfl, HV.out, HW.out⟩

end Go.Proofs.YthnjmfkiohgkkaaGreatDoor.Sy
