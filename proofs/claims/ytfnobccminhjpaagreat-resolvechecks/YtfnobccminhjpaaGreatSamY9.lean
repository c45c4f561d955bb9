/- Two of the same things are the same. By program (tools/gen8/samz9.py). -/
import Derived.Test.YtfnobccminhjpaaGreatSamZ9
namespace Go.Proofs.YtfnobccminhjpaaGreat
open Go.RowKit Go.Shelf Go.Maps Go.WideMaps
theorem below_eq {w w' : World} {q : Nat} (h : w' = w.drewN q) : Below w.heap.size w w' := by rw [h]; exact below_drewN _ _
set_option maxRecDepth 100000 in
set_option maxHeartbeats 3200000 in
theorem sameTe_z {w : World} {x : TermM} {xs ys : List Value} (ha : cTerm w.heap.size w x xs) (hb : cTerm w.heap.size w x ys) :
    Calls Tryz.prog 196 #[.agg xs.toArray, .agg ys.toArray] w fun e w' => e = .returned (.bool true) ∧ Below w.heap.size w w' := by
  have HA := hide ha
  have HB := hide hb
  obtain ⟨av, rfl, _, r2⟩ := ha
  obtain ⟨ka, kc, rfl, _⟩ := r2.form
  obtain ⟨av', rfl, _, r2'⟩ := hb
  obtain ⟨ka', kc', rfl, _⟩ := r2'.form
  have Ur2 := hide r2
  have Ur2' := hide r2'
  clear r2 r2'
  unfold str at *
  show Calls Tryz.prog 196 #[.agg #[.int .i64 x.coef, .string ⟨x.pred.toArray⟩, .slice ka x.args.length kc, .int .i64 x.value], .agg #[.int .i64 x.coef, .string ⟨x.pred.toArray⟩, .slice ka' x.args.length kc', .int .i64 x.value]] w _
  have X0 := hide (Bx.two (T := 156) (A := [.int .i64 x.coef, .string ⟨x.pred.toArray⟩, .slice ka x.args.length kc, .int .i64 x.value]) (Z0 := [.int .i64 x.coef, .string ⟨x.pred.toArray⟩, .slice ka' x.args.length kc', .int .i64 x.value]) (w := w))
  go_enter Tryz.func196, Tryz.ntmps196
  go_upto_region 1 with fail
  generalize (w.alloc (.cells #[.int .i64 x.coef, .string ⟨x.pred.toArray⟩, .slice ka x.args.length kc, .int .i64 x.value] 156)).alloc (.cells #[.int .i64 x.coef, .string ⟨x.pred.toArray⟩, .slice ka' x.args.length kc', .int .i64 x.value] 156) = W0 at *
  have a0 := cell_of_row _ _ 0 _ _ _ X0.out.b1
  have b0 := cell_of_row _ _ 0 _ _ _ X0.out.b2
  have a1 := cell_of_row _ _ 1 _ _ _ X0.out.b1
  have b1 := cell_of_row _ _ 1 _ _ _ X0.out.b2
  have a2 := cell_of_row _ _ 2 _ _ _ X0.out.b1
  have b2 := cell_of_row _ _ 2 _ _ _ X0.out.b2
  have a3 := cell_of_row _ _ 3 _ _ _ X0.out.b1
  have b3 := cell_of_row _ _ 3 _ _ _ X0.out.b2
  simp only [List.getElem?_toArray, List.getElem?_cons_zero, List.getElem?_cons_succ] at a0 b0 a1 b1 a2 b2 a3 b3
  have CX := hide (sameS_z (w := W0) (Strs.go X0.out.low Ur2.out) (Strs.go X0.out.low Ur2'.out))
  go_wp2_with fail
  refine CX.out.mono ?_
  rintro _ W1 ⟨rfl, q0, hq0⟩
  have hbd : Below W0.heap.size W0 W1 := by rw [hq0]; exact below_drewN _ _
  clear hq0
  have X1 := hide (Bx.call X0.out hbd)
  clear a0 b0 a1 b1 a2 b2 a3 b3 CX hbd X0
  have a0 := cell_of_row _ _ 0 _ _ _ X1.out.b1
  have b0 := cell_of_row _ _ 0 _ _ _ X1.out.b2
  have a1 := cell_of_row _ _ 1 _ _ _ X1.out.b1
  have b1 := cell_of_row _ _ 1 _ _ _ X1.out.b2
  have a2 := cell_of_row _ _ 2 _ _ _ X1.out.b1
  have b2 := cell_of_row _ _ 2 _ _ _ X1.out.b2
  have a3 := cell_of_row _ _ 3 _ _ _ X1.out.b1
  have b3 := cell_of_row _ _ 3 _ _ _ X1.out.b2
  simp only [List.getElem?_toArray, List.getElem?_cons_zero, List.getElem?_cons_succ] at a0 b0 a1 b1 a2 b2 a3 b3
  go_wp2_with fail
  go_ret
  exact ⟨rfl, X1.out.low⟩
set_option maxRecDepth 100000 in
set_option maxHeartbeats 3200000 in
theorem samelTe_z {w : World} {a b : Option Addr} {l : List (TermM)} {c d : Nat} (ha : RR w.heap.size 4 (cTerm w.heap.size) w l (.slice a l.length c)) (hb : RR w.heap.size 4 (cTerm w.heap.size) w l (.slice b l.length d)) :
    Calls Tryz.prog 194 #[.slice a l.length c, .slice b l.length d] w fun e w' => e = .returned (.bool true) ∧ Below w.heap.size w w' := by
  have HA := hide ha
  have HB := hide hb
  have hlim := ha.lim
  clear ha hb
  go_enter Tryz.func194, Tryz.ntmps194
  go_wp2_with fail
  go_loopw [5] (fun x wr => ∃ i : Nat, i ≤ l.length ∧ x = .int .i64 i ∧ Hid (Below w.heap.size w wr)) (fun x _ => l.length - (intOf x).toNat)
  case atStart => exact ⟨0, by omega, rfl, hide (Below.refl _ w)⟩
  case round =>
    obtain ⟨i, hk, rfl, HW⟩ := hrel
    by_cases hlt : i < l.length
    · obtain ⟨x, hx⟩ : ∃ x, l[i]? = some x := ⟨l[i], List.getElem?_eq_getElem hlt⟩
      obtain ⟨ga, oa, ys, rfl, hga, _, hca, hcx⟩ := RR.open (RR.go (c' := cTerm wr.heap.size) HW.out HA.out (fun _ _ h => cTerm.go HW.out h)) hx
      obtain ⟨gb, ob, zs, rfl, hgb, _, hcb, hcy⟩ := RR.open (RR.go (c' := cTerm wr.heap.size) HW.out HB.out (fun _ _ h => cTerm.go HW.out h)) hx
      have HX := hide hcx
      have HY := hide hcy
      obtain ⟨av, rfl, _, r2⟩ := hcx
      obtain ⟨ka, kc, rfl, _⟩ := r2.form
      obtain ⟨av', rfl, _, r2'⟩ := hcy
      obtain ⟨ka', kc', rfl, _⟩ := r2'.form
      have C := hide (fun w1 (hb' : Below wr.heap.size wr w1) => sameTe_z (w := w1) (cTerm.go hb' HX.out) (cTerm.go hb' HY.out))
      have HT : Tw4 wr ga gb (oa + i * 4) (ob + i * 4) (.int .i64 x.coef) (.string ⟨x.pred.toArray⟩) (.slice ka x.args.length kc) (.int .i64 x.value) (.int .i64 x.coef) (.string ⟨x.pred.toArray⟩) (.slice ka' x.args.length kc') (.int .i64 x.value) wr := ⟨hca 0 _ rfl, hca 1 _ rfl, hca 2 _ rfl, hca 3 _ rfl, hcb 0 _ rfl, hcb 1 _ rfl, hcb 2 _ rfl, hcb 3 _ rfl, hga, hgb, Below.refl _ _⟩
      clear hca hcb hx HX HY
      unfold str at *
      go_wp2_with fail
      go_region_held3 (fun X : World => Tw4 wr ga gb (oa + i * 4) (ob + i * 4) (.int .i64 x.coef) (.string ⟨x.pred.toArray⟩) (.slice ka x.args.length kc) (.int .i64 x.value) (.int .i64 x.coef) (.string ⟨x.pred.toArray⟩) (.slice ka' x.args.length kc') (.int .i64 x.value) X) (first | exact Tw4.drew ‹_› | assumption | exact Tw4.below ‹_› ‹_›) (first | (go_at_call 196; refine (C.out _ (Tw4.b ‹_›)).mono ?_; rintro e w' ⟨rfl, hb⟩))
      rename_i hS
      go_wp2_with fail
      go_roundw
      case rel => exact ⟨i + 1, by omega, by go_num, hide (HW.out.trans ((Tw4.b hS).mono HW.out.size))⟩
      case measure => simp [intOf]; omega
    · go_wp2_with fail
      go_ret
      exact ⟨rfl, HW.out⟩
set_option maxRecDepth 100000 in
set_option maxHeartbeats 3200000 in
theorem sameLi_z {w : World} {x : LitM} {xs ys : List Value} (ha : cLit w.heap.size w x xs) (hb : cLit w.heap.size w x ys) :
    Calls Tryz.prog 39 #[.agg xs.toArray, .agg ys.toArray] w fun e w' => e = .returned (.bool true) ∧ Below w.heap.size w w' := by
  have HA := hide ha
  have HB := hide hb
  obtain ⟨av, rfl, _, r2⟩ := ha
  obtain ⟨ka, kc, rfl, _⟩ := r2.form
  obtain ⟨av', rfl, _, r2'⟩ := hb
  obtain ⟨ka', kc', rfl, _⟩ := r2'.form
  have Ur2 := hide r2
  have Ur2' := hide r2'
  clear r2 r2'
  unfold str at *
  show Calls Tryz.prog 39 #[.agg #[.bool x.neg, .string ⟨x.pred.toArray⟩, .slice ka x.args.length kc, .bool x.hasValue, .int .i64 x.value], .agg #[.bool x.neg, .string ⟨x.pred.toArray⟩, .slice ka' x.args.length kc', .bool x.hasValue, .int .i64 x.value]] w _
  have X0 := hide (Bx.two (T := 59) (A := [.bool x.neg, .string ⟨x.pred.toArray⟩, .slice ka x.args.length kc, .bool x.hasValue, .int .i64 x.value]) (Z0 := [.bool x.neg, .string ⟨x.pred.toArray⟩, .slice ka' x.args.length kc', .bool x.hasValue, .int .i64 x.value]) (w := w))
  go_enter Tryz.func39, Tryz.ntmps39
  go_upto_region 1 with fail
  generalize (w.alloc (.cells #[.bool x.neg, .string ⟨x.pred.toArray⟩, .slice ka x.args.length kc, .bool x.hasValue, .int .i64 x.value] 59)).alloc (.cells #[.bool x.neg, .string ⟨x.pred.toArray⟩, .slice ka' x.args.length kc', .bool x.hasValue, .int .i64 x.value] 59) = W0 at *
  have a0 := cell_of_row _ _ 0 _ _ _ X0.out.b1
  have b0 := cell_of_row _ _ 0 _ _ _ X0.out.b2
  have a1 := cell_of_row _ _ 1 _ _ _ X0.out.b1
  have b1 := cell_of_row _ _ 1 _ _ _ X0.out.b2
  have a2 := cell_of_row _ _ 2 _ _ _ X0.out.b1
  have b2 := cell_of_row _ _ 2 _ _ _ X0.out.b2
  have a3 := cell_of_row _ _ 3 _ _ _ X0.out.b1
  have b3 := cell_of_row _ _ 3 _ _ _ X0.out.b2
  have a4 := cell_of_row _ _ 4 _ _ _ X0.out.b1
  have b4 := cell_of_row _ _ 4 _ _ _ X0.out.b2
  simp only [List.getElem?_toArray, List.getElem?_cons_zero, List.getElem?_cons_succ] at a0 b0 a1 b1 a2 b2 a3 b3 a4 b4
  have CX := hide (sameS_z (w := W0) (Strs.go X0.out.low Ur2.out) (Strs.go X0.out.low Ur2'.out))
  go_wp2_with fail
  refine CX.out.mono ?_
  rintro _ W1 ⟨rfl, q0, hq0⟩
  have hbd : Below W0.heap.size W0 W1 := by rw [hq0]; exact below_drewN _ _
  clear hq0
  have X1 := hide (Bx.call X0.out hbd)
  clear a0 b0 a1 b1 a2 b2 a3 b3 a4 b4 CX hbd X0
  have a0 := cell_of_row _ _ 0 _ _ _ X1.out.b1
  have b0 := cell_of_row _ _ 0 _ _ _ X1.out.b2
  have a1 := cell_of_row _ _ 1 _ _ _ X1.out.b1
  have b1 := cell_of_row _ _ 1 _ _ _ X1.out.b2
  have a2 := cell_of_row _ _ 2 _ _ _ X1.out.b1
  have b2 := cell_of_row _ _ 2 _ _ _ X1.out.b2
  have a3 := cell_of_row _ _ 3 _ _ _ X1.out.b1
  have b3 := cell_of_row _ _ 3 _ _ _ X1.out.b2
  have a4 := cell_of_row _ _ 4 _ _ _ X1.out.b1
  have b4 := cell_of_row _ _ 4 _ _ _ X1.out.b2
  simp only [List.getElem?_toArray, List.getElem?_cons_zero, List.getElem?_cons_succ] at a0 b0 a1 b1 a2 b2 a3 b3 a4 b4
  go_wp2_with fail
  go_ret
  exact ⟨rfl, X1.out.low⟩
set_option maxRecDepth 100000 in
set_option maxHeartbeats 3200000 in
theorem sameGu_z {w : World} {x : GuardM} {xs ys : List Value} (ha : cGuard w.heap.size w x xs) (hb : cGuard w.heap.size w x ys) :
    Calls Tryz.prog 191 #[.agg xs.toArray, .agg ys.toArray] w fun e w' => e = .returned (.bool true) ∧ Below w.heap.size w w' := by
  have HA := hide ha
  have HB := hide hb
  obtain ⟨lv, rv, rfl, r0, r2⟩ := ha
  obtain ⟨la, lc, rfl, _⟩ := r0.form
  obtain ⟨ra, rc, rfl, _⟩ := r2.form
  obtain ⟨lv', rv', rfl, r0', r2'⟩ := hb
  obtain ⟨la', lc', rfl, _⟩ := r0'.form
  obtain ⟨ra', rc', rfl, _⟩ := r2'.form
  have Ur0 := hide r0
  have Ur0' := hide r0'
  have Ur2 := hide r2
  have Ur2' := hide r2'
  clear r0 r0' r2 r2'
  unfold str at *
  show Calls Tryz.prog 191 #[.agg #[.slice la x.left.length lc, .int .i64 x.op, .slice ra x.right.length rc], .agg #[.slice la' x.left.length lc', .int .i64 x.op, .slice ra' x.right.length rc']] w _
  have X0 := hide (Bx.two (T := 121) (A := [.slice la x.left.length lc, .int .i64 x.op, .slice ra x.right.length rc]) (Z0 := [.slice la' x.left.length lc', .int .i64 x.op, .slice ra' x.right.length rc']) (w := w))
  go_enter Tryz.func191, Tryz.ntmps191
  go_upto_region 1 with fail
  generalize (w.alloc (.cells #[.slice la x.left.length lc, .int .i64 x.op, .slice ra x.right.length rc] 121)).alloc (.cells #[.slice la' x.left.length lc', .int .i64 x.op, .slice ra' x.right.length rc'] 121) = W0 at *
  have a0 := cell_of_row _ _ 0 _ _ _ X0.out.b1
  have b0 := cell_of_row _ _ 0 _ _ _ X0.out.b2
  have a1 := cell_of_row _ _ 1 _ _ _ X0.out.b1
  have b1 := cell_of_row _ _ 1 _ _ _ X0.out.b2
  have a2 := cell_of_row _ _ 2 _ _ _ X0.out.b1
  have b2 := cell_of_row _ _ 2 _ _ _ X0.out.b2
  simp only [List.getElem?_toArray, List.getElem?_cons_zero, List.getElem?_cons_succ] at a0 b0 a1 b1 a2 b2
  have CX := hide (samelTe_z (w := W0) (Terms.go X0.out.low Ur0.out) (Terms.go X0.out.low Ur0'.out))
  go_wp2_with fail
  refine CX.out.mono ?_
  rintro _ W1 ⟨rfl, hbd⟩
  have X1 := hide (Bx.call X0.out hbd)
  clear a0 b0 a1 b1 a2 b2 CX hbd X0
  have a0 := cell_of_row _ _ 0 _ _ _ X1.out.b1
  have b0 := cell_of_row _ _ 0 _ _ _ X1.out.b2
  have a1 := cell_of_row _ _ 1 _ _ _ X1.out.b1
  have b1 := cell_of_row _ _ 1 _ _ _ X1.out.b2
  have a2 := cell_of_row _ _ 2 _ _ _ X1.out.b1
  have b2 := cell_of_row _ _ 2 _ _ _ X1.out.b2
  simp only [List.getElem?_toArray, List.getElem?_cons_zero, List.getElem?_cons_succ] at a0 b0 a1 b1 a2 b2
  have CX := hide (samelTe_z (w := W1) (Terms.go X1.out.low Ur2.out) (Terms.go X1.out.low Ur2'.out))
  go_wp2_with fail
  refine CX.out.mono ?_
  rintro _ W2 ⟨rfl, hbd⟩
  have X2 := hide (Bx.call X1.out hbd)
  clear a0 b0 a1 b1 a2 b2 CX hbd X1
  have a0 := cell_of_row _ _ 0 _ _ _ X2.out.b1
  have b0 := cell_of_row _ _ 0 _ _ _ X2.out.b2
  have a1 := cell_of_row _ _ 1 _ _ _ X2.out.b1
  have b1 := cell_of_row _ _ 1 _ _ _ X2.out.b2
  have a2 := cell_of_row _ _ 2 _ _ _ X2.out.b1
  have b2 := cell_of_row _ _ 2 _ _ _ X2.out.b2
  simp only [List.getElem?_toArray, List.getElem?_cons_zero, List.getElem?_cons_succ] at a0 b0 a1 b1 a2 b2
  go_wp2_with fail
  go_ret
  exact ⟨rfl, X2.out.low⟩
set_option maxRecDepth 100000 in
set_option maxHeartbeats 3200000 in
theorem samePr_z {w : World} {x : PremM} {xs ys : List Value} (ha : cPrem w.heap.size w x xs) (hb : cPrem w.heap.size w x ys) :
    Calls Tryz.prog 184 #[.agg xs.toArray, .agg ys.toArray] w fun e w' => e = .returned (.bool true) ∧ Below w.heap.size w w' := by
  have HA := hide ha
  have HB := hide hb
  obtain ⟨_, _, rfl, ⟨av, rfl, p1, r1⟩, ⟨lv, rv, rfl, r2, r3⟩, _, _⟩ := ha
  obtain ⟨ka, kc, rfl, _⟩ := r1.form
  obtain ⟨la, lc, rfl, _⟩ := r2.form
  obtain ⟨ra, rc, rfl, _⟩ := r3.form
  obtain ⟨_, _, rfl, ⟨av', rfl, p1', r1'⟩, ⟨lv', rv', rfl, r2', r3'⟩, _, _⟩ := hb
  obtain ⟨ka', kc', rfl, _⟩ := r1'.form
  obtain ⟨la', lc', rfl, _⟩ := r2'.form
  obtain ⟨ra', rc', rfl, _⟩ := r3'.form
  have Ur1 := hide r1
  have Ur1' := hide r1'
  have Ur2 := hide r2
  have Ur2' := hide r2'
  have Ur3 := hide r3
  have Ur3' := hide r3'
  clear r1 r1' r2 r2' r3 r3'
  unfold str at *
  show Calls Tryz.prog 184 #[.agg #[.int .i64 x.kind, .bool x.lit.neg, .string ⟨x.lit.pred.toArray⟩, .slice ka x.lit.args.length kc, .bool x.lit.hasValue, .int .i64 x.lit.value, .slice la x.guard.left.length lc, .int .i64 x.guard.op, .slice ra x.guard.right.length rc, .string ⟨x.a.toArray⟩, .string ⟨x.b.toArray⟩], .agg #[.int .i64 x.kind, .bool x.lit.neg, .string ⟨x.lit.pred.toArray⟩, .slice ka' x.lit.args.length kc', .bool x.lit.hasValue, .int .i64 x.lit.value, .slice la' x.guard.left.length lc', .int .i64 x.guard.op, .slice ra' x.guard.right.length rc', .string ⟨x.a.toArray⟩, .string ⟨x.b.toArray⟩]] w _
  have X0 := hide (Bx.two (T := 123) (A := [.int .i64 x.kind, .bool x.lit.neg, .string ⟨x.lit.pred.toArray⟩, .slice ka x.lit.args.length kc, .bool x.lit.hasValue, .int .i64 x.lit.value, .slice la x.guard.left.length lc, .int .i64 x.guard.op, .slice ra x.guard.right.length rc, .string ⟨x.a.toArray⟩, .string ⟨x.b.toArray⟩]) (Z0 := [.int .i64 x.kind, .bool x.lit.neg, .string ⟨x.lit.pred.toArray⟩, .slice ka' x.lit.args.length kc', .bool x.lit.hasValue, .int .i64 x.lit.value, .slice la' x.guard.left.length lc', .int .i64 x.guard.op, .slice ra' x.guard.right.length rc', .string ⟨x.a.toArray⟩, .string ⟨x.b.toArray⟩]) (w := w))
  go_enter Tryz.func184, Tryz.ntmps184
  go_upto_region 1 with fail
  generalize (w.alloc (.cells #[.int .i64 x.kind, .bool x.lit.neg, .string ⟨x.lit.pred.toArray⟩, .slice ka x.lit.args.length kc, .bool x.lit.hasValue, .int .i64 x.lit.value, .slice la x.guard.left.length lc, .int .i64 x.guard.op, .slice ra x.guard.right.length rc, .string ⟨x.a.toArray⟩, .string ⟨x.b.toArray⟩] 123)).alloc (.cells #[.int .i64 x.kind, .bool x.lit.neg, .string ⟨x.lit.pred.toArray⟩, .slice ka' x.lit.args.length kc', .bool x.lit.hasValue, .int .i64 x.lit.value, .slice la' x.guard.left.length lc', .int .i64 x.guard.op, .slice ra' x.guard.right.length rc', .string ⟨x.a.toArray⟩, .string ⟨x.b.toArray⟩] 123) = W0 at *
  have a0 := cell_of_row _ _ 0 _ _ _ X0.out.b1
  have b0 := cell_of_row _ _ 0 _ _ _ X0.out.b2
  have a1 := cell_of_row _ _ 1 _ _ _ X0.out.b1
  have b1 := cell_of_row _ _ 1 _ _ _ X0.out.b2
  have a2 := cell_of_row _ _ 2 _ _ _ X0.out.b1
  have b2 := cell_of_row _ _ 2 _ _ _ X0.out.b2
  have a3 := cell_of_row _ _ 3 _ _ _ X0.out.b1
  have b3 := cell_of_row _ _ 3 _ _ _ X0.out.b2
  have a4 := cell_of_row _ _ 4 _ _ _ X0.out.b1
  have b4 := cell_of_row _ _ 4 _ _ _ X0.out.b2
  have a5 := cell_of_row _ _ 5 _ _ _ X0.out.b1
  have b5 := cell_of_row _ _ 5 _ _ _ X0.out.b2
  have a6 := cell_of_row _ _ 6 _ _ _ X0.out.b1
  have b6 := cell_of_row _ _ 6 _ _ _ X0.out.b2
  have a7 := cell_of_row _ _ 7 _ _ _ X0.out.b1
  have b7 := cell_of_row _ _ 7 _ _ _ X0.out.b2
  have a8 := cell_of_row _ _ 8 _ _ _ X0.out.b1
  have b8 := cell_of_row _ _ 8 _ _ _ X0.out.b2
  have a9 := cell_of_row _ _ 9 _ _ _ X0.out.b1
  have b9 := cell_of_row _ _ 9 _ _ _ X0.out.b2
  have a10 := cell_of_row _ _ 10 _ _ _ X0.out.b1
  have b10 := cell_of_row _ _ 10 _ _ _ X0.out.b2
  simp only [List.getElem?_toArray, List.getElem?_cons_zero, List.getElem?_cons_succ] at a0 b0 a1 b1 a2 b2 a3 b3 a4 b4 a5 b5 a6 b6 a7 b7 a8 b8 a9 b9 a10 b10
  have CX := hide (sameLi_z (w := W0) (x := x.lit) (cLit.go X0.out.low ⟨_, rfl, p1, Ur1.out⟩) (cLit.go X0.out.low ⟨_, rfl, p1', Ur1'.out⟩))
  go_wp2_with fail
  refine CX.out.mono ?_
  rintro _ W1 ⟨rfl, hbd⟩
  have X1 := hide (Bx.call X0.out hbd)
  clear a0 b0 a1 b1 a2 b2 a3 b3 a4 b4 a5 b5 a6 b6 a7 b7 a8 b8 a9 b9 a10 b10 CX hbd X0
  have a0 := cell_of_row _ _ 0 _ _ _ X1.out.b1
  have b0 := cell_of_row _ _ 0 _ _ _ X1.out.b2
  have a1 := cell_of_row _ _ 1 _ _ _ X1.out.b1
  have b1 := cell_of_row _ _ 1 _ _ _ X1.out.b2
  have a2 := cell_of_row _ _ 2 _ _ _ X1.out.b1
  have b2 := cell_of_row _ _ 2 _ _ _ X1.out.b2
  have a3 := cell_of_row _ _ 3 _ _ _ X1.out.b1
  have b3 := cell_of_row _ _ 3 _ _ _ X1.out.b2
  have a4 := cell_of_row _ _ 4 _ _ _ X1.out.b1
  have b4 := cell_of_row _ _ 4 _ _ _ X1.out.b2
  have a5 := cell_of_row _ _ 5 _ _ _ X1.out.b1
  have b5 := cell_of_row _ _ 5 _ _ _ X1.out.b2
  have a6 := cell_of_row _ _ 6 _ _ _ X1.out.b1
  have b6 := cell_of_row _ _ 6 _ _ _ X1.out.b2
  have a7 := cell_of_row _ _ 7 _ _ _ X1.out.b1
  have b7 := cell_of_row _ _ 7 _ _ _ X1.out.b2
  have a8 := cell_of_row _ _ 8 _ _ _ X1.out.b1
  have b8 := cell_of_row _ _ 8 _ _ _ X1.out.b2
  have a9 := cell_of_row _ _ 9 _ _ _ X1.out.b1
  have b9 := cell_of_row _ _ 9 _ _ _ X1.out.b2
  have a10 := cell_of_row _ _ 10 _ _ _ X1.out.b1
  have b10 := cell_of_row _ _ 10 _ _ _ X1.out.b2
  simp only [List.getElem?_toArray, List.getElem?_cons_zero, List.getElem?_cons_succ] at a0 b0 a1 b1 a2 b2 a3 b3 a4 b4 a5 b5 a6 b6 a7 b7 a8 b8 a9 b9 a10 b10
  have CX := hide (sameGu_z (w := W1) (x := x.guard) (cGuard.go X1.out.low ⟨_, _, rfl, Ur2.out, Ur3.out⟩) (cGuard.go X1.out.low ⟨_, _, rfl, Ur2'.out, Ur3'.out⟩))
  go_wp2_with fail
  refine CX.out.mono ?_
  rintro _ W2 ⟨rfl, hbd⟩
  have X2 := hide (Bx.call X1.out hbd)
  clear a0 b0 a1 b1 a2 b2 a3 b3 a4 b4 a5 b5 a6 b6 a7 b7 a8 b8 a9 b9 a10 b10 CX hbd X1
  have a0 := cell_of_row _ _ 0 _ _ _ X2.out.b1
  have b0 := cell_of_row _ _ 0 _ _ _ X2.out.b2
  have a1 := cell_of_row _ _ 1 _ _ _ X2.out.b1
  have b1 := cell_of_row _ _ 1 _ _ _ X2.out.b2
  have a2 := cell_of_row _ _ 2 _ _ _ X2.out.b1
  have b2 := cell_of_row _ _ 2 _ _ _ X2.out.b2
  have a3 := cell_of_row _ _ 3 _ _ _ X2.out.b1
  have b3 := cell_of_row _ _ 3 _ _ _ X2.out.b2
  have a4 := cell_of_row _ _ 4 _ _ _ X2.out.b1
  have b4 := cell_of_row _ _ 4 _ _ _ X2.out.b2
  have a5 := cell_of_row _ _ 5 _ _ _ X2.out.b1
  have b5 := cell_of_row _ _ 5 _ _ _ X2.out.b2
  have a6 := cell_of_row _ _ 6 _ _ _ X2.out.b1
  have b6 := cell_of_row _ _ 6 _ _ _ X2.out.b2
  have a7 := cell_of_row _ _ 7 _ _ _ X2.out.b1
  have b7 := cell_of_row _ _ 7 _ _ _ X2.out.b2
  have a8 := cell_of_row _ _ 8 _ _ _ X2.out.b1
  have b8 := cell_of_row _ _ 8 _ _ _ X2.out.b2
  have a9 := cell_of_row _ _ 9 _ _ _ X2.out.b1
  have b9 := cell_of_row _ _ 9 _ _ _ X2.out.b2
  have a10 := cell_of_row _ _ 10 _ _ _ X2.out.b1
  have b10 := cell_of_row _ _ 10 _ _ _ X2.out.b2
  simp only [List.getElem?_toArray, List.getElem?_cons_zero, List.getElem?_cons_succ] at a0 b0 a1 b1 a2 b2 a3 b3 a4 b4 a5 b5 a6 b6 a7 b7 a8 b8 a9 b9 a10 b10
  go_wp2_with fail
  go_ret
  exact ⟨rfl, X2.out.low⟩
set_option maxRecDepth 100000 in
set_option maxHeartbeats 3200000 in
theorem samelPr_z {w : World} {a b : Option Addr} {l : List (PremM)} {c d : Nat} (ha : RR w.heap.size 11 (cPrem w.heap.size) w l (.slice a l.length c)) (hb : RR w.heap.size 11 (cPrem w.heap.size) w l (.slice b l.length d)) :
    Calls Tryz.prog 165 #[.slice a l.length c, .slice b l.length d] w fun e w' => e = .returned (.bool true) ∧ Below w.heap.size w w' := by
  have HA := hide ha
  have HB := hide hb
  have hlim := ha.lim
  clear ha hb
  go_enter Tryz.func165, Tryz.ntmps165
  go_wp2_with fail
  go_loopw [5] (fun x wr => ∃ i : Nat, i ≤ l.length ∧ x = .int .i64 i ∧ Hid (Below w.heap.size w wr)) (fun x _ => l.length - (intOf x).toNat)
  case atStart => exact ⟨0, by omega, rfl, hide (Below.refl _ w)⟩
  case round =>
    obtain ⟨i, hk, rfl, HW⟩ := hrel
    by_cases hlt : i < l.length
    · obtain ⟨x, hx⟩ : ∃ x, l[i]? = some x := ⟨l[i], List.getElem?_eq_getElem hlt⟩
      obtain ⟨ga, oa, ys, rfl, hga, _, hca, hcx⟩ := RR.open (RR.go (c' := cPrem wr.heap.size) HW.out HA.out (fun _ _ h => cPrem.go HW.out h)) hx
      obtain ⟨gb, ob, zs, rfl, hgb, _, hcb, hcy⟩ := RR.open (RR.go (c' := cPrem wr.heap.size) HW.out HB.out (fun _ _ h => cPrem.go HW.out h)) hx
      have HX := hide hcx
      have HY := hide hcy
      obtain ⟨_, _, rfl, ⟨av, rfl, p1, r1⟩, ⟨lv, rv, rfl, r2, r3⟩, _, _⟩ := hcx
      obtain ⟨ka, kc, rfl, _⟩ := r1.form
      obtain ⟨la, lc, rfl, _⟩ := r2.form
      obtain ⟨ra, rc, rfl, _⟩ := r3.form
      obtain ⟨_, _, rfl, ⟨av', rfl, p1', r1'⟩, ⟨lv', rv', rfl, r2', r3'⟩, _, _⟩ := hcy
      obtain ⟨ka', kc', rfl, _⟩ := r1'.form
      obtain ⟨la', lc', rfl, _⟩ := r2'.form
      obtain ⟨ra', rc', rfl, _⟩ := r3'.form
      have C := hide (fun w1 (hb' : Below wr.heap.size wr w1) => samePr_z (w := w1) (cPrem.go hb' HX.out) (cPrem.go hb' HY.out))
      have HT : Tw11 wr ga gb (oa + i * 11) (ob + i * 11) (.int .i64 x.kind) (.bool x.lit.neg) (.string ⟨x.lit.pred.toArray⟩) (.slice ka x.lit.args.length kc) (.bool x.lit.hasValue) (.int .i64 x.lit.value) (.slice la x.guard.left.length lc) (.int .i64 x.guard.op) (.slice ra x.guard.right.length rc) (.string ⟨x.a.toArray⟩) (.string ⟨x.b.toArray⟩) (.int .i64 x.kind) (.bool x.lit.neg) (.string ⟨x.lit.pred.toArray⟩) (.slice ka' x.lit.args.length kc') (.bool x.lit.hasValue) (.int .i64 x.lit.value) (.slice la' x.guard.left.length lc') (.int .i64 x.guard.op) (.slice ra' x.guard.right.length rc') (.string ⟨x.a.toArray⟩) (.string ⟨x.b.toArray⟩) wr := ⟨hca 0 _ rfl, hca 1 _ rfl, hca 2 _ rfl, hca 3 _ rfl, hca 4 _ rfl, hca 5 _ rfl, hca 6 _ rfl, hca 7 _ rfl, hca 8 _ rfl, hca 9 _ rfl, hca 10 _ rfl, hcb 0 _ rfl, hcb 1 _ rfl, hcb 2 _ rfl, hcb 3 _ rfl, hcb 4 _ rfl, hcb 5 _ rfl, hcb 6 _ rfl, hcb 7 _ rfl, hcb 8 _ rfl, hcb 9 _ rfl, hcb 10 _ rfl, hga, hgb, Below.refl _ _⟩
      clear hca hcb hx HX HY
      unfold str at *
      go_wp2_with fail
      go_region_held3 (fun X : World => Tw11 wr ga gb (oa + i * 11) (ob + i * 11) (.int .i64 x.kind) (.bool x.lit.neg) (.string ⟨x.lit.pred.toArray⟩) (.slice ka x.lit.args.length kc) (.bool x.lit.hasValue) (.int .i64 x.lit.value) (.slice la x.guard.left.length lc) (.int .i64 x.guard.op) (.slice ra x.guard.right.length rc) (.string ⟨x.a.toArray⟩) (.string ⟨x.b.toArray⟩) (.int .i64 x.kind) (.bool x.lit.neg) (.string ⟨x.lit.pred.toArray⟩) (.slice ka' x.lit.args.length kc') (.bool x.lit.hasValue) (.int .i64 x.lit.value) (.slice la' x.guard.left.length lc') (.int .i64 x.guard.op) (.slice ra' x.guard.right.length rc') (.string ⟨x.a.toArray⟩) (.string ⟨x.b.toArray⟩) X) (first | exact Tw11.drew ‹_› | assumption | exact Tw11.below ‹_› ‹_›) (first | (go_at_call 184; refine (C.out _ (Tw11.b ‹_›)).mono ?_; rintro e w' ⟨rfl, hb⟩))
      rename_i hS
      go_wp2_with fail
      go_roundw
      case rel => exact ⟨i + 1, by omega, by go_num, hide (HW.out.trans ((Tw11.b hS).mono HW.out.size))⟩
      case measure => simp [intOf]; omega
    · go_wp2_with fail
      go_ret
      exact ⟨rfl, HW.out⟩
set_option maxRecDepth 100000 in
set_option maxHeartbeats 3200000 in
theorem sameR_z {w : World} {x : RuleM} {xs ys : List Value} (ha : cRule w.heap.size w x xs) (hb : cRule w.heap.size w x ys) :
    Calls Tryz.prog 120 #[.agg xs.toArray, .agg ys.toArray] w fun e w' => e = .returned (.bool true) ∧ Below w.heap.size w w' := by
  have HA := hide ha
  have HB := hide hb
  obtain ⟨_, _, rfl, _, _, r1, ⟨av, rfl, p3, r2⟩⟩ := ha
  obtain ⟨ba, bc, rfl, _⟩ := r1.form
  obtain ⟨ka, kc, rfl, _⟩ := r2.form
  obtain ⟨_, _, rfl, _, _, r1', ⟨av', rfl, p3', r2'⟩⟩ := hb
  obtain ⟨ba', bc', rfl, _⟩ := r1'.form
  obtain ⟨ka', kc', rfl, _⟩ := r2'.form
  have Ur1 := hide r1
  have Ur1' := hide r1'
  have Ur2 := hide r2
  have Ur2' := hide r2'
  clear r1 r1' r2 r2'
  unfold str at *
  show Calls Tryz.prog 120 #[.agg #[.string ⟨x.name.toArray⟩, .string ⟨x.source.toArray⟩, .int .i64 x.day, .int .i64 x.till, .slice ba x.body.length bc, .int .i64 x.arrow, .bool x.head.neg, .string ⟨x.head.pred.toArray⟩, .slice ka x.head.args.length kc, .bool x.head.hasValue, .int .i64 x.head.value], .agg #[.string ⟨x.name.toArray⟩, .string ⟨x.source.toArray⟩, .int .i64 x.day, .int .i64 x.till, .slice ba' x.body.length bc', .int .i64 x.arrow, .bool x.head.neg, .string ⟨x.head.pred.toArray⟩, .slice ka' x.head.args.length kc', .bool x.head.hasValue, .int .i64 x.head.value]] w _
  have X0 := hide (Bx.two (T := 97) (A := [.string ⟨x.name.toArray⟩, .string ⟨x.source.toArray⟩, .int .i64 x.day, .int .i64 x.till, .slice ba x.body.length bc, .int .i64 x.arrow, .bool x.head.neg, .string ⟨x.head.pred.toArray⟩, .slice ka x.head.args.length kc, .bool x.head.hasValue, .int .i64 x.head.value]) (Z0 := [.string ⟨x.name.toArray⟩, .string ⟨x.source.toArray⟩, .int .i64 x.day, .int .i64 x.till, .slice ba' x.body.length bc', .int .i64 x.arrow, .bool x.head.neg, .string ⟨x.head.pred.toArray⟩, .slice ka' x.head.args.length kc', .bool x.head.hasValue, .int .i64 x.head.value]) (w := w))
  go_enter Tryz.func120, Tryz.ntmps120
  go_upto_region 1 with fail
  generalize (w.alloc (.cells #[.string ⟨x.name.toArray⟩, .string ⟨x.source.toArray⟩, .int .i64 x.day, .int .i64 x.till, .slice ba x.body.length bc, .int .i64 x.arrow, .bool x.head.neg, .string ⟨x.head.pred.toArray⟩, .slice ka x.head.args.length kc, .bool x.head.hasValue, .int .i64 x.head.value] 97)).alloc (.cells #[.string ⟨x.name.toArray⟩, .string ⟨x.source.toArray⟩, .int .i64 x.day, .int .i64 x.till, .slice ba' x.body.length bc', .int .i64 x.arrow, .bool x.head.neg, .string ⟨x.head.pred.toArray⟩, .slice ka' x.head.args.length kc', .bool x.head.hasValue, .int .i64 x.head.value] 97) = W0 at *
  have a0 := cell_of_row _ _ 0 _ _ _ X0.out.b1
  have b0 := cell_of_row _ _ 0 _ _ _ X0.out.b2
  have a1 := cell_of_row _ _ 1 _ _ _ X0.out.b1
  have b1 := cell_of_row _ _ 1 _ _ _ X0.out.b2
  have a2 := cell_of_row _ _ 2 _ _ _ X0.out.b1
  have b2 := cell_of_row _ _ 2 _ _ _ X0.out.b2
  have a3 := cell_of_row _ _ 3 _ _ _ X0.out.b1
  have b3 := cell_of_row _ _ 3 _ _ _ X0.out.b2
  have a4 := cell_of_row _ _ 4 _ _ _ X0.out.b1
  have b4 := cell_of_row _ _ 4 _ _ _ X0.out.b2
  have a5 := cell_of_row _ _ 5 _ _ _ X0.out.b1
  have b5 := cell_of_row _ _ 5 _ _ _ X0.out.b2
  have a6 := cell_of_row _ _ 6 _ _ _ X0.out.b1
  have b6 := cell_of_row _ _ 6 _ _ _ X0.out.b2
  have a7 := cell_of_row _ _ 7 _ _ _ X0.out.b1
  have b7 := cell_of_row _ _ 7 _ _ _ X0.out.b2
  have a8 := cell_of_row _ _ 8 _ _ _ X0.out.b1
  have b8 := cell_of_row _ _ 8 _ _ _ X0.out.b2
  have a9 := cell_of_row _ _ 9 _ _ _ X0.out.b1
  have b9 := cell_of_row _ _ 9 _ _ _ X0.out.b2
  have a10 := cell_of_row _ _ 10 _ _ _ X0.out.b1
  have b10 := cell_of_row _ _ 10 _ _ _ X0.out.b2
  simp only [List.getElem?_toArray, List.getElem?_cons_zero, List.getElem?_cons_succ] at a0 b0 a1 b1 a2 b2 a3 b3 a4 b4 a5 b5 a6 b6 a7 b7 a8 b8 a9 b9 a10 b10
  have CX := hide (samelPr_z (w := W0) (Prems.go X0.out.low Ur1.out) (Prems.go X0.out.low Ur1'.out))
  go_wp2_with fail
  refine CX.out.mono ?_
  rintro _ W1 ⟨rfl, hbd⟩
  have X1 := hide (Bx.call X0.out hbd)
  clear a0 b0 a1 b1 a2 b2 a3 b3 a4 b4 a5 b5 a6 b6 a7 b7 a8 b8 a9 b9 a10 b10 CX hbd X0
  have a0 := cell_of_row _ _ 0 _ _ _ X1.out.b1
  have b0 := cell_of_row _ _ 0 _ _ _ X1.out.b2
  have a1 := cell_of_row _ _ 1 _ _ _ X1.out.b1
  have b1 := cell_of_row _ _ 1 _ _ _ X1.out.b2
  have a2 := cell_of_row _ _ 2 _ _ _ X1.out.b1
  have b2 := cell_of_row _ _ 2 _ _ _ X1.out.b2
  have a3 := cell_of_row _ _ 3 _ _ _ X1.out.b1
  have b3 := cell_of_row _ _ 3 _ _ _ X1.out.b2
  have a4 := cell_of_row _ _ 4 _ _ _ X1.out.b1
  have b4 := cell_of_row _ _ 4 _ _ _ X1.out.b2
  have a5 := cell_of_row _ _ 5 _ _ _ X1.out.b1
  have b5 := cell_of_row _ _ 5 _ _ _ X1.out.b2
  have a6 := cell_of_row _ _ 6 _ _ _ X1.out.b1
  have b6 := cell_of_row _ _ 6 _ _ _ X1.out.b2
  have a7 := cell_of_row _ _ 7 _ _ _ X1.out.b1
  have b7 := cell_of_row _ _ 7 _ _ _ X1.out.b2
  have a8 := cell_of_row _ _ 8 _ _ _ X1.out.b1
  have b8 := cell_of_row _ _ 8 _ _ _ X1.out.b2
  have a9 := cell_of_row _ _ 9 _ _ _ X1.out.b1
  have b9 := cell_of_row _ _ 9 _ _ _ X1.out.b2
  have a10 := cell_of_row _ _ 10 _ _ _ X1.out.b1
  have b10 := cell_of_row _ _ 10 _ _ _ X1.out.b2
  simp only [List.getElem?_toArray, List.getElem?_cons_zero, List.getElem?_cons_succ] at a0 b0 a1 b1 a2 b2 a3 b3 a4 b4 a5 b5 a6 b6 a7 b7 a8 b8 a9 b9 a10 b10
  have CX := hide (sameLi_z (w := W1) (x := x.head) (cLit.go X1.out.low ⟨_, rfl, p3, Ur2.out⟩) (cLit.go X1.out.low ⟨_, rfl, p3', Ur2'.out⟩))
  go_wp2_with fail
  refine CX.out.mono ?_
  rintro _ W2 ⟨rfl, hbd⟩
  have X2 := hide (Bx.call X1.out hbd)
  clear a0 b0 a1 b1 a2 b2 a3 b3 a4 b4 a5 b5 a6 b6 a7 b7 a8 b8 a9 b9 a10 b10 CX hbd X1
  have a0 := cell_of_row _ _ 0 _ _ _ X2.out.b1
  have b0 := cell_of_row _ _ 0 _ _ _ X2.out.b2
  have a1 := cell_of_row _ _ 1 _ _ _ X2.out.b1
  have b1 := cell_of_row _ _ 1 _ _ _ X2.out.b2
  have a2 := cell_of_row _ _ 2 _ _ _ X2.out.b1
  have b2 := cell_of_row _ _ 2 _ _ _ X2.out.b2
  have a3 := cell_of_row _ _ 3 _ _ _ X2.out.b1
  have b3 := cell_of_row _ _ 3 _ _ _ X2.out.b2
  have a4 := cell_of_row _ _ 4 _ _ _ X2.out.b1
  have b4 := cell_of_row _ _ 4 _ _ _ X2.out.b2
  have a5 := cell_of_row _ _ 5 _ _ _ X2.out.b1
  have b5 := cell_of_row _ _ 5 _ _ _ X2.out.b2
  have a6 := cell_of_row _ _ 6 _ _ _ X2.out.b1
  have b6 := cell_of_row _ _ 6 _ _ _ X2.out.b2
  have a7 := cell_of_row _ _ 7 _ _ _ X2.out.b1
  have b7 := cell_of_row _ _ 7 _ _ _ X2.out.b2
  have a8 := cell_of_row _ _ 8 _ _ _ X2.out.b1
  have b8 := cell_of_row _ _ 8 _ _ _ X2.out.b2
  have a9 := cell_of_row _ _ 9 _ _ _ X2.out.b1
  have b9 := cell_of_row _ _ 9 _ _ _ X2.out.b2
  have a10 := cell_of_row _ _ 10 _ _ _ X2.out.b1
  have b10 := cell_of_row _ _ 10 _ _ _ X2.out.b2
  simp only [List.getElem?_toArray, List.getElem?_cons_zero, List.getElem?_cons_succ] at a0 b0 a1 b1 a2 b2 a3 b3 a4 b4 a5 b5 a6 b6 a7 b7 a8 b8 a9 b9 a10 b10
  go_wp2_with fail
  go_ret
  exact ⟨rfl, X2.out.low⟩
set_option maxRecDepth 100000 in
set_option maxHeartbeats 3200000 in
theorem samelR_z {w : World} {a b : Option Addr} {l : List (RuleM)} {c d : Nat} (ha : RR w.heap.size 11 (cRule w.heap.size) w l (.slice a l.length c)) (hb : RR w.heap.size 11 (cRule w.heap.size) w l (.slice b l.length d)) :
    Calls Tryz.prog 64 #[.slice a l.length c, .slice b l.length d] w fun e w' => e = .returned (.bool true) ∧ Below w.heap.size w w' := by
  have HA := hide ha
  have HB := hide hb
  have hlim := ha.lim
  clear ha hb
  go_enter Tryz.func64, Tryz.ntmps64
  go_wp2_with fail
  go_loopw [5] (fun x wr => ∃ i : Nat, i ≤ l.length ∧ x = .int .i64 i ∧ Hid (Below w.heap.size w wr)) (fun x _ => l.length - (intOf x).toNat)
  case atStart => exact ⟨0, by omega, rfl, hide (Below.refl _ w)⟩
  case round =>
    obtain ⟨i, hk, rfl, HW⟩ := hrel
    by_cases hlt : i < l.length
    · obtain ⟨x, hx⟩ : ∃ x, l[i]? = some x := ⟨l[i], List.getElem?_eq_getElem hlt⟩
      obtain ⟨ga, oa, ys, rfl, hga, _, hca, hcx⟩ := RR.open (RR.go (c' := cRule wr.heap.size) HW.out HA.out (fun _ _ h => cRule.go HW.out h)) hx
      obtain ⟨gb, ob, zs, rfl, hgb, _, hcb, hcy⟩ := RR.open (RR.go (c' := cRule wr.heap.size) HW.out HB.out (fun _ _ h => cRule.go HW.out h)) hx
      have HX := hide hcx
      have HY := hide hcy
      obtain ⟨_, _, rfl, _, _, r1, ⟨av, rfl, p3, r2⟩⟩ := hcx
      obtain ⟨ba, bc, rfl, _⟩ := r1.form
      obtain ⟨ka, kc, rfl, _⟩ := r2.form
      obtain ⟨_, _, rfl, _, _, r1', ⟨av', rfl, p3', r2'⟩⟩ := hcy
      obtain ⟨ba', bc', rfl, _⟩ := r1'.form
      obtain ⟨ka', kc', rfl, _⟩ := r2'.form
      have C := hide (fun w1 (hb' : Below wr.heap.size wr w1) => sameR_z (w := w1) (cRule.go hb' HX.out) (cRule.go hb' HY.out))
      have HT : Tw11 wr ga gb (oa + i * 11) (ob + i * 11) (.string ⟨x.name.toArray⟩) (.string ⟨x.source.toArray⟩) (.int .i64 x.day) (.int .i64 x.till) (.slice ba x.body.length bc) (.int .i64 x.arrow) (.bool x.head.neg) (.string ⟨x.head.pred.toArray⟩) (.slice ka x.head.args.length kc) (.bool x.head.hasValue) (.int .i64 x.head.value) (.string ⟨x.name.toArray⟩) (.string ⟨x.source.toArray⟩) (.int .i64 x.day) (.int .i64 x.till) (.slice ba' x.body.length bc') (.int .i64 x.arrow) (.bool x.head.neg) (.string ⟨x.head.pred.toArray⟩) (.slice ka' x.head.args.length kc') (.bool x.head.hasValue) (.int .i64 x.head.value) wr := ⟨hca 0 _ rfl, hca 1 _ rfl, hca 2 _ rfl, hca 3 _ rfl, hca 4 _ rfl, hca 5 _ rfl, hca 6 _ rfl, hca 7 _ rfl, hca 8 _ rfl, hca 9 _ rfl, hca 10 _ rfl, hcb 0 _ rfl, hcb 1 _ rfl, hcb 2 _ rfl, hcb 3 _ rfl, hcb 4 _ rfl, hcb 5 _ rfl, hcb 6 _ rfl, hcb 7 _ rfl, hcb 8 _ rfl, hcb 9 _ rfl, hcb 10 _ rfl, hga, hgb, Below.refl _ _⟩
      clear hca hcb hx HX HY
      unfold str at *
      go_wp2_with fail
      go_region_held3 (fun X : World => Tw11 wr ga gb (oa + i * 11) (ob + i * 11) (.string ⟨x.name.toArray⟩) (.string ⟨x.source.toArray⟩) (.int .i64 x.day) (.int .i64 x.till) (.slice ba x.body.length bc) (.int .i64 x.arrow) (.bool x.head.neg) (.string ⟨x.head.pred.toArray⟩) (.slice ka x.head.args.length kc) (.bool x.head.hasValue) (.int .i64 x.head.value) (.string ⟨x.name.toArray⟩) (.string ⟨x.source.toArray⟩) (.int .i64 x.day) (.int .i64 x.till) (.slice ba' x.body.length bc') (.int .i64 x.arrow) (.bool x.head.neg) (.string ⟨x.head.pred.toArray⟩) (.slice ka' x.head.args.length kc') (.bool x.head.hasValue) (.int .i64 x.head.value) X) (first | exact Tw11.drew ‹_› | assumption | exact Tw11.below ‹_› ‹_›) (first | (go_at_call 120; refine (C.out _ (Tw11.b ‹_›)).mono ?_; rintro e w' ⟨rfl, hb⟩))
      rename_i hS
      go_wp2_with fail
      go_roundw
      case rel => exact ⟨i + 1, by omega, by go_num, hide (HW.out.trans ((Tw11.b hS).mono HW.out.size))⟩
      case measure => simp [intOf]; omega
    · go_wp2_with fail
      go_ret
      exact ⟨rfl, HW.out⟩
set_option maxRecDepth 100000 in
set_option maxHeartbeats 3200000 in
theorem sameP_z {w : World} {x : PredM} {xs ys : List Value} (ha : cPred w.heap.size w x xs) (hb : cPred w.heap.size w x ys) :
    Calls Tryz.prog 119 #[.agg xs.toArray, .agg ys.toArray] w fun e w' => e = .returned (.bool true) ∧ Below w.heap.size w w' := by
  have HA := hide ha
  have HB := hide hb
  obtain ⟨kv, vv, rfl, _, r1, r2⟩ := ha
  obtain ⟨ka, kc, rfl, _⟩ := r1.form
  obtain ⟨va, vc, rfl, _⟩ := r2.form
  obtain ⟨kv', vv', rfl, _, r1', r2'⟩ := hb
  obtain ⟨ka', kc', rfl, _⟩ := r1'.form
  obtain ⟨va', vc', rfl, _⟩ := r2'.form
  have Ur1 := hide r1
  have Ur1' := hide r1'
  have Ur2 := hide r2
  have Ur2' := hide r2'
  clear r1 r1' r2 r2'
  unfold str at *
  show Calls Tryz.prog 119 #[.agg #[.string ⟨x.name.toArray⟩, .int .i64 x.sort, .slice ka x.kinds.length kc, .slice va x.values.length vc], .agg #[.string ⟨x.name.toArray⟩, .int .i64 x.sort, .slice ka' x.kinds.length kc', .slice va' x.values.length vc']] w _
  have X0 := hide (Bx.two (T := 132) (A := [.string ⟨x.name.toArray⟩, .int .i64 x.sort, .slice ka x.kinds.length kc, .slice va x.values.length vc]) (Z0 := [.string ⟨x.name.toArray⟩, .int .i64 x.sort, .slice ka' x.kinds.length kc', .slice va' x.values.length vc']) (w := w))
  go_enter Tryz.func119, Tryz.ntmps119
  go_upto_region 1 with fail
  generalize (w.alloc (.cells #[.string ⟨x.name.toArray⟩, .int .i64 x.sort, .slice ka x.kinds.length kc, .slice va x.values.length vc] 132)).alloc (.cells #[.string ⟨x.name.toArray⟩, .int .i64 x.sort, .slice ka' x.kinds.length kc', .slice va' x.values.length vc'] 132) = W0 at *
  have a0 := cell_of_row _ _ 0 _ _ _ X0.out.b1
  have b0 := cell_of_row _ _ 0 _ _ _ X0.out.b2
  have a1 := cell_of_row _ _ 1 _ _ _ X0.out.b1
  have b1 := cell_of_row _ _ 1 _ _ _ X0.out.b2
  have a2 := cell_of_row _ _ 2 _ _ _ X0.out.b1
  have b2 := cell_of_row _ _ 2 _ _ _ X0.out.b2
  have a3 := cell_of_row _ _ 3 _ _ _ X0.out.b1
  have b3 := cell_of_row _ _ 3 _ _ _ X0.out.b2
  simp only [List.getElem?_toArray, List.getElem?_cons_zero, List.getElem?_cons_succ] at a0 b0 a1 b1 a2 b2 a3 b3
  have CX := hide (sameS_z (w := W0) (Strs.go X0.out.low Ur1.out) (Strs.go X0.out.low Ur1'.out))
  go_wp2_with fail
  refine CX.out.mono ?_
  rintro _ W1 ⟨rfl, q0, hq0⟩
  have hbd : Below W0.heap.size W0 W1 := by rw [hq0]; exact below_drewN _ _
  clear hq0
  have X1 := hide (Bx.call X0.out hbd)
  clear a0 b0 a1 b1 a2 b2 a3 b3 CX hbd X0
  have a0 := cell_of_row _ _ 0 _ _ _ X1.out.b1
  have b0 := cell_of_row _ _ 0 _ _ _ X1.out.b2
  have a1 := cell_of_row _ _ 1 _ _ _ X1.out.b1
  have b1 := cell_of_row _ _ 1 _ _ _ X1.out.b2
  have a2 := cell_of_row _ _ 2 _ _ _ X1.out.b1
  have b2 := cell_of_row _ _ 2 _ _ _ X1.out.b2
  have a3 := cell_of_row _ _ 3 _ _ _ X1.out.b1
  have b3 := cell_of_row _ _ 3 _ _ _ X1.out.b2
  simp only [List.getElem?_toArray, List.getElem?_cons_zero, List.getElem?_cons_succ] at a0 b0 a1 b1 a2 b2 a3 b3
  have CX := hide (sameV_z (w := W1) (Moneys.go X1.out.low Ur2.out) (Moneys.go X1.out.low Ur2'.out))
  go_wp2_with fail
  refine CX.out.mono ?_
  rintro _ W2 ⟨rfl, q1, hq1⟩
  have hbd : Below W1.heap.size W1 W2 := by rw [hq1]; exact below_drewN _ _
  clear hq1
  have X2 := hide (Bx.call X1.out hbd)
  clear a0 b0 a1 b1 a2 b2 a3 b3 CX hbd X1
  have a0 := cell_of_row _ _ 0 _ _ _ X2.out.b1
  have b0 := cell_of_row _ _ 0 _ _ _ X2.out.b2
  have a1 := cell_of_row _ _ 1 _ _ _ X2.out.b1
  have b1 := cell_of_row _ _ 1 _ _ _ X2.out.b2
  have a2 := cell_of_row _ _ 2 _ _ _ X2.out.b1
  have b2 := cell_of_row _ _ 2 _ _ _ X2.out.b2
  have a3 := cell_of_row _ _ 3 _ _ _ X2.out.b1
  have b3 := cell_of_row _ _ 3 _ _ _ X2.out.b2
  simp only [List.getElem?_toArray, List.getElem?_cons_zero, List.getElem?_cons_succ] at a0 b0 a1 b1 a2 b2 a3 b3
  go_wp2_with fail
  go_ret
  exact ⟨rfl, X2.out.low⟩
set_option maxRecDepth 100000 in
set_option maxHeartbeats 3200000 in
theorem samelP_z {w : World} {a b : Option Addr} {l : List (PredM)} {c d : Nat} (ha : RR w.heap.size 4 (cPred w.heap.size) w l (.slice a l.length c)) (hb : RR w.heap.size 4 (cPred w.heap.size) w l (.slice b l.length d)) :
    Calls Tryz.prog 61 #[.slice a l.length c, .slice b l.length d] w fun e w' => e = .returned (.bool true) ∧ Below w.heap.size w w' := by
  have HA := hide ha
  have HB := hide hb
  have hlim := ha.lim
  clear ha hb
  go_enter Tryz.func61, Tryz.ntmps61
  go_wp2_with fail
  go_loopw [5] (fun x wr => ∃ i : Nat, i ≤ l.length ∧ x = .int .i64 i ∧ Hid (Below w.heap.size w wr)) (fun x _ => l.length - (intOf x).toNat)
  case atStart => exact ⟨0, by omega, rfl, hide (Below.refl _ w)⟩
  case round =>
    obtain ⟨i, hk, rfl, HW⟩ := hrel
    by_cases hlt : i < l.length
    · obtain ⟨x, hx⟩ : ∃ x, l[i]? = some x := ⟨l[i], List.getElem?_eq_getElem hlt⟩
      obtain ⟨ga, oa, ys, rfl, hga, _, hca, hcx⟩ := RR.open (RR.go (c' := cPred wr.heap.size) HW.out HA.out (fun _ _ h => cPred.go HW.out h)) hx
      obtain ⟨gb, ob, zs, rfl, hgb, _, hcb, hcy⟩ := RR.open (RR.go (c' := cPred wr.heap.size) HW.out HB.out (fun _ _ h => cPred.go HW.out h)) hx
      have HX := hide hcx
      have HY := hide hcy
      obtain ⟨kv, vv, rfl, _, r1, r2⟩ := hcx
      obtain ⟨ka, kc, rfl, _⟩ := r1.form
      obtain ⟨va, vc, rfl, _⟩ := r2.form
      obtain ⟨kv', vv', rfl, _, r1', r2'⟩ := hcy
      obtain ⟨ka', kc', rfl, _⟩ := r1'.form
      obtain ⟨va', vc', rfl, _⟩ := r2'.form
      have C := hide (fun w1 (hb' : Below wr.heap.size wr w1) => sameP_z (w := w1) (cPred.go hb' HX.out) (cPred.go hb' HY.out))
      have HT : Tw4 wr ga gb (oa + i * 4) (ob + i * 4) (.string ⟨x.name.toArray⟩) (.int .i64 x.sort) (.slice ka x.kinds.length kc) (.slice va x.values.length vc) (.string ⟨x.name.toArray⟩) (.int .i64 x.sort) (.slice ka' x.kinds.length kc') (.slice va' x.values.length vc') wr := ⟨hca 0 _ rfl, hca 1 _ rfl, hca 2 _ rfl, hca 3 _ rfl, hcb 0 _ rfl, hcb 1 _ rfl, hcb 2 _ rfl, hcb 3 _ rfl, hga, hgb, Below.refl _ _⟩
      clear hca hcb hx HX HY
      unfold str at *
      go_wp2_with fail
      go_region_held3 (fun X : World => Tw4 wr ga gb (oa + i * 4) (ob + i * 4) (.string ⟨x.name.toArray⟩) (.int .i64 x.sort) (.slice ka x.kinds.length kc) (.slice va x.values.length vc) (.string ⟨x.name.toArray⟩) (.int .i64 x.sort) (.slice ka' x.kinds.length kc') (.slice va' x.values.length vc') X) (first | exact Tw4.drew ‹_› | assumption | exact Tw4.below ‹_› ‹_›) (first | (go_at_call 119; refine (C.out _ (Tw4.b ‹_›)).mono ?_; rintro e w' ⟨rfl, hb⟩))
      rename_i hS
      go_wp2_with fail
      go_roundw
      case rel => exact ⟨i + 1, by omega, by go_num, hide (HW.out.trans ((Tw4.b hS).mono HW.out.size))⟩
      case measure => simp [intOf]; omega
    · go_wp2_with fail
      go_ret
      exact ⟨rfl, HW.out⟩
set_option maxRecDepth 100000 in
set_option maxHeartbeats 3200000 in
theorem sameT_z {w : World} {x : TotalM} {xs ys : List Value} (ha : cTotal w.heap.size w x xs) (hb : cTotal w.heap.size w x ys) :
    Calls Tryz.prog 121 #[.agg xs.toArray, .agg ys.toArray] w fun e w' => e = .returned (.bool true) ∧ Below w.heap.size w w' := by
  have HA := hide ha
  have HB := hide hb
  obtain ⟨pv, rfl, _, _, r1⟩ := ha
  obtain ⟨ka, kc, rfl, _⟩ := r1.form
  obtain ⟨pv', rfl, _, _, r1'⟩ := hb
  obtain ⟨ka', kc', rfl, _⟩ := r1'.form
  have Ur1 := hide r1
  have Ur1' := hide r1'
  clear r1 r1'
  unfold str at *
  show Calls Tryz.prog 121 #[.agg #[.string ⟨x.name.toArray⟩, .string ⟨x.kind.toArray⟩, .slice ka x.preds.length kc, .bool x.hasCap, .int .i64 x.cap], .agg #[.string ⟨x.name.toArray⟩, .string ⟨x.kind.toArray⟩, .slice ka' x.preds.length kc', .bool x.hasCap, .int .i64 x.cap]] w _
  have X0 := hide (Bx.two (T := 142) (A := [.string ⟨x.name.toArray⟩, .string ⟨x.kind.toArray⟩, .slice ka x.preds.length kc, .bool x.hasCap, .int .i64 x.cap]) (Z0 := [.string ⟨x.name.toArray⟩, .string ⟨x.kind.toArray⟩, .slice ka' x.preds.length kc', .bool x.hasCap, .int .i64 x.cap]) (w := w))
  go_enter Tryz.func121, Tryz.ntmps121
  go_upto_region 1 with fail
  generalize (w.alloc (.cells #[.string ⟨x.name.toArray⟩, .string ⟨x.kind.toArray⟩, .slice ka x.preds.length kc, .bool x.hasCap, .int .i64 x.cap] 142)).alloc (.cells #[.string ⟨x.name.toArray⟩, .string ⟨x.kind.toArray⟩, .slice ka' x.preds.length kc', .bool x.hasCap, .int .i64 x.cap] 142) = W0 at *
  have a0 := cell_of_row _ _ 0 _ _ _ X0.out.b1
  have b0 := cell_of_row _ _ 0 _ _ _ X0.out.b2
  have a1 := cell_of_row _ _ 1 _ _ _ X0.out.b1
  have b1 := cell_of_row _ _ 1 _ _ _ X0.out.b2
  have a2 := cell_of_row _ _ 2 _ _ _ X0.out.b1
  have b2 := cell_of_row _ _ 2 _ _ _ X0.out.b2
  have a3 := cell_of_row _ _ 3 _ _ _ X0.out.b1
  have b3 := cell_of_row _ _ 3 _ _ _ X0.out.b2
  have a4 := cell_of_row _ _ 4 _ _ _ X0.out.b1
  have b4 := cell_of_row _ _ 4 _ _ _ X0.out.b2
  simp only [List.getElem?_toArray, List.getElem?_cons_zero, List.getElem?_cons_succ] at a0 b0 a1 b1 a2 b2 a3 b3 a4 b4
  have CX := hide (sameS_z (w := W0) (Strs.go X0.out.low Ur1.out) (Strs.go X0.out.low Ur1'.out))
  go_wp2_with fail
  refine CX.out.mono ?_
  rintro _ W1 ⟨rfl, q0, hq0⟩
  have hbd : Below W0.heap.size W0 W1 := by rw [hq0]; exact below_drewN _ _
  clear hq0
  have X1 := hide (Bx.call X0.out hbd)
  clear a0 b0 a1 b1 a2 b2 a3 b3 a4 b4 CX hbd X0
  have a0 := cell_of_row _ _ 0 _ _ _ X1.out.b1
  have b0 := cell_of_row _ _ 0 _ _ _ X1.out.b2
  have a1 := cell_of_row _ _ 1 _ _ _ X1.out.b1
  have b1 := cell_of_row _ _ 1 _ _ _ X1.out.b2
  have a2 := cell_of_row _ _ 2 _ _ _ X1.out.b1
  have b2 := cell_of_row _ _ 2 _ _ _ X1.out.b2
  have a3 := cell_of_row _ _ 3 _ _ _ X1.out.b1
  have b3 := cell_of_row _ _ 3 _ _ _ X1.out.b2
  have a4 := cell_of_row _ _ 4 _ _ _ X1.out.b1
  have b4 := cell_of_row _ _ 4 _ _ _ X1.out.b2
  simp only [List.getElem?_toArray, List.getElem?_cons_zero, List.getElem?_cons_succ] at a0 b0 a1 b1 a2 b2 a3 b3 a4 b4
  go_wp2_with fail
  go_ret
  exact ⟨rfl, X1.out.low⟩
set_option maxRecDepth 100000 in
set_option maxHeartbeats 3200000 in
theorem samelT_z {w : World} {a b : Option Addr} {l : List (TotalM)} {c d : Nat} (ha : RR w.heap.size 5 (cTotal w.heap.size) w l (.slice a l.length c)) (hb : RR w.heap.size 5 (cTotal w.heap.size) w l (.slice b l.length d)) :
    Calls Tryz.prog 66 #[.slice a l.length c, .slice b l.length d] w fun e w' => e = .returned (.bool true) ∧ Below w.heap.size w w' := by
  have HA := hide ha
  have HB := hide hb
  have hlim := ha.lim
  clear ha hb
  go_enter Tryz.func66, Tryz.ntmps66
  go_wp2_with fail
  go_loopw [5] (fun x wr => ∃ i : Nat, i ≤ l.length ∧ x = .int .i64 i ∧ Hid (Below w.heap.size w wr)) (fun x _ => l.length - (intOf x).toNat)
  case atStart => exact ⟨0, by omega, rfl, hide (Below.refl _ w)⟩
  case round =>
    obtain ⟨i, hk, rfl, HW⟩ := hrel
    by_cases hlt : i < l.length
    · obtain ⟨x, hx⟩ : ∃ x, l[i]? = some x := ⟨l[i], List.getElem?_eq_getElem hlt⟩
      obtain ⟨ga, oa, ys, rfl, hga, _, hca, hcx⟩ := RR.open (RR.go (c' := cTotal wr.heap.size) HW.out HA.out (fun _ _ h => cTotal.go HW.out h)) hx
      obtain ⟨gb, ob, zs, rfl, hgb, _, hcb, hcy⟩ := RR.open (RR.go (c' := cTotal wr.heap.size) HW.out HB.out (fun _ _ h => cTotal.go HW.out h)) hx
      have HX := hide hcx
      have HY := hide hcy
      obtain ⟨pv, rfl, _, _, r1⟩ := hcx
      obtain ⟨ka, kc, rfl, _⟩ := r1.form
      obtain ⟨pv', rfl, _, _, r1'⟩ := hcy
      obtain ⟨ka', kc', rfl, _⟩ := r1'.form
      have C := hide (fun w1 (hb' : Below wr.heap.size wr w1) => sameT_z (w := w1) (cTotal.go hb' HX.out) (cTotal.go hb' HY.out))
      have HT : Tw5 wr ga gb (oa + i * 5) (ob + i * 5) (.string ⟨x.name.toArray⟩) (.string ⟨x.kind.toArray⟩) (.slice ka x.preds.length kc) (.bool x.hasCap) (.int .i64 x.cap) (.string ⟨x.name.toArray⟩) (.string ⟨x.kind.toArray⟩) (.slice ka' x.preds.length kc') (.bool x.hasCap) (.int .i64 x.cap) wr := ⟨hca 0 _ rfl, hca 1 _ rfl, hca 2 _ rfl, hca 3 _ rfl, hca 4 _ rfl, hcb 0 _ rfl, hcb 1 _ rfl, hcb 2 _ rfl, hcb 3 _ rfl, hcb 4 _ rfl, hga, hgb, Below.refl _ _⟩
      clear hca hcb hx HX HY
      unfold str at *
      go_wp2_with fail
      go_region_held3 (fun X : World => Tw5 wr ga gb (oa + i * 5) (ob + i * 5) (.string ⟨x.name.toArray⟩) (.string ⟨x.kind.toArray⟩) (.slice ka x.preds.length kc) (.bool x.hasCap) (.int .i64 x.cap) (.string ⟨x.name.toArray⟩) (.string ⟨x.kind.toArray⟩) (.slice ka' x.preds.length kc') (.bool x.hasCap) (.int .i64 x.cap) X) (first | exact Tw5.drew ‹_› | assumption | exact Tw5.below ‹_› ‹_›) (first | (go_at_call 121; refine (C.out _ (Tw5.b ‹_›)).mono ?_; rintro e w' ⟨rfl, hb⟩))
      rename_i hS
      go_wp2_with fail
      go_roundw
      case rel => exact ⟨i + 1, by omega, by go_num, hide (HW.out.trans ((Tw5.b hS).mono HW.out.size))⟩
      case measure => simp [intOf]; omega
    · go_wp2_with fail
      go_ret
      exact ⟨rfl, HW.out⟩
set_option maxRecDepth 100000 in
set_option maxHeartbeats 3200000 in
theorem samelC_z {w : World} {a b : Option Addr} {l : List (List Bytes)} {c d : Nat} (ha : RR w.heap.size 1 (cClass w.heap.size) w l (.slice a l.length c)) (hb : RR w.heap.size 1 (cClass w.heap.size) w l (.slice b l.length d)) :
    Calls Tryz.prog 62 #[.slice a l.length c, .slice b l.length d] w fun e w' => e = .returned (.bool true) ∧ Below w.heap.size w w' := by
  have HA := hide ha
  have HB := hide hb
  have hlim := ha.lim
  clear ha hb
  go_enter Tryz.func62, Tryz.ntmps62
  go_wp2_with fail
  go_loopw [5] (fun x wr => ∃ i : Nat, i ≤ l.length ∧ x = .int .i64 i ∧ Hid (Below w.heap.size w wr)) (fun x _ => l.length - (intOf x).toNat)
  case atStart => exact ⟨0, by omega, rfl, hide (Below.refl _ w)⟩
  case round =>
    obtain ⟨i, hk, rfl, HW⟩ := hrel
    by_cases hlt : i < l.length
    · obtain ⟨x, hx⟩ : ∃ x, l[i]? = some x := ⟨l[i], List.getElem?_eq_getElem hlt⟩
      obtain ⟨ga, oa, ys, rfl, hga, _, hca, hcx⟩ := RR.open (RR.go (c' := cClass wr.heap.size) HW.out HA.out (fun _ _ h => cClass.go HW.out h)) hx
      obtain ⟨gb, ob, zs, rfl, hgb, _, hcb, hcy⟩ := RR.open (RR.go (c' := cClass wr.heap.size) HW.out HB.out (fun _ _ h => cClass.go HW.out h)) hx
      have HX := hide hcx
      have HY := hide hcy
      obtain ⟨cv, rfl, r1⟩ := hcx
      obtain ⟨ka, kc, rfl, _⟩ := r1.form
      obtain ⟨cv', rfl, r1'⟩ := hcy
      obtain ⟨ka', kc', rfl, _⟩ := r1'.form
      have C := hide (fun w1 (hb' : Below wr.heap.size wr w1) => sameS_z (w := w1) (Strs.go hb' r1) (Strs.go hb' r1'))
      have hca0 := hca 0 _ rfl
      have hcb0 := hcb 0 _ rfl
      rw [Nat.mul_one] at hca0 hcb0
      have HT : Tw1 wr ga gb (oa + i) (ob + i) (.slice ka x.length kc) (.slice ka' x.length kc') wr := ⟨hca0, hcb0, hga, hgb, Below.refl _ _⟩
      clear hca hcb hx HX HY hca0 hcb0
      unfold str at *
      go_wp2_with fail
      go_region_held3 (fun X : World => Tw1 wr ga gb (oa + i) (ob + i) (.slice ka x.length kc) (.slice ka' x.length kc') X) (first | exact Tw1.drew ‹_› | assumption | exact Tw1.below ‹_› ‹_›) (first | (go_at_call 13; refine (C.out _ (Tw1.b ‹_›)).mono ?_; rintro e w' ⟨rfl, q9, hq9⟩; have hb := below_eq hq9; clear hq9))
      rename_i hS
      go_wp2_with fail
      go_roundw
      case rel => exact ⟨i + 1, by omega, by go_num, hide (HW.out.trans ((Tw1.b hS).mono HW.out.size))⟩
      case measure => simp [intOf]; omega
    · go_wp2_with fail
      go_ret
      exact ⟨rfl, HW.out⟩
end Go.Proofs.YtfnobccminhjpaaGreat
