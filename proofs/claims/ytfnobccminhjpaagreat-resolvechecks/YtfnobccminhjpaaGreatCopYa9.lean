/- Copies: terms, guards, premises, rules, predicates, totals. By program (tools/gen8/copz9.py). -/
import Derived.Test.YtfnobccminhjpaaGreatCopZ9
namespace Go.Proofs.YtfnobccminhjpaaGreat
open Go.RowKit Go.Shelf Go.Maps Go.WideMaps
theorem infzlTe : (Tryz.prog.info? 156).map (fun i => (i.zero, i.size, i.bytes)) = some (some (.agg #[.int .i64 0, .string ⟨#[]⟩, .slice none 0 0, .int .i64 0]), 4, 56) := by kernel_rfl
set_option maxRecDepth 100000 in
set_option maxHeartbeats 3200000 in
theorem copylTe_z {w : World} {a : Option Addr} {l : List (TermM)} {c : Nat} (h : RR w.heap.size 4 (cTerm w.heap.size) w l (.slice a l.length c)) (hl : Szs 56 szT l) :
    Calls Tryz.prog 192 #[.slice a l.length c] w fun e w' => ∃ xa xc, e = .returned (.slice xa l.length xc) ∧ RZ (Nw w w') 4 (cTermZ (Nw w w')) w' l (.slice xa l.length xc) ∧ Below w.heap.size w w' := by
  obtain ⟨iM, hiM, zM0, zM1, zM2⟩ := info_parts' infzlTe
  have HM := hide h
  have HL := hide hl
  have hb9 := hl.1
  have O1 : Hid (Gz 156 4 cTermZ w (l.take 0) 0 (.slice none 0 0) w) := hide Gz.nil
  clear h hl
  go_enter Tryz.func192, Tryz.ntmps192
  go_wp2_with fail
  go_loopw [3, 4] (fun mv x wr => ∃ (i : Nat) (a0 : Option Addr) (c0 : Nat), i ≤ l.length ∧ x = .int .i64 i ∧ mv = .slice a0 i c0 ∧ Hid (Gz 156 4 cTermZ w (l.take i) i (.slice a0 i c0) wr)) (fun _ x _ => l.length - (intOf x).toNat)
  case atStart => exact ⟨0, none, 0, by omega, rfl, rfl, O1⟩
  case round =>
    clear O1
    obtain ⟨i, a0, c0, hi, rfl, rfl, HO⟩ := hrel
    by_cases hlt : i < l.length
    · obtain ⟨x, hx⟩ : ∃ x, l[i]? = some x := ⟨l[i], List.getElem?_eq_getElem hlt⟩
      have HT := hide (take_snoc hx)
      have HSZ := hide (Szs.at HL.out hx)
      obtain ⟨g, o, ys, rfl, hg, hk, hcell, hcx⟩ := RR.open (RR.go (c' := (cTerm wr.heap.size)) HO.out.low HM.out (fun _ _ h => cTerm.go HO.out.low h)) hx
      have HC := hide hcx
      obtain ⟨av, rfl, p1, r2⟩ := hcx
      obtain ⟨ka, kc, rfl, _⟩ := r2.form
      clear hk hx
      have d0 : wr.cell? ⟨g, o + i * 4, none⟩ = some (.int .i64 x.coef) := hcell 0 _ rfl
      have d1 : wr.cell? ⟨g, o + i * 4 + 1, none⟩ = some (.string ⟨x.pred.toArray⟩) := hcell 1 _ rfl
      have d2 : wr.cell? ⟨g, o + i * 4 + 2, none⟩ = some (.slice ka x.args.length kc) := hcell 2 _ rfl
      have d3 : wr.cell? ⟨g, o + i * 4 + 3, none⟩ = some (.int .i64 x.value) := hcell 3 _ rfl
      clear hcell
      unfold str at *
      obtain ⟨Z, xs, hrow, hz, hold⟩ := HO.out.body
      have HROW := hide hrow
      have HZ := hide hz
      have HOLD := hide hold
      have HL1 : w.heap.size ≤ wr.heap.size := HO.out.low.size
      have hgw : g < wr.heap.size := by omega
      clear hrow hz hold
      have CX := hide (copyTe_z (w := wr) HC.out HSZ.out)
      go_wp2_with fail
      refine CX.out.mono ?_
      rintro _ wd ⟨zs, rfl, hnew, hbd⟩
      have HNEW := hide hnew
      have HBD := hide hbd
      have HROW2 := hide (owns_keep HROW.out fun g hg => hbd.block g (owns_lt HROW.out hg))
      have HL2 : wr.heap.size ≤ wd.heap.size := hbd.size
      clear CX d0 d1 d2 d3
      obtain ⟨av2, rfl, -, q2⟩ := hnew
      obtain ⟨xa, xc, rfl⟩ := RZ.form q2
      unfold str at *
      clear hbd
      go_wp2_with (at_builtin; go_must (refine wpList_append_two _ rfl _ _ 118 rfl w.heap.size 156 iM _ 4 56 Tryz.underlying118 hiM zM0 zM1 zM2 rfl (by decide) _ _ _ rfl (HROW2.out.alloc _) ⟨wd.heap.size, 0, none⟩ 1 [.int .i64 x.coef, .string ⟨x.pred.toArray⟩, .slice xa x.args.length xc, .int .i64 x.value] rfl rfl (news_at rfl) (by simp [Value.oneCell']) (by unfold maxLen; omega) (by omega) (by simp; omega) ?_); intro g4 cap4 w4 hown4 hg4)
      have hz : (wd.alloc (.cells #[.int .i64 x.coef, .string ⟨x.pred.toArray⟩, .slice xa x.args.length xc, .int .i64 x.value] 156)).heap.size = wd.heap.size + 1 := by simp
      rw [hz] at hg4
      refine ⟨⟨i + 1, some ⟨g4, 0, none⟩, cap4, by omega, by go_num, rfl, hide ?_⟩, by simp [intOf]; omega⟩
      rw [HT.out]
      exact Gz.grow (fun _ _ _ _ _ _ ag h => cTermZ.keep ag h) HO.out.low HO.out.len HROW.out HZ.out HOLD.out HBD.out HNEW.out rfl hown4 hg4
    · have hk' : i = l.length := by omega
      subst hk'
      have HE := hide (List.take_of_length_le (Nat.le_refl l.length))
      rw [HE.out] at HO
      go_wp2_with fail
      go_ret
      exact ⟨_, _, rfl, Gz.done (fun _ _ _ _ _ _ ag h => cTermZ.keep ag h) HO.out HM.out.lim, HO.out.low⟩
set_option maxRecDepth 100000 in
set_option maxHeartbeats 3200000 in
theorem copyGu_q {w : World} {x : GuardM} {xs : List Value} (h : cGuard w.heap.size w x xs) (hs : szG x) (Q : Ending → World → Prop) (hQ : ∀ ys w', cGuardZ (Nw w w') w' x ys → Below w.heap.size w w' → Q (.returned (.agg ys.toArray)) w') :
    Calls Tryz.prog 185 #[.agg xs.toArray] w Q := by
  obtain ⟨lv, rv, rfl, r0, r2⟩ := h
  obtain ⟨la, lc, rfl, _⟩ := r0.form
  obtain ⟨ra, rc, rfl, _⟩ := r2.form
  have R0 := hide r0
  have R2 := hide r2
  clear r0 r2
  have HQ := hide hQ
  have HSZ := hide hs
  clear hQ hs
  unfold str at *
  show Calls Tryz.prog 185 #[.agg #[.slice la x.left.length lc, .int .i64 x.op, .slice ra x.right.length rc]] w Q
  have X0 := hide (Bx.two (T := 121) (A := [.slice la x.left.length lc, .int .i64 x.op, .slice ra x.right.length rc]) (Z0 := [.slice none 0 0, .int .i64 0, .slice none 0 0]) (w := w))
  go_enter Tryz.func185, Tryz.ntmps185
  go_upto_region 1 with fail
  generalize (w.alloc (.cells #[.slice la x.left.length lc, .int .i64 x.op, .slice ra x.right.length rc] 121)).alloc (.cells #[.slice none 0 0, .int .i64 0, .slice none 0 0] 121) = W0 at *
  have a0 := cell_of_row _ _ 0 _ _ _ X0.out.b1
  simp only [List.getElem?_toArray, List.getElem?_cons_zero] at a0
  have CX := hide (copylTe_z (w := W0) (Terms.go X0.out.low R0.out) HSZ.out.1)
  go_wp2_with fail
  refine CX.out.mono ?_
  rintro _ v1 ⟨xa, xc, rfl, hv, hbd⟩
  have HBD := hide hbd
  have Y0 := hide (X0.out.call hbd)
  have V0 := hide (TermsZ.keep (Bx.agn X0.out (w3 := v1) 0 [.slice xa x.left.length xc]) hv)
  have X1 := hide (Bx.set (A' := [.slice xa x.left.length xc, .int .i64 x.op, .slice ra x.right.length rc]) Y0.out 0 [.slice xa x.left.length xc] rfl)
  have c0 := cell_of_row _ _ 0 _ _ _ Y0.out.b1
  have f0 := frozen_of_row v1 _ 0 _ _ Y0.out.b1
  simp only [List.getElem?_toArray, List.getElem?_cons_zero] at c0
  simp only [setAll] at X1 V0
  clear CX hbd X0 Y0 HBD a0 hv
  go_upto_region 2 with fail
  clear c0 f0
  generalize (v1).setCell ⟨w.heap.size, 0, none⟩ (.slice xa x.left.length xc) = W1 at *
  have a2 := cell_of_row _ _ 2 _ _ _ X1.out.b1
  simp only [List.getElem?_toArray, List.getElem?_cons_zero, List.getElem?_cons_succ] at a2
  have CX := hide (copylTe_z (w := W1) (Terms.go X1.out.low R2.out) HSZ.out.2)
  go_wp2_with fail
  refine CX.out.mono ?_
  rintro _ v2 ⟨ya, yc, rfl, hv, hbd⟩
  have HBD := hide hbd
  have Y1 := hide (X1.out.call hbd)
  have V0 := hide (TermsZ.keep (Bx.ago HBD.out 2 [.slice ya x.right.length yc]) V0.out)
  have V2 := hide (TermsZ.keep (Bx.agn X1.out (w3 := v2) 2 [.slice ya x.right.length yc]) hv)
  have X2 := hide (Bx.set (A' := [.slice xa x.left.length xc, .int .i64 x.op, .slice ya x.right.length yc]) Y1.out 2 [.slice ya x.right.length yc] rfl)
  have c2 := cell_of_row _ _ 2 _ _ _ Y1.out.b1
  have f2 := frozen_of_row v2 _ 2 _ _ Y1.out.b1
  simp only [List.getElem?_toArray, List.getElem?_cons_zero, List.getElem?_cons_succ] at c2
  simp only [setAll] at X2 V0 V2
  clear CX hbd X1 Y1 HBD a2 hv
  go_upto_region 3 with fail
  clear c2 f2
  generalize (v2).setCell ⟨w.heap.size, 2, none⟩ (.slice ya x.right.length yc) = W2 at *
  have c0 := cell_of_row _ _ 0 _ _ _ X2.out.b1
  have e0 := cell_of_row _ _ 0 _ _ _ X2.out.b2
  have g0 := frozen_of_row W2 _ 0 _ _ X2.out.b2
  have c1 := cell_of_row _ _ 1 _ _ _ X2.out.b1
  have e1 := cell_of_row _ _ 1 _ _ _ X2.out.b2
  have g1 := frozen_of_row W2 _ 1 _ _ X2.out.b2
  have c2 := cell_of_row _ _ 2 _ _ _ X2.out.b1
  have e2 := cell_of_row _ _ 2 _ _ _ X2.out.b2
  have g2 := frozen_of_row W2 _ 2 _ _ X2.out.b2
  simp only [List.getElem?_toArray, List.getElem?_cons_zero, List.getElem?_cons_succ] at c0 e0 c1 e1 c2 e2
  have hne : ¬ w.heap.size = w.heap.size + 1 := by omega
  have HY := hide (Bx.fin X2.out rfl)
  have V0 := hide (TermsZ.keep (Bx.agf (A := [.slice xa x.left.length xc, .int .i64 x.op, .slice ya x.right.length yc])) V0.out)
  have V2 := hide (TermsZ.keep (Bx.agf (A := [.slice xa x.left.length xc, .int .i64 x.op, .slice ya x.right.length yc])) V2.out)
  simp only [setAll] at HY V0 V2
  clear X2
  go_wp2_with fail
  clear hne c0 e0 g0 c1 e1 g1 c2 e2 g2
  generalize (((W2).setCell ⟨w.heap.size + 1, 0, none⟩ (.slice xa x.left.length xc)).setCell ⟨w.heap.size + 1, 1, none⟩ (.int .i64 x.op)).setCell ⟨w.heap.size + 1, 2, none⟩ (.slice ya x.right.length yc) = Y at *
  obtain ⟨hY, hbe⟩ := HY.out
  have z0 := cell_of_row _ _ 0 _ _ _ hY
  have z1 := cell_of_row _ _ 1 _ _ _ hY
  have z2 := cell_of_row _ _ 2 _ _ _ hY
  simp only [List.getElem?_toArray, List.getElem?_cons_zero, List.getElem?_cons_succ] at z0 z1 z2
  clear hY HY
  simp [bodyPost, results, Tryz.results185, go_sem, z0, z1, z2]
  exact HQ.out [.slice xa x.left.length xc, .int .i64 x.op, .slice ya x.right.length yc] Y ⟨_, _, rfl, V0.out, V2.out⟩ hbe
theorem copyGu_z {w : World} {x : GuardM} {xs : List Value} (h : cGuard w.heap.size w x xs) (hs : szG x) :
    Calls Tryz.prog 185 #[.agg xs.toArray] w fun e w' => ∃ ys, e = .returned (.agg ys.toArray) ∧ cGuardZ (Nw w w') w' x ys ∧ Below w.heap.size w w' :=
  copyGu_q h hs _ fun ys _ h1 h2 => ⟨ys, rfl, h1, h2⟩
end Go.Proofs.YtfnobccminhjpaaGreat
/- Copies: a premise. By program (tools/gen8/copz9.py). -/
namespace Go.Proofs.YtfnobccminhjpaaGreat
open Go.RowKit Go.Shelf Go.Maps Go.WideMaps
set_option maxRecDepth 100000 in
set_option maxHeartbeats 3200000 in
theorem copyPr_q {w : World} {x : PremM} {xs : List Value} (h : cPrem w.heap.size w x xs) (hs : szPr x) (Q : Ending → World → Prop) (hQ : ∀ ys w', cPremZ (Nw w w') w' x ys → Below w.heap.size w w' → Q (.returned (.agg ys.toArray)) w') :
    Calls Tryz.prog 169 #[.agg xs.toArray] w Q := by
  obtain ⟨_, _, rfl, ⟨av, rfl, p1, r1⟩, ⟨lv, rv, rfl, r2, r3⟩, p4, p5⟩ := h
  obtain ⟨ka, kc, rfl, _⟩ := r1.form
  obtain ⟨la, lc, rfl, _⟩ := r2.form
  obtain ⟨ra, rc, rfl, _⟩ := r3.form
  have R1 : Hid (cLit w.heap.size w x.lit [.bool x.lit.neg, str x.lit.pred, .slice ka x.lit.args.length kc, .bool x.lit.hasValue, .int .i64 x.lit.value]) := hide ⟨_, rfl, p1, r1⟩
  have R2 : Hid (cGuard w.heap.size w x.guard [.slice la x.guard.left.length lc, .int .i64 x.guard.op, .slice ra x.guard.right.length rc]) := hide ⟨_, _, rfl, r2, r3⟩
  have P1 := hide p1
  have P4 := hide p4
  have P5 := hide p5
  clear p1 p4 p5 r1 r2 r3
  have HQ := hide hQ
  have HSZ := hide hs
  clear hQ hs
  unfold str at *
  show Calls Tryz.prog 169 #[.agg #[.int .i64 x.kind, .bool x.lit.neg, .string ⟨x.lit.pred.toArray⟩, .slice ka x.lit.args.length kc, .bool x.lit.hasValue, .int .i64 x.lit.value, .slice la x.guard.left.length lc, .int .i64 x.guard.op, .slice ra x.guard.right.length rc, .string ⟨x.a.toArray⟩, .string ⟨x.b.toArray⟩]] w Q
  have X0 := hide (Bx.two (T := 123) (A := [.int .i64 x.kind, .bool x.lit.neg, .string ⟨x.lit.pred.toArray⟩, .slice ka x.lit.args.length kc, .bool x.lit.hasValue, .int .i64 x.lit.value, .slice la x.guard.left.length lc, .int .i64 x.guard.op, .slice ra x.guard.right.length rc, .string ⟨x.a.toArray⟩, .string ⟨x.b.toArray⟩]) (Z0 := [.int .i64 0, .bool false, .string ⟨#[]⟩, .slice none 0 0, .bool false, .int .i64 0, .slice none 0 0, .int .i64 0, .slice none 0 0, .string ⟨#[]⟩, .string ⟨#[]⟩]) (w := w))
  go_enter Tryz.func169, Tryz.ntmps169
  go_upto_region 1 with fail
  generalize (w.alloc (.cells #[.int .i64 x.kind, .bool x.lit.neg, .string ⟨x.lit.pred.toArray⟩, .slice ka x.lit.args.length kc, .bool x.lit.hasValue, .int .i64 x.lit.value, .slice la x.guard.left.length lc, .int .i64 x.guard.op, .slice ra x.guard.right.length rc, .string ⟨x.a.toArray⟩, .string ⟨x.b.toArray⟩] 123)).alloc (.cells #[.int .i64 0, .bool false, .string ⟨#[]⟩, .slice none 0 0, .bool false, .int .i64 0, .slice none 0 0, .int .i64 0, .slice none 0 0, .string ⟨#[]⟩, .string ⟨#[]⟩] 123) = W0 at *
  have a1 := cell_of_row _ _ 1 _ _ _ X0.out.b1
  have a2 := cell_of_row _ _ 2 _ _ _ X0.out.b1
  have a3 := cell_of_row _ _ 3 _ _ _ X0.out.b1
  have a4 := cell_of_row _ _ 4 _ _ _ X0.out.b1
  have a5 := cell_of_row _ _ 5 _ _ _ X0.out.b1
  simp only [List.getElem?_toArray, List.getElem?_cons_zero, List.getElem?_cons_succ] at a1 a2 a3 a4 a5
  have CX := hide (copyLi_z (w := W0) (cLit.go X0.out.low R1.out) HSZ.out.1)
  go_wp2_with fail
  refine CX.out.mono ?_
  rintro _ v1 ⟨ys, rfl, ⟨av2, rfl, -, hv⟩, hbd⟩
  have HBD := hide hbd
  obtain ⟨xa, xc, rfl⟩ := RZ.form hv
  unfold str at *
  have Y0 := hide (X0.out.call hbd)
  have V1 := hide (StrsZ.keep (Bx.agn X0.out (w3 := v1) 1 [.bool x.lit.neg, .string ⟨x.lit.pred.toArray⟩, .slice xa x.lit.args.length xc, .bool x.lit.hasValue, .int .i64 x.lit.value]) hv)
  have X1 := hide (Bx.set (A' := [.int .i64 x.kind, .bool x.lit.neg, .string ⟨x.lit.pred.toArray⟩, .slice xa x.lit.args.length xc, .bool x.lit.hasValue, .int .i64 x.lit.value, .slice la x.guard.left.length lc, .int .i64 x.guard.op, .slice ra x.guard.right.length rc, .string ⟨x.a.toArray⟩, .string ⟨x.b.toArray⟩]) Y0.out 1 [.bool x.lit.neg, .string ⟨x.lit.pred.toArray⟩, .slice xa x.lit.args.length xc, .bool x.lit.hasValue, .int .i64 x.lit.value] rfl)
  have c1 := cell_of_row _ _ 1 _ _ _ Y0.out.b1
  have f1 := frozen_of_row v1 _ 1 _ _ Y0.out.b1
  have c2 := cell_of_row _ _ 2 _ _ _ Y0.out.b1
  have f2 := frozen_of_row v1 _ 2 _ _ Y0.out.b1
  have c3 := cell_of_row _ _ 3 _ _ _ Y0.out.b1
  have f3 := frozen_of_row v1 _ 3 _ _ Y0.out.b1
  have c4 := cell_of_row _ _ 4 _ _ _ Y0.out.b1
  have f4 := frozen_of_row v1 _ 4 _ _ Y0.out.b1
  have c5 := cell_of_row _ _ 5 _ _ _ Y0.out.b1
  have f5 := frozen_of_row v1 _ 5 _ _ Y0.out.b1
  simp only [List.getElem?_toArray, List.getElem?_cons_zero, List.getElem?_cons_succ] at c1 c2 c3 c4 c5
  simp only [setAll] at X1 V1
  clear CX hbd X0 Y0 HBD a1 a2 a3 a4 a5 hv
  go_upto_region 2 with fail
  clear c1 f1 c2 f2 c3 f3 c4 f4 c5 f5
  generalize (((((v1).setCell ⟨w.heap.size, 1, none⟩ (.bool x.lit.neg)).setCell ⟨w.heap.size, 2, none⟩ (.string ⟨x.lit.pred.toArray⟩)).setCell ⟨w.heap.size, 3, none⟩ (.slice xa x.lit.args.length xc)).setCell ⟨w.heap.size, 4, none⟩ (.bool x.lit.hasValue)).setCell ⟨w.heap.size, 5, none⟩ (.int .i64 x.lit.value) = W1 at *
  have a6 := cell_of_row _ _ 6 _ _ _ X1.out.b1
  have a7 := cell_of_row _ _ 7 _ _ _ X1.out.b1
  have a8 := cell_of_row _ _ 8 _ _ _ X1.out.b1
  simp only [List.getElem?_toArray, List.getElem?_cons_zero, List.getElem?_cons_succ] at a6 a7 a8
  have CX := hide (copyGu_z (w := W1) (cGuard.go X1.out.low R2.out) HSZ.out.2)
  go_wp2_with fail
  refine CX.out.mono ?_
  rintro _ v2 ⟨ys, rfl, ⟨lv2, rv2, rfl, hv, hu⟩, hbd⟩
  have HBD := hide hbd
  obtain ⟨ya, yc, rfl⟩ := RZ.form hv
  obtain ⟨za, zc, rfl⟩ := RZ.form hu
  have Y1 := hide (X1.out.call hbd)
  have V1 := hide (StrsZ.keep (Bx.ago HBD.out 6 [.slice ya x.guard.left.length yc, .int .i64 x.guard.op, .slice za x.guard.right.length zc]) V1.out)
  have V2 := hide (TermsZ.keep (Bx.agn X1.out (w3 := v2) 6 [.slice ya x.guard.left.length yc, .int .i64 x.guard.op, .slice za x.guard.right.length zc]) hv)
  have V3 := hide (TermsZ.keep (Bx.agn X1.out (w3 := v2) 6 [.slice ya x.guard.left.length yc, .int .i64 x.guard.op, .slice za x.guard.right.length zc]) hu)
  have X2 := hide (Bx.set (A' := [.int .i64 x.kind, .bool x.lit.neg, .string ⟨x.lit.pred.toArray⟩, .slice xa x.lit.args.length xc, .bool x.lit.hasValue, .int .i64 x.lit.value, .slice ya x.guard.left.length yc, .int .i64 x.guard.op, .slice za x.guard.right.length zc, .string ⟨x.a.toArray⟩, .string ⟨x.b.toArray⟩]) Y1.out 6 [.slice ya x.guard.left.length yc, .int .i64 x.guard.op, .slice za x.guard.right.length zc] rfl)
  have c6 := cell_of_row _ _ 6 _ _ _ Y1.out.b1
  have f6 := frozen_of_row v2 _ 6 _ _ Y1.out.b1
  have c7 := cell_of_row _ _ 7 _ _ _ Y1.out.b1
  have f7 := frozen_of_row v2 _ 7 _ _ Y1.out.b1
  have c8 := cell_of_row _ _ 8 _ _ _ Y1.out.b1
  have f8 := frozen_of_row v2 _ 8 _ _ Y1.out.b1
  simp only [List.getElem?_toArray, List.getElem?_cons_zero, List.getElem?_cons_succ] at c6 c7 c8
  simp only [setAll] at X2 V1 V2 V3
  clear CX hbd X1 Y1 HBD a6 a7 a8 hu hv
  go_upto_region 3 with fail
  clear c6 f6 c7 f7 c8 f8
  generalize (((v2).setCell ⟨w.heap.size, 6, none⟩ (.slice ya x.guard.left.length yc)).setCell ⟨w.heap.size, 7, none⟩ (.int .i64 x.guard.op)).setCell ⟨w.heap.size, 8, none⟩ (.slice za x.guard.right.length zc) = W2 at *
  have c0 := cell_of_row _ _ 0 _ _ _ X2.out.b1
  have e0 := cell_of_row _ _ 0 _ _ _ X2.out.b2
  have g0 := frozen_of_row W2 _ 0 _ _ X2.out.b2
  have c1 := cell_of_row _ _ 1 _ _ _ X2.out.b1
  have e1 := cell_of_row _ _ 1 _ _ _ X2.out.b2
  have g1 := frozen_of_row W2 _ 1 _ _ X2.out.b2
  have c2 := cell_of_row _ _ 2 _ _ _ X2.out.b1
  have e2 := cell_of_row _ _ 2 _ _ _ X2.out.b2
  have g2 := frozen_of_row W2 _ 2 _ _ X2.out.b2
  have c3 := cell_of_row _ _ 3 _ _ _ X2.out.b1
  have e3 := cell_of_row _ _ 3 _ _ _ X2.out.b2
  have g3 := frozen_of_row W2 _ 3 _ _ X2.out.b2
  have c4 := cell_of_row _ _ 4 _ _ _ X2.out.b1
  have e4 := cell_of_row _ _ 4 _ _ _ X2.out.b2
  have g4 := frozen_of_row W2 _ 4 _ _ X2.out.b2
  have c5 := cell_of_row _ _ 5 _ _ _ X2.out.b1
  have e5 := cell_of_row _ _ 5 _ _ _ X2.out.b2
  have g5 := frozen_of_row W2 _ 5 _ _ X2.out.b2
  have c6 := cell_of_row _ _ 6 _ _ _ X2.out.b1
  have e6 := cell_of_row _ _ 6 _ _ _ X2.out.b2
  have g6 := frozen_of_row W2 _ 6 _ _ X2.out.b2
  have c7 := cell_of_row _ _ 7 _ _ _ X2.out.b1
  have e7 := cell_of_row _ _ 7 _ _ _ X2.out.b2
  have g7 := frozen_of_row W2 _ 7 _ _ X2.out.b2
  have c8 := cell_of_row _ _ 8 _ _ _ X2.out.b1
  have e8 := cell_of_row _ _ 8 _ _ _ X2.out.b2
  have g8 := frozen_of_row W2 _ 8 _ _ X2.out.b2
  have c9 := cell_of_row _ _ 9 _ _ _ X2.out.b1
  have e9 := cell_of_row _ _ 9 _ _ _ X2.out.b2
  have g9 := frozen_of_row W2 _ 9 _ _ X2.out.b2
  have c10 := cell_of_row _ _ 10 _ _ _ X2.out.b1
  have e10 := cell_of_row _ _ 10 _ _ _ X2.out.b2
  have g10 := frozen_of_row W2 _ 10 _ _ X2.out.b2
  simp only [List.getElem?_toArray, List.getElem?_cons_zero, List.getElem?_cons_succ] at c0 e0 c1 e1 c2 e2 c3 e3 c4 e4 c5 e5 c6 e6 c7 e7 c8 e8 c9 e9 c10 e10
  have hne : ¬ w.heap.size = w.heap.size + 1 := by omega
  have HY := hide (Bx.fin X2.out rfl)
  have V1 := hide (StrsZ.keep (Bx.agf (A := [.int .i64 x.kind, .bool x.lit.neg, .string ⟨x.lit.pred.toArray⟩, .slice xa x.lit.args.length xc, .bool x.lit.hasValue, .int .i64 x.lit.value, .slice ya x.guard.left.length yc, .int .i64 x.guard.op, .slice za x.guard.right.length zc, .string ⟨x.a.toArray⟩, .string ⟨x.b.toArray⟩])) V1.out)
  have V2 := hide (TermsZ.keep (Bx.agf (A := [.int .i64 x.kind, .bool x.lit.neg, .string ⟨x.lit.pred.toArray⟩, .slice xa x.lit.args.length xc, .bool x.lit.hasValue, .int .i64 x.lit.value, .slice ya x.guard.left.length yc, .int .i64 x.guard.op, .slice za x.guard.right.length zc, .string ⟨x.a.toArray⟩, .string ⟨x.b.toArray⟩])) V2.out)
  have V3 := hide (TermsZ.keep (Bx.agf (A := [.int .i64 x.kind, .bool x.lit.neg, .string ⟨x.lit.pred.toArray⟩, .slice xa x.lit.args.length xc, .bool x.lit.hasValue, .int .i64 x.lit.value, .slice ya x.guard.left.length yc, .int .i64 x.guard.op, .slice za x.guard.right.length zc, .string ⟨x.a.toArray⟩, .string ⟨x.b.toArray⟩])) V3.out)
  simp only [setAll] at HY V1 V2 V3
  clear X2
  go_wp2_with fail
  clear hne c0 e0 g0 c1 e1 g1 c2 e2 g2 c3 e3 g3 c4 e4 g4 c5 e5 g5 c6 e6 g6 c7 e7 g7 c8 e8 g8 c9 e9 g9 c10 e10 g10
  generalize (((((((((((W2).setCell ⟨w.heap.size + 1, 0, none⟩ (.int .i64 x.kind)).setCell ⟨w.heap.size + 1, 1, none⟩ (.bool x.lit.neg)).setCell ⟨w.heap.size + 1, 2, none⟩ (.string ⟨x.lit.pred.toArray⟩)).setCell ⟨w.heap.size + 1, 3, none⟩ (.slice xa x.lit.args.length xc)).setCell ⟨w.heap.size + 1, 4, none⟩ (.bool x.lit.hasValue)).setCell ⟨w.heap.size + 1, 5, none⟩ (.int .i64 x.lit.value)).setCell ⟨w.heap.size + 1, 6, none⟩ (.slice ya x.guard.left.length yc)).setCell ⟨w.heap.size + 1, 7, none⟩ (.int .i64 x.guard.op)).setCell ⟨w.heap.size + 1, 8, none⟩ (.slice za x.guard.right.length zc)).setCell ⟨w.heap.size + 1, 9, none⟩ (.string ⟨x.a.toArray⟩)).setCell ⟨w.heap.size + 1, 10, none⟩ (.string ⟨x.b.toArray⟩) = Y at *
  obtain ⟨hY, hbe⟩ := HY.out
  have z0 := cell_of_row _ _ 0 _ _ _ hY
  have z1 := cell_of_row _ _ 1 _ _ _ hY
  have z2 := cell_of_row _ _ 2 _ _ _ hY
  have z3 := cell_of_row _ _ 3 _ _ _ hY
  have z4 := cell_of_row _ _ 4 _ _ _ hY
  have z5 := cell_of_row _ _ 5 _ _ _ hY
  have z6 := cell_of_row _ _ 6 _ _ _ hY
  have z7 := cell_of_row _ _ 7 _ _ _ hY
  have z8 := cell_of_row _ _ 8 _ _ _ hY
  have z9 := cell_of_row _ _ 9 _ _ _ hY
  have z10 := cell_of_row _ _ 10 _ _ _ hY
  simp only [List.getElem?_toArray, List.getElem?_cons_zero, List.getElem?_cons_succ] at z0 z1 z2 z3 z4 z5 z6 z7 z8 z9 z10
  clear hY HY
  simp [bodyPost, results, Tryz.results169, go_sem, z0, z1, z2, z3, z4, z5, z6, z7, z8, z9, z10]
  exact HQ.out [.int .i64 x.kind, .bool x.lit.neg, .string ⟨x.lit.pred.toArray⟩, .slice xa x.lit.args.length xc, .bool x.lit.hasValue, .int .i64 x.lit.value, .slice ya x.guard.left.length yc, .int .i64 x.guard.op, .slice za x.guard.right.length zc, .string ⟨x.a.toArray⟩, .string ⟨x.b.toArray⟩] Y ⟨_, _, rfl, ⟨_, rfl, P1.out, V1.out⟩, ⟨_, _, rfl, V2.out, V3.out⟩, P4.out, P5.out⟩ hbe
theorem copyPr_z {w : World} {x : PremM} {xs : List Value} (h : cPrem w.heap.size w x xs) (hs : szPr x) :
    Calls Tryz.prog 169 #[.agg xs.toArray] w fun e w' => ∃ ys, e = .returned (.agg ys.toArray) ∧ cPremZ (Nw w w') w' x ys ∧ Below w.heap.size w w' :=
  copyPr_q h hs _ fun ys _ h1 h2 => ⟨ys, rfl, h1, h2⟩
end Go.Proofs.YtfnobccminhjpaaGreat
