/- Copies: premises. By program (tools/gen8/copz9.py). -/
import Derived.Test.YtfnobccminhjpaaGreatCopYa9
namespace Go.Proofs.YtfnobccminhjpaaGreat
open Go.RowKit Go.Shelf Go.Maps Go.WideMaps
theorem infzlPr : (Tryz.prog.info? 123).map (fun i => (i.zero, i.size, i.bytes)) = some (some (.agg #[.int .i64 0, .bool false, .string ⟨#[]⟩, .slice none 0 0, .bool false, .int .i64 0, .slice none 0 0, .int .i64 0, .slice none 0 0, .string ⟨#[]⟩, .string ⟨#[]⟩]), 11, 160) := by kernel_rfl
set_option maxRecDepth 100000 in
set_option maxHeartbeats 3200000 in
theorem copylPr_z {w : World} {a : Option Addr} {l : List (PremM)} {c : Nat} (h : RR w.heap.size 11 (cPrem w.heap.size) w l (.slice a l.length c)) (hl : Szs 160 szPr l) :
    Calls Tryz.prog 134 #[.slice a l.length c] w fun e w' => ∃ xa xc, e = .returned (.slice xa l.length xc) ∧ RZ (Nw w w') 11 (cPremZ (Nw w w')) w' l (.slice xa l.length xc) ∧ Below w.heap.size w w' := by
  obtain ⟨iM, hiM, zM0, zM1, zM2⟩ := info_parts' infzlPr
  have HM := hide h
  have HL := hide hl
  have hb9 := hl.1
  have O1 : Hid (Gz 123 11 cPremZ w (l.take 0) 0 (.slice none 0 0) w) := hide Gz.nil
  clear h hl
  go_enter Tryz.func134, Tryz.ntmps134
  go_wp2_with fail
  go_loopw [3, 4] (fun mv x wr => ∃ (i : Nat) (a0 : Option Addr) (c0 : Nat), i ≤ l.length ∧ x = .int .i64 i ∧ mv = .slice a0 i c0 ∧ Hid (Gz 123 11 cPremZ w (l.take i) i (.slice a0 i c0) wr)) (fun _ x _ => l.length - (intOf x).toNat)
  case atStart => exact ⟨0, none, 0, by omega, rfl, rfl, O1⟩
  case round =>
    clear O1
    obtain ⟨i, a0, c0, hi, rfl, rfl, HO⟩ := hrel
    by_cases hlt : i < l.length
    · obtain ⟨x, hx⟩ : ∃ x, l[i]? = some x := ⟨l[i], List.getElem?_eq_getElem hlt⟩
      have HT := hide (take_snoc hx)
      have HSZ := hide (Szs.at HL.out hx)
      obtain ⟨g, o, ys, rfl, hg, hk, hcell, hcx⟩ := RR.open (RR.go (c' := (cPrem wr.heap.size)) HO.out.low HM.out (fun _ _ h => cPrem.go HO.out.low h)) hx
      have HC := hide hcx
      obtain ⟨_, _, rfl, ⟨av, rfl, p1, r1⟩, ⟨lv, rv, rfl, r2, r3⟩, p4, p5⟩ := hcx
      obtain ⟨ka, kc, rfl, _⟩ := r1.form
      obtain ⟨la, lc, rfl, _⟩ := r2.form
      obtain ⟨ra, rc, rfl, _⟩ := r3.form
      clear hk hx
      have d0 : wr.cell? ⟨g, o + i * 11, none⟩ = some (.int .i64 x.kind) := hcell 0 _ rfl
      have d1 : wr.cell? ⟨g, o + i * 11 + 1, none⟩ = some (.bool x.lit.neg) := hcell 1 _ rfl
      have d2 : wr.cell? ⟨g, o + i * 11 + 2, none⟩ = some (.string ⟨x.lit.pred.toArray⟩) := hcell 2 _ rfl
      have d3 : wr.cell? ⟨g, o + i * 11 + 3, none⟩ = some (.slice ka x.lit.args.length kc) := hcell 3 _ rfl
      have d4 : wr.cell? ⟨g, o + i * 11 + 4, none⟩ = some (.bool x.lit.hasValue) := hcell 4 _ rfl
      have d5 : wr.cell? ⟨g, o + i * 11 + 5, none⟩ = some (.int .i64 x.lit.value) := hcell 5 _ rfl
      have d6 : wr.cell? ⟨g, o + i * 11 + 6, none⟩ = some (.slice la x.guard.left.length lc) := hcell 6 _ rfl
      have d7 : wr.cell? ⟨g, o + i * 11 + 7, none⟩ = some (.int .i64 x.guard.op) := hcell 7 _ rfl
      have d8 : wr.cell? ⟨g, o + i * 11 + 8, none⟩ = some (.slice ra x.guard.right.length rc) := hcell 8 _ rfl
      have d9 : wr.cell? ⟨g, o + i * 11 + 9, none⟩ = some (.string ⟨x.a.toArray⟩) := hcell 9 _ rfl
      have d10 : wr.cell? ⟨g, o + i * 11 + 10, none⟩ = some (.string ⟨x.b.toArray⟩) := hcell 10 _ rfl
      clear hcell
      unfold str at *
      obtain ⟨Z, xs, hrow, hz, hold⟩ := HO.out.body
      have HROW := hide hrow
      have HZ := hide hz
      have HOLD := hide hold
      have HL1 : w.heap.size ≤ wr.heap.size := HO.out.low.size
      have hgw : g < wr.heap.size := by omega
      clear hrow hz hold
      have CX := hide (copyPr_z (w := wr) HC.out HSZ.out)
      go_wp2_with fail
      refine CX.out.mono ?_
      rintro _ wd ⟨zs, rfl, hnew, hbd⟩
      have HNEW := hide hnew
      have HBD := hide hbd
      have HROW2 := hide (owns_keep HROW.out fun g hg => hbd.block g (owns_lt HROW.out hg))
      have HL2 : wr.heap.size ≤ wd.heap.size := hbd.size
      clear CX d0 d1 d2 d3 d4 d5 d6 d7 d8 d9 d10
      obtain ⟨_, _, rfl, ⟨av2, rfl, -, q1⟩, ⟨lv2, rv2, rfl, q2, q3⟩, -, -⟩ := hnew
      obtain ⟨xa, xc, rfl⟩ := RZ.form q1
      obtain ⟨ya, yc, rfl⟩ := RZ.form q2
      obtain ⟨za, zc, rfl⟩ := RZ.form q3
      unfold str at *
      clear hbd
      go_wp2_with (at_builtin; go_must (refine wpList_append_two _ rfl _ _ 94 rfl w.heap.size 123 iM _ 11 160 Tryz.underlying94 hiM zM0 zM1 zM2 rfl (by decide) _ _ _ rfl (HROW2.out.alloc _) ⟨wd.heap.size, 0, none⟩ 1 [.int .i64 x.kind, .bool x.lit.neg, .string ⟨x.lit.pred.toArray⟩, .slice xa x.lit.args.length xc, .bool x.lit.hasValue, .int .i64 x.lit.value, .slice ya x.guard.left.length yc, .int .i64 x.guard.op, .slice za x.guard.right.length zc, .string ⟨x.a.toArray⟩, .string ⟨x.b.toArray⟩] rfl rfl (news_at rfl) (by simp [Value.oneCell']) (by unfold maxLen; omega) (by omega) (by simp; omega) ?_); intro g4 cap4 w4 hown4 hg4)
      have hz : (wd.alloc (.cells #[.int .i64 x.kind, .bool x.lit.neg, .string ⟨x.lit.pred.toArray⟩, .slice xa x.lit.args.length xc, .bool x.lit.hasValue, .int .i64 x.lit.value, .slice ya x.guard.left.length yc, .int .i64 x.guard.op, .slice za x.guard.right.length zc, .string ⟨x.a.toArray⟩, .string ⟨x.b.toArray⟩] 123)).heap.size = wd.heap.size + 1 := by simp
      rw [hz] at hg4
      refine ⟨⟨i + 1, some ⟨g4, 0, none⟩, cap4, by omega, by go_num, rfl, hide ?_⟩, by simp [intOf]; omega⟩
      rw [HT.out]
      exact Gz.grow (fun _ _ _ _ _ _ ag h => cPremZ.keep ag h) HO.out.low HO.out.len HROW.out HZ.out HOLD.out HBD.out HNEW.out rfl hown4 hg4
    · have hk' : i = l.length := by omega
      subst hk'
      have HE := hide (List.take_of_length_le (Nat.le_refl l.length))
      rw [HE.out] at HO
      go_wp2_with fail
      go_ret
      exact ⟨_, _, rfl, Gz.done (fun _ _ _ _ _ _ ag h => cPremZ.keep ag h) HO.out HM.out.lim, HO.out.low⟩
set_option maxRecDepth 100000 in
set_option maxHeartbeats 3200000 in
theorem copyR_q {w : World} {x : RuleM} {xs : List Value} (h : cRule w.heap.size w x xs) (hs : szR x) (Q : Ending → World → Prop) (hQ : ∀ ys w', cRuleZ (Nw w w') w' x ys → Below w.heap.size w w' → Q (.returned (.agg ys.toArray)) w') :
    Calls Tryz.prog 99 #[.agg xs.toArray] w Q := by
  obtain ⟨_, _, rfl, p1, p2, r1, ⟨av, rfl, p3, r2⟩⟩ := h
  obtain ⟨ba, bc, rfl, _⟩ := r1.form
  obtain ⟨ka, kc, rfl, _⟩ := r2.form
  have R1 := hide r1
  have R2 : Hid (cLit w.heap.size w x.head [.bool x.head.neg, str x.head.pred, .slice ka x.head.args.length kc, .bool x.head.hasValue, .int .i64 x.head.value]) := hide ⟨_, rfl, p3, r2⟩
  have P1 := hide p1
  have P2 := hide p2
  have P3 := hide p3
  clear p1 p2 p3 r1 r2
  have HQ := hide hQ
  have HSZ := hide hs
  clear hQ hs
  unfold str at *
  show Calls Tryz.prog 99 #[.agg #[.string ⟨x.name.toArray⟩, .string ⟨x.source.toArray⟩, .int .i64 x.day, .int .i64 x.till, .slice ba x.body.length bc, .int .i64 x.arrow, .bool x.head.neg, .string ⟨x.head.pred.toArray⟩, .slice ka x.head.args.length kc, .bool x.head.hasValue, .int .i64 x.head.value]] w Q
  have X0 := hide (Bx.two (T := 97) (A := [.string ⟨x.name.toArray⟩, .string ⟨x.source.toArray⟩, .int .i64 x.day, .int .i64 x.till, .slice ba x.body.length bc, .int .i64 x.arrow, .bool x.head.neg, .string ⟨x.head.pred.toArray⟩, .slice ka x.head.args.length kc, .bool x.head.hasValue, .int .i64 x.head.value]) (Z0 := [.string ⟨#[]⟩, .string ⟨#[]⟩, .int .i64 0, .int .i64 0, .slice none 0 0, .int .i64 0, .bool false, .string ⟨#[]⟩, .slice none 0 0, .bool false, .int .i64 0]) (w := w))
  go_enter Tryz.func99, Tryz.ntmps99
  go_upto_region 1 with fail
  generalize (w.alloc (.cells #[.string ⟨x.name.toArray⟩, .string ⟨x.source.toArray⟩, .int .i64 x.day, .int .i64 x.till, .slice ba x.body.length bc, .int .i64 x.arrow, .bool x.head.neg, .string ⟨x.head.pred.toArray⟩, .slice ka x.head.args.length kc, .bool x.head.hasValue, .int .i64 x.head.value] 97)).alloc (.cells #[.string ⟨#[]⟩, .string ⟨#[]⟩, .int .i64 0, .int .i64 0, .slice none 0 0, .int .i64 0, .bool false, .string ⟨#[]⟩, .slice none 0 0, .bool false, .int .i64 0] 97) = W0 at *
  have a4 := cell_of_row _ _ 4 _ _ _ X0.out.b1
  simp only [List.getElem?_toArray, List.getElem?_cons_zero, List.getElem?_cons_succ] at a4
  have CX := hide (copylPr_z (w := W0) (Prems.go X0.out.low R1.out) HSZ.out.1)
  go_wp2_with fail
  refine CX.out.mono ?_
  rintro _ v1 ⟨ya, yc, rfl, hv, hbd⟩
  have HBD := hide hbd
  have Y0 := hide (X0.out.call hbd)
  have V1 := hide (PremsZ.keep (Bx.agn X0.out (w3 := v1) 4 [.slice ya x.body.length yc]) hv)
  have X1 := hide (Bx.set (A' := [.string ⟨x.name.toArray⟩, .string ⟨x.source.toArray⟩, .int .i64 x.day, .int .i64 x.till, .slice ya x.body.length yc, .int .i64 x.arrow, .bool x.head.neg, .string ⟨x.head.pred.toArray⟩, .slice ka x.head.args.length kc, .bool x.head.hasValue, .int .i64 x.head.value]) Y0.out 4 [.slice ya x.body.length yc] rfl)
  have c4 := cell_of_row _ _ 4 _ _ _ Y0.out.b1
  have f4 := frozen_of_row v1 _ 4 _ _ Y0.out.b1
  simp only [List.getElem?_toArray, List.getElem?_cons_zero, List.getElem?_cons_succ] at c4
  simp only [setAll] at X1 V1
  clear CX hbd X0 Y0 HBD a4 hv
  go_upto_region 2 with fail
  clear c4 f4
  generalize (v1).setCell ⟨w.heap.size, 4, none⟩ (.slice ya x.body.length yc) = W1 at *
  have a6 := cell_of_row _ _ 6 _ _ _ X1.out.b1
  have a7 := cell_of_row _ _ 7 _ _ _ X1.out.b1
  have a8 := cell_of_row _ _ 8 _ _ _ X1.out.b1
  have a9 := cell_of_row _ _ 9 _ _ _ X1.out.b1
  have a10 := cell_of_row _ _ 10 _ _ _ X1.out.b1
  simp only [List.getElem?_toArray, List.getElem?_cons_zero, List.getElem?_cons_succ] at a6 a7 a8 a9 a10
  have CX := hide (copyLi_z (w := W1) (cLit.go X1.out.low R2.out) HSZ.out.2)
  go_wp2_with fail
  refine CX.out.mono ?_
  rintro _ v2 ⟨ys, rfl, ⟨av2, rfl, -, hv⟩, hbd⟩
  have HBD := hide hbd
  obtain ⟨xa, xc, rfl⟩ := RZ.form hv
  unfold str at *
  have Y1 := hide (X1.out.call hbd)
  have V1 := hide (PremsZ.keep (Bx.ago HBD.out 6 [.bool x.head.neg, .string ⟨x.head.pred.toArray⟩, .slice xa x.head.args.length xc, .bool x.head.hasValue, .int .i64 x.head.value]) V1.out)
  have V2 := hide (StrsZ.keep (Bx.agn X1.out (w3 := v2) 6 [.bool x.head.neg, .string ⟨x.head.pred.toArray⟩, .slice xa x.head.args.length xc, .bool x.head.hasValue, .int .i64 x.head.value]) hv)
  have X2 := hide (Bx.set (A' := [.string ⟨x.name.toArray⟩, .string ⟨x.source.toArray⟩, .int .i64 x.day, .int .i64 x.till, .slice ya x.body.length yc, .int .i64 x.arrow, .bool x.head.neg, .string ⟨x.head.pred.toArray⟩, .slice xa x.head.args.length xc, .bool x.head.hasValue, .int .i64 x.head.value]) Y1.out 6 [.bool x.head.neg, .string ⟨x.head.pred.toArray⟩, .slice xa x.head.args.length xc, .bool x.head.hasValue, .int .i64 x.head.value] rfl)
  have c6 := cell_of_row _ _ 6 _ _ _ Y1.out.b1
  have f6 := frozen_of_row v2 _ 6 _ _ Y1.out.b1
  have c7 := cell_of_row _ _ 7 _ _ _ Y1.out.b1
  have f7 := frozen_of_row v2 _ 7 _ _ Y1.out.b1
  have c8 := cell_of_row _ _ 8 _ _ _ Y1.out.b1
  have f8 := frozen_of_row v2 _ 8 _ _ Y1.out.b1
  have c9 := cell_of_row _ _ 9 _ _ _ Y1.out.b1
  have f9 := frozen_of_row v2 _ 9 _ _ Y1.out.b1
  have c10 := cell_of_row _ _ 10 _ _ _ Y1.out.b1
  have f10 := frozen_of_row v2 _ 10 _ _ Y1.out.b1
  simp only [List.getElem?_toArray, List.getElem?_cons_zero, List.getElem?_cons_succ] at c6 c7 c8 c9 c10
  simp only [setAll] at X2 V1 V2
  clear CX hbd X1 Y1 HBD a6 a7 a8 a9 a10 hv
  go_upto_region 3 with fail
  clear c6 f6 c7 f7 c8 f8 c9 f9 c10 f10
  generalize (((((v2).setCell ⟨w.heap.size, 6, none⟩ (.bool x.head.neg)).setCell ⟨w.heap.size, 7, none⟩ (.string ⟨x.head.pred.toArray⟩)).setCell ⟨w.heap.size, 8, none⟩ (.slice xa x.head.args.length xc)).setCell ⟨w.heap.size, 9, none⟩ (.bool x.head.hasValue)).setCell ⟨w.heap.size, 10, none⟩ (.int .i64 x.head.value) = W2 at *
  have c0 := cell_of_row _ _ 0 _ _ _ X2.out.b1
  have e0 := cell_of_row _ _ 0 _ _ _ X2.out.b2
  have g0 := frozen_of_row W2 _ 0 _ _ X2.out.b2
  have c1 := cell_of_row _ _ 1 _ _ _ X2.out.b1
  have e1 := cell_of_row _ _ 1 _ _ _ X2.out.b2
  have g1 := frozen_of_row W2 _ 1 _ _ X2.out.b2
  have c2 := cell_of_row _ _ 2 _ _ _ X2.out.b1
  have e2 := cell_of_row _ _ 2 _ _ _ X2.out.b2
  have g2 := frozen_of_row W2 _ 2 _ _ X2.out.b2
  have c3 := cell_of_row _ _ 3 _ _ _ X2.out.b1
  have e3 := cell_of_row _ _ 3 _ _ _ X2.out.b2
  have g3 := frozen_of_row W2 _ 3 _ _ X2.out.b2
  have c4 := cell_of_row _ _ 4 _ _ _ X2.out.b1
  have e4 := cell_of_row _ _ 4 _ _ _ X2.out.b2
  have g4 := frozen_of_row W2 _ 4 _ _ X2.out.b2
  have c5 := cell_of_row _ _ 5 _ _ _ X2.out.b1
  have e5 := cell_of_row _ _ 5 _ _ _ X2.out.b2
  have g5 := frozen_of_row W2 _ 5 _ _ X2.out.b2
  have c6 := cell_of_row _ _ 6 _ _ _ X2.out.b1
  have e6 := cell_of_row _ _ 6 _ _ _ X2.out.b2
  have g6 := frozen_of_row W2 _ 6 _ _ X2.out.b2
  have c7 := cell_of_row _ _ 7 _ _ _ X2.out.b1
  have e7 := cell_of_row _ _ 7 _ _ _ X2.out.b2
  have g7 := frozen_of_row W2 _ 7 _ _ X2.out.b2
  have c8 := cell_of_row _ _ 8 _ _ _ X2.out.b1
  have e8 := cell_of_row _ _ 8 _ _ _ X2.out.b2
  have g8 := frozen_of_row W2 _ 8 _ _ X2.out.b2
  have c9 := cell_of_row _ _ 9 _ _ _ X2.out.b1
  have e9 := cell_of_row _ _ 9 _ _ _ X2.out.b2
  have g9 := frozen_of_row W2 _ 9 _ _ X2.out.b2
  have c10 := cell_of_row _ _ 10 _ _ _ X2.out.b1
  have e10 := cell_of_row _ _ 10 _ _ _ X2.out.b2
  have g10 := frozen_of_row W2 _ 10 _ _ X2.out.b2
  simp only [List.getElem?_toArray, List.getElem?_cons_zero, List.getElem?_cons_succ] at c0 e0 c1 e1 c2 e2 c3 e3 c4 e4 c5 e5 c6 e6 c7 e7 c8 e8 c9 e9 c10 e10
  have hne : ¬ w.heap.size = w.heap.size + 1 := by omega
  have HY := hide (Bx.fin X2.out rfl)
  have V1 := hide (PremsZ.keep (Bx.agf (A := [.string ⟨x.name.toArray⟩, .string ⟨x.source.toArray⟩, .int .i64 x.day, .int .i64 x.till, .slice ya x.body.length yc, .int .i64 x.arrow, .bool x.head.neg, .string ⟨x.head.pred.toArray⟩, .slice xa x.head.args.length xc, .bool x.head.hasValue, .int .i64 x.head.value])) V1.out)
  have V2 := hide (StrsZ.keep (Bx.agf (A := [.string ⟨x.name.toArray⟩, .string ⟨x.source.toArray⟩, .int .i64 x.day, .int .i64 x.till, .slice ya x.body.length yc, .int .i64 x.arrow, .bool x.head.neg, .string ⟨x.head.pred.toArray⟩, .slice xa x.head.args.length xc, .bool x.head.hasValue, .int .i64 x.head.value])) V2.out)
  simp only [setAll] at HY V1 V2
  clear X2
  go_wp2_with fail
  clear hne c0 e0 g0 c1 e1 g1 c2 e2 g2 c3 e3 g3 c4 e4 g4 c5 e5 g5 c6 e6 g6 c7 e7 g7 c8 e8 g8 c9 e9 g9 c10 e10 g10
  generalize (((((((((((W2).setCell ⟨w.heap.size + 1, 0, none⟩ (.string ⟨x.name.toArray⟩)).setCell ⟨w.heap.size + 1, 1, none⟩ (.string ⟨x.source.toArray⟩)).setCell ⟨w.heap.size + 1, 2, none⟩ (.int .i64 x.day)).setCell ⟨w.heap.size + 1, 3, none⟩ (.int .i64 x.till)).setCell ⟨w.heap.size + 1, 4, none⟩ (.slice ya x.body.length yc)).setCell ⟨w.heap.size + 1, 5, none⟩ (.int .i64 x.arrow)).setCell ⟨w.heap.size + 1, 6, none⟩ (.bool x.head.neg)).setCell ⟨w.heap.size + 1, 7, none⟩ (.string ⟨x.head.pred.toArray⟩)).setCell ⟨w.heap.size + 1, 8, none⟩ (.slice xa x.head.args.length xc)).setCell ⟨w.heap.size + 1, 9, none⟩ (.bool x.head.hasValue)).setCell ⟨w.heap.size + 1, 10, none⟩ (.int .i64 x.head.value) = Y at *
  obtain ⟨hY, hbe⟩ := HY.out
  have z0 := cell_of_row _ _ 0 _ _ _ hY
  have z1 := cell_of_row _ _ 1 _ _ _ hY
  have z2 := cell_of_row _ _ 2 _ _ _ hY
  have z3 := cell_of_row _ _ 3 _ _ _ hY
  have z4 := cell_of_row _ _ 4 _ _ _ hY
  have z5 := cell_of_row _ _ 5 _ _ _ hY
  have z6 := cell_of_row _ _ 6 _ _ _ hY
  have z7 := cell_of_row _ _ 7 _ _ _ hY
  have z8 := cell_of_row _ _ 8 _ _ _ hY
  have z9 := cell_of_row _ _ 9 _ _ _ hY
  have z10 := cell_of_row _ _ 10 _ _ _ hY
  simp only [List.getElem?_toArray, List.getElem?_cons_zero, List.getElem?_cons_succ] at z0 z1 z2 z3 z4 z5 z6 z7 z8 z9 z10
  clear hY HY
  simp [bodyPost, results, Tryz.results99, go_sem, z0, z1, z2, z3, z4, z5, z6, z7, z8, z9, z10]
  exact HQ.out [.string ⟨x.name.toArray⟩, .string ⟨x.source.toArray⟩, .int .i64 x.day, .int .i64 x.till, .slice ya x.body.length yc, .int .i64 x.arrow, .bool x.head.neg, .string ⟨x.head.pred.toArray⟩, .slice xa x.head.args.length xc, .bool x.head.hasValue, .int .i64 x.head.value] Y ⟨_, _, rfl, P1.out, P2.out, V1.out, ⟨_, rfl, P3.out, V2.out⟩⟩ hbe
theorem copyR_z {w : World} {x : RuleM} {xs : List Value} (h : cRule w.heap.size w x xs) (hs : szR x) :
    Calls Tryz.prog 99 #[.agg xs.toArray] w fun e w' => ∃ ys, e = .returned (.agg ys.toArray) ∧ cRuleZ (Nw w w') w' x ys ∧ Below w.heap.size w w' :=
  copyR_q h hs _ fun ys _ h1 h2 => ⟨ys, rfl, h1, h2⟩
theorem infzlR : (Tryz.prog.info? 97).map (fun i => (i.zero, i.size, i.bytes)) = some (some (.agg #[.string ⟨#[]⟩, .string ⟨#[]⟩, .int .i64 0, .int .i64 0, .slice none 0 0, .int .i64 0, .bool false, .string ⟨#[]⟩, .slice none 0 0, .bool false, .int .i64 0]), 11, 144) := by kernel_rfl
set_option maxRecDepth 100000 in
set_option maxHeartbeats 3200000 in
theorem copylR_z {w : World} {a : Option Addr} {l : List (RuleM)} {c : Nat} (h : RR w.heap.size 11 (cRule w.heap.size) w l (.slice a l.length c)) (hl : Szs 144 szR l) :
    Calls Tryz.prog 46 #[.slice a l.length c] w fun e w' => ∃ xa xc, e = .returned (.slice xa l.length xc) ∧ RZ (Nw w w') 11 (cRuleZ (Nw w w')) w' l (.slice xa l.length xc) ∧ Below w.heap.size w w' := by
  obtain ⟨iM, hiM, zM0, zM1, zM2⟩ := info_parts' infzlR
  have HM := hide h
  have HL := hide hl
  have hb9 := hl.1
  have O1 : Hid (Gz 97 11 cRuleZ w (l.take 0) 0 (.slice none 0 0) w) := hide Gz.nil
  clear h hl
  go_enter Tryz.func46, Tryz.ntmps46
  go_wp2_with fail
  go_loopw [3, 4] (fun mv x wr => ∃ (i : Nat) (a0 : Option Addr) (c0 : Nat), i ≤ l.length ∧ x = .int .i64 i ∧ mv = .slice a0 i c0 ∧ Hid (Gz 97 11 cRuleZ w (l.take i) i (.slice a0 i c0) wr)) (fun _ x _ => l.length - (intOf x).toNat)
  case atStart => exact ⟨0, none, 0, by omega, rfl, rfl, O1⟩
  case round =>
    clear O1
    obtain ⟨i, a0, c0, hi, rfl, rfl, HO⟩ := hrel
    by_cases hlt : i < l.length
    · obtain ⟨x, hx⟩ : ∃ x, l[i]? = some x := ⟨l[i], List.getElem?_eq_getElem hlt⟩
      have HT := hide (take_snoc hx)
      have HSZ := hide (Szs.at HL.out hx)
      obtain ⟨g, o, ys, rfl, hg, hk, hcell, hcx⟩ := RR.open (RR.go (c' := (cRule wr.heap.size)) HO.out.low HM.out (fun _ _ h => cRule.go HO.out.low h)) hx
      have HC := hide hcx
      obtain ⟨_, _, rfl, p1, p2, r1, ⟨av, rfl, p3, r2⟩⟩ := hcx
      obtain ⟨ba, bc, rfl, _⟩ := r1.form
      obtain ⟨ka, kc, rfl, _⟩ := r2.form
      clear hk hx
      have d0 : wr.cell? ⟨g, o + i * 11, none⟩ = some (.string ⟨x.name.toArray⟩) := hcell 0 _ rfl
      have d1 : wr.cell? ⟨g, o + i * 11 + 1, none⟩ = some (.string ⟨x.source.toArray⟩) := hcell 1 _ rfl
      have d2 : wr.cell? ⟨g, o + i * 11 + 2, none⟩ = some (.int .i64 x.day) := hcell 2 _ rfl
      have d3 : wr.cell? ⟨g, o + i * 11 + 3, none⟩ = some (.int .i64 x.till) := hcell 3 _ rfl
      have d4 : wr.cell? ⟨g, o + i * 11 + 4, none⟩ = some (.slice ba x.body.length bc) := hcell 4 _ rfl
      have d5 : wr.cell? ⟨g, o + i * 11 + 5, none⟩ = some (.int .i64 x.arrow) := hcell 5 _ rfl
      have d6 : wr.cell? ⟨g, o + i * 11 + 6, none⟩ = some (.bool x.head.neg) := hcell 6 _ rfl
      have d7 : wr.cell? ⟨g, o + i * 11 + 7, none⟩ = some (.string ⟨x.head.pred.toArray⟩) := hcell 7 _ rfl
      have d8 : wr.cell? ⟨g, o + i * 11 + 8, none⟩ = some (.slice ka x.head.args.length kc) := hcell 8 _ rfl
      have d9 : wr.cell? ⟨g, o + i * 11 + 9, none⟩ = some (.bool x.head.hasValue) := hcell 9 _ rfl
      have d10 : wr.cell? ⟨g, o + i * 11 + 10, none⟩ = some (.int .i64 x.head.value) := hcell 10 _ rfl
      clear hcell
      unfold str at *
      obtain ⟨Z, xs, hrow, hz, hold⟩ := HO.out.body
      have HROW := hide hrow
      have HZ := hide hz
      have HOLD := hide hold
      have HL1 : w.heap.size ≤ wr.heap.size := HO.out.low.size
      have hgw : g < wr.heap.size := by omega
      clear hrow hz hold
      have CX := hide (copyR_z (w := wr) HC.out HSZ.out)
      go_wp2_with fail
      refine CX.out.mono ?_
      rintro _ wd ⟨zs, rfl, hnew, hbd⟩
      have HNEW := hide hnew
      have HBD := hide hbd
      have HROW2 := hide (owns_keep HROW.out fun g hg => hbd.block g (owns_lt HROW.out hg))
      have HL2 : wr.heap.size ≤ wd.heap.size := hbd.size
      clear CX d0 d1 d2 d3 d4 d5 d6 d7 d8 d9 d10
      obtain ⟨_, _, rfl, -, -, q1, ⟨av2, rfl, -, q2⟩⟩ := hnew
      obtain ⟨ya, yc, rfl⟩ := RZ.form q1
      obtain ⟨xa, xc, rfl⟩ := RZ.form q2
      unfold str at *
      clear hbd
      go_wp2_with (at_builtin; go_must (refine wpList_append_two _ rfl _ _ 27 rfl w.heap.size 97 iM _ 11 144 Tryz.underlying27 hiM zM0 zM1 zM2 rfl (by decide) _ _ _ rfl (HROW2.out.alloc _) ⟨wd.heap.size, 0, none⟩ 1 [.string ⟨x.name.toArray⟩, .string ⟨x.source.toArray⟩, .int .i64 x.day, .int .i64 x.till, .slice ya x.body.length yc, .int .i64 x.arrow, .bool x.head.neg, .string ⟨x.head.pred.toArray⟩, .slice xa x.head.args.length xc, .bool x.head.hasValue, .int .i64 x.head.value] rfl rfl (news_at rfl) (by simp [Value.oneCell']) (by unfold maxLen; omega) (by omega) (by simp; omega) ?_); intro g4 cap4 w4 hown4 hg4)
      have hz : (wd.alloc (.cells #[.string ⟨x.name.toArray⟩, .string ⟨x.source.toArray⟩, .int .i64 x.day, .int .i64 x.till, .slice ya x.body.length yc, .int .i64 x.arrow, .bool x.head.neg, .string ⟨x.head.pred.toArray⟩, .slice xa x.head.args.length xc, .bool x.head.hasValue, .int .i64 x.head.value] 97)).heap.size = wd.heap.size + 1 := by simp
      rw [hz] at hg4
      refine ⟨⟨i + 1, some ⟨g4, 0, none⟩, cap4, by omega, by go_num, rfl, hide ?_⟩, by simp [intOf]; omega⟩
      rw [HT.out]
      exact Gz.grow (fun _ _ _ _ _ _ ag h => cRuleZ.keep ag h) HO.out.low HO.out.len HROW.out HZ.out HOLD.out HBD.out HNEW.out rfl hown4 hg4
    · have hk' : i = l.length := by omega
      subst hk'
      have HE := hide (List.take_of_length_le (Nat.le_refl l.length))
      rw [HE.out] at HO
      go_wp2_with fail
      go_ret
      exact ⟨_, _, rfl, Gz.done (fun _ _ _ _ _ _ ag h => cRuleZ.keep ag h) HO.out HM.out.lim, HO.out.low⟩
set_option maxRecDepth 100000 in
set_option maxHeartbeats 3200000 in
theorem copyP_q {w : World} {x : PredM} {xs : List Value} (h : cPred w.heap.size w x xs) (hs : szP x) (Q : Ending → World → Prop) (hQ : ∀ ys w', cPredZ (Nw w w') w' x ys → Below w.heap.size w w' → Q (.returned (.agg ys.toArray)) w') :
    Calls Tryz.prog 98 #[.agg xs.toArray] w Q := by
  obtain ⟨kv, vv, rfl, p1, r1, r2⟩ := h
  obtain ⟨ka, kc, rfl, _⟩ := r1.form
  obtain ⟨va, vc, rfl, _⟩ := r2.form
  have R1 := hide r1
  have R2 := hide r2
  have P1 := hide p1
  clear p1 r1 r2
  have HQ := hide hQ
  have HSZ := hide hs
  clear hQ hs
  unfold str at *
  show Calls Tryz.prog 98 #[.agg #[.string ⟨x.name.toArray⟩, .int .i64 x.sort, .slice ka x.kinds.length kc, .slice va x.values.length vc]] w Q
  have X0 := hide (Bx.two (T := 132) (A := [.string ⟨x.name.toArray⟩, .int .i64 x.sort, .slice ka x.kinds.length kc, .slice va x.values.length vc]) (Z0 := [.string ⟨#[]⟩, .int .i64 0, .slice none 0 0, .slice none 0 0]) (w := w))
  go_enter Tryz.func98, Tryz.ntmps98
  go_upto_region 1 with fail
  generalize (w.alloc (.cells #[.string ⟨x.name.toArray⟩, .int .i64 x.sort, .slice ka x.kinds.length kc, .slice va x.values.length vc] 132)).alloc (.cells #[.string ⟨#[]⟩, .int .i64 0, .slice none 0 0, .slice none 0 0] 132) = W0 at *
  have a2 := cell_of_row _ _ 2 _ _ _ X0.out.b1
  simp only [List.getElem?_toArray, List.getElem?_cons_zero, List.getElem?_cons_succ] at a2
  have CX := hide (copyS_z (w := W0) (Strs.go X0.out.low R1.out) HSZ.out.1)
  go_wp2_with fail
  refine CX.out.mono ?_
  rintro _ v1 ⟨xa, xc, rfl, hv, hbd⟩
  have HBD := hide hbd
  have Y0 := hide (X0.out.call hbd)
  have V1 := hide (StrsZ.keep (Bx.agn X0.out (w3 := v1) 2 [.slice xa x.kinds.length xc]) hv)
  have X1 := hide (Bx.set (A' := [.string ⟨x.name.toArray⟩, .int .i64 x.sort, .slice xa x.kinds.length xc, .slice va x.values.length vc]) Y0.out 2 [.slice xa x.kinds.length xc] rfl)
  have c2 := cell_of_row _ _ 2 _ _ _ Y0.out.b1
  have f2 := frozen_of_row v1 _ 2 _ _ Y0.out.b1
  simp only [List.getElem?_toArray, List.getElem?_cons_zero, List.getElem?_cons_succ] at c2
  simp only [setAll] at X1 V1
  clear CX hbd X0 Y0 HBD a2 hv
  go_upto_region 2 with fail
  clear c2 f2
  generalize (v1).setCell ⟨w.heap.size, 2, none⟩ (.slice xa x.kinds.length xc) = W1 at *
  have a3 := cell_of_row _ _ 3 _ _ _ X1.out.b1
  simp only [List.getElem?_toArray, List.getElem?_cons_zero, List.getElem?_cons_succ] at a3
  have CX := hide (copyV_z (w := W1) (Moneys.go X1.out.low R2.out) HSZ.out.2)
  go_wp2_with fail
  refine CX.out.mono ?_
  rintro _ v2 ⟨ya, yc, rfl, hv, hbd⟩
  have HBD := hide hbd
  have Y1 := hide (X1.out.call hbd)
  have V1 := hide (StrsZ.keep (Bx.ago HBD.out 3 [.slice ya x.values.length yc]) V1.out)
  have V2 := hide (MoneysZ.keep (Bx.agn X1.out (w3 := v2) 3 [.slice ya x.values.length yc]) hv)
  have X2 := hide (Bx.set (A' := [.string ⟨x.name.toArray⟩, .int .i64 x.sort, .slice xa x.kinds.length xc, .slice ya x.values.length yc]) Y1.out 3 [.slice ya x.values.length yc] rfl)
  have c3 := cell_of_row _ _ 3 _ _ _ Y1.out.b1
  have f3 := frozen_of_row v2 _ 3 _ _ Y1.out.b1
  simp only [List.getElem?_toArray, List.getElem?_cons_zero, List.getElem?_cons_succ] at c3
  simp only [setAll] at X2 V1 V2
  clear CX hbd X1 Y1 HBD a3 hv
  go_upto_region 3 with fail
  clear c3 f3
  generalize (v2).setCell ⟨w.heap.size, 3, none⟩ (.slice ya x.values.length yc) = W2 at *
  have c0 := cell_of_row _ _ 0 _ _ _ X2.out.b1
  have e0 := cell_of_row _ _ 0 _ _ _ X2.out.b2
  have g0 := frozen_of_row W2 _ 0 _ _ X2.out.b2
  have c1 := cell_of_row _ _ 1 _ _ _ X2.out.b1
  have e1 := cell_of_row _ _ 1 _ _ _ X2.out.b2
  have g1 := frozen_of_row W2 _ 1 _ _ X2.out.b2
  have c2 := cell_of_row _ _ 2 _ _ _ X2.out.b1
  have e2 := cell_of_row _ _ 2 _ _ _ X2.out.b2
  have g2 := frozen_of_row W2 _ 2 _ _ X2.out.b2
  have c3 := cell_of_row _ _ 3 _ _ _ X2.out.b1
  have e3 := cell_of_row _ _ 3 _ _ _ X2.out.b2
  have g3 := frozen_of_row W2 _ 3 _ _ X2.out.b2
  simp only [List.getElem?_toArray, List.getElem?_cons_zero, List.getElem?_cons_succ] at c0 e0 c1 e1 c2 e2 c3 e3
  have hne : ¬ w.heap.size = w.heap.size + 1 := by omega
  have HY := hide (Bx.fin X2.out rfl)
  have V1 := hide (StrsZ.keep (Bx.agf (A := [.string ⟨x.name.toArray⟩, .int .i64 x.sort, .slice xa x.kinds.length xc, .slice ya x.values.length yc])) V1.out)
  have V2 := hide (MoneysZ.keep (Bx.agf (A := [.string ⟨x.name.toArray⟩, .int .i64 x.sort, .slice xa x.kinds.length xc, .slice ya x.values.length yc])) V2.out)
  simp only [setAll] at HY V1 V2
  clear X2
  go_wp2_with fail
  clear hne c0 e0 g0 c1 e1 g1 c2 e2 g2 c3 e3 g3
  generalize ((((W2).setCell ⟨w.heap.size + 1, 0, none⟩ (.string ⟨x.name.toArray⟩)).setCell ⟨w.heap.size + 1, 1, none⟩ (.int .i64 x.sort)).setCell ⟨w.heap.size + 1, 2, none⟩ (.slice xa x.kinds.length xc)).setCell ⟨w.heap.size + 1, 3, none⟩ (.slice ya x.values.length yc) = Y at *
  obtain ⟨hY, hbe⟩ := HY.out
  have z0 := cell_of_row _ _ 0 _ _ _ hY
  have z1 := cell_of_row _ _ 1 _ _ _ hY
  have z2 := cell_of_row _ _ 2 _ _ _ hY
  have z3 := cell_of_row _ _ 3 _ _ _ hY
  simp only [List.getElem?_toArray, List.getElem?_cons_zero, List.getElem?_cons_succ] at z0 z1 z2 z3
  clear hY HY
  simp [bodyPost, results, Tryz.results98, go_sem, z0, z1, z2, z3]
  exact HQ.out [.string ⟨x.name.toArray⟩, .int .i64 x.sort, .slice xa x.kinds.length xc, .slice ya x.values.length yc] Y ⟨_, _, rfl, P1.out, V1.out, V2.out⟩ hbe
theorem copyP_z {w : World} {x : PredM} {xs : List Value} (h : cPred w.heap.size w x xs) (hs : szP x) :
    Calls Tryz.prog 98 #[.agg xs.toArray] w fun e w' => ∃ ys, e = .returned (.agg ys.toArray) ∧ cPredZ (Nw w w') w' x ys ∧ Below w.heap.size w w' :=
  copyP_q h hs _ fun ys _ h1 h2 => ⟨ys, rfl, h1, h2⟩
theorem infzlP : (Tryz.prog.info? 132).map (fun i => (i.zero, i.size, i.bytes)) = some (some (.agg #[.string ⟨#[]⟩, .int .i64 0, .slice none 0 0, .slice none 0 0]), 4, 72) := by kernel_rfl
set_option maxRecDepth 100000 in
set_option maxHeartbeats 3200000 in
theorem copylP_z {w : World} {a : Option Addr} {l : List (PredM)} {c : Nat} (h : RR w.heap.size 4 (cPred w.heap.size) w l (.slice a l.length c)) (hl : Szs 72 szP l) :
    Calls Tryz.prog 43 #[.slice a l.length c] w fun e w' => ∃ xa xc, e = .returned (.slice xa l.length xc) ∧ RZ (Nw w w') 4 (cPredZ (Nw w w')) w' l (.slice xa l.length xc) ∧ Below w.heap.size w w' := by
  obtain ⟨iM, hiM, zM0, zM1, zM2⟩ := info_parts' infzlP
  have HM := hide h
  have HL := hide hl
  have hb9 := hl.1
  have O1 : Hid (Gz 132 4 cPredZ w (l.take 0) 0 (.slice none 0 0) w) := hide Gz.nil
  clear h hl
  go_enter Tryz.func43, Tryz.ntmps43
  go_wp2_with fail
  go_loopw [3, 4] (fun mv x wr => ∃ (i : Nat) (a0 : Option Addr) (c0 : Nat), i ≤ l.length ∧ x = .int .i64 i ∧ mv = .slice a0 i c0 ∧ Hid (Gz 132 4 cPredZ w (l.take i) i (.slice a0 i c0) wr)) (fun _ x _ => l.length - (intOf x).toNat)
  case atStart => exact ⟨0, none, 0, by omega, rfl, rfl, O1⟩
  case round =>
    clear O1
    obtain ⟨i, a0, c0, hi, rfl, rfl, HO⟩ := hrel
    by_cases hlt : i < l.length
    · obtain ⟨x, hx⟩ : ∃ x, l[i]? = some x := ⟨l[i], List.getElem?_eq_getElem hlt⟩
      have HT := hide (take_snoc hx)
      have HSZ := hide (Szs.at HL.out hx)
      obtain ⟨g, o, ys, rfl, hg, hk, hcell, hcx⟩ := RR.open (RR.go (c' := (cPred wr.heap.size)) HO.out.low HM.out (fun _ _ h => cPred.go HO.out.low h)) hx
      have HC := hide hcx
      obtain ⟨kv, vv, rfl, p1, r1, r2⟩ := hcx
      obtain ⟨ka, kc, rfl, _⟩ := r1.form
      obtain ⟨va, vc, rfl, _⟩ := r2.form
      clear hk hx
      have d0 : wr.cell? ⟨g, o + i * 4, none⟩ = some (.string ⟨x.name.toArray⟩) := hcell 0 _ rfl
      have d1 : wr.cell? ⟨g, o + i * 4 + 1, none⟩ = some (.int .i64 x.sort) := hcell 1 _ rfl
      have d2 : wr.cell? ⟨g, o + i * 4 + 2, none⟩ = some (.slice ka x.kinds.length kc) := hcell 2 _ rfl
      have d3 : wr.cell? ⟨g, o + i * 4 + 3, none⟩ = some (.slice va x.values.length vc) := hcell 3 _ rfl
      clear hcell
      unfold str at *
      obtain ⟨Z, xs, hrow, hz, hold⟩ := HO.out.body
      have HROW := hide hrow
      have HZ := hide hz
      have HOLD := hide hold
      have HL1 : w.heap.size ≤ wr.heap.size := HO.out.low.size
      have hgw : g < wr.heap.size := by omega
      clear hrow hz hold
      have CX := hide (copyP_z (w := wr) HC.out HSZ.out)
      go_wp2_with fail
      refine CX.out.mono ?_
      rintro _ wd ⟨zs, rfl, hnew, hbd⟩
      have HNEW := hide hnew
      have HBD := hide hbd
      have HROW2 := hide (owns_keep HROW.out fun g hg => hbd.block g (owns_lt HROW.out hg))
      have HL2 : wr.heap.size ≤ wd.heap.size := hbd.size
      clear CX d0 d1 d2 d3
      obtain ⟨kv2, vv2, rfl, -, q1, q2⟩ := hnew
      obtain ⟨xa, xc, rfl⟩ := RZ.form q1
      obtain ⟨ya, yc, rfl⟩ := RZ.form q2
      unfold str at *
      clear hbd
      go_wp2_with (at_builtin; go_must (refine wpList_append_two _ rfl _ _ 24 rfl w.heap.size 132 iM _ 4 72 Tryz.underlying24 hiM zM0 zM1 zM2 rfl (by decide) _ _ _ rfl (HROW2.out.alloc _) ⟨wd.heap.size, 0, none⟩ 1 [.string ⟨x.name.toArray⟩, .int .i64 x.sort, .slice xa x.kinds.length xc, .slice ya x.values.length yc] rfl rfl (news_at rfl) (by simp [Value.oneCell']) (by unfold maxLen; omega) (by omega) (by simp; omega) ?_); intro g4 cap4 w4 hown4 hg4)
      have hz : (wd.alloc (.cells #[.string ⟨x.name.toArray⟩, .int .i64 x.sort, .slice xa x.kinds.length xc, .slice ya x.values.length yc] 132)).heap.size = wd.heap.size + 1 := by simp
      rw [hz] at hg4
      refine ⟨⟨i + 1, some ⟨g4, 0, none⟩, cap4, by omega, by go_num, rfl, hide ?_⟩, by simp [intOf]; omega⟩
      rw [HT.out]
      exact Gz.grow (fun _ _ _ _ _ _ ag h => cPredZ.keep ag h) HO.out.low HO.out.len HROW.out HZ.out HOLD.out HBD.out HNEW.out rfl hown4 hg4
    · have hk' : i = l.length := by omega
      subst hk'
      have HE := hide (List.take_of_length_le (Nat.le_refl l.length))
      rw [HE.out] at HO
      go_wp2_with fail
      go_ret
      exact ⟨_, _, rfl, Gz.done (fun _ _ _ _ _ _ ag h => cPredZ.keep ag h) HO.out HM.out.lim, HO.out.low⟩
set_option maxRecDepth 100000 in
set_option maxHeartbeats 3200000 in
theorem copyT_q {w : World} {x : TotalM} {xs : List Value} (h : cTotal w.heap.size w x xs) (hs : szTo x) (Q : Ending → World → Prop) (hQ : ∀ ys w', cTotalZ (Nw w w') w' x ys → Below w.heap.size w w' → Q (.returned (.agg ys.toArray)) w') :
    Calls Tryz.prog 100 #[.agg xs.toArray] w Q := by
  obtain ⟨pv, rfl, p1, p2, r1⟩ := h
  obtain ⟨ka, kc, rfl, _⟩ := r1.form
  have R1 := hide r1
  have P1 := hide p1
  have P2 := hide p2
  clear p1 p2 r1
  have HQ := hide hQ
  have HSZ := hide hs
  clear hQ hs
  unfold str at *
  show Calls Tryz.prog 100 #[.agg #[.string ⟨x.name.toArray⟩, .string ⟨x.kind.toArray⟩, .slice ka x.preds.length kc, .bool x.hasCap, .int .i64 x.cap]] w Q
  have X0 := hide (Bx.two (T := 142) (A := [.string ⟨x.name.toArray⟩, .string ⟨x.kind.toArray⟩, .slice ka x.preds.length kc, .bool x.hasCap, .int .i64 x.cap]) (Z0 := [.string ⟨#[]⟩, .string ⟨#[]⟩, .slice none 0 0, .bool false, .int .i64 0]) (w := w))
  go_enter Tryz.func100, Tryz.ntmps100
  go_upto_region 1 with fail
  generalize (w.alloc (.cells #[.string ⟨x.name.toArray⟩, .string ⟨x.kind.toArray⟩, .slice ka x.preds.length kc, .bool x.hasCap, .int .i64 x.cap] 142)).alloc (.cells #[.string ⟨#[]⟩, .string ⟨#[]⟩, .slice none 0 0, .bool false, .int .i64 0] 142) = W0 at *
  have a2 := cell_of_row _ _ 2 _ _ _ X0.out.b1
  simp only [List.getElem?_toArray, List.getElem?_cons_zero, List.getElem?_cons_succ] at a2
  have CX := hide (copyS_z (w := W0) (Strs.go X0.out.low R1.out) HSZ.out)
  go_wp2_with fail
  refine CX.out.mono ?_
  rintro _ v1 ⟨xa, xc, rfl, hv, hbd⟩
  have HBD := hide hbd
  have Y0 := hide (X0.out.call hbd)
  have V1 := hide (StrsZ.keep (Bx.agn X0.out (w3 := v1) 2 [.slice xa x.preds.length xc]) hv)
  have X1 := hide (Bx.set (A' := [.string ⟨x.name.toArray⟩, .string ⟨x.kind.toArray⟩, .slice xa x.preds.length xc, .bool x.hasCap, .int .i64 x.cap]) Y0.out 2 [.slice xa x.preds.length xc] rfl)
  have c2 := cell_of_row _ _ 2 _ _ _ Y0.out.b1
  have f2 := frozen_of_row v1 _ 2 _ _ Y0.out.b1
  simp only [List.getElem?_toArray, List.getElem?_cons_zero, List.getElem?_cons_succ] at c2
  simp only [setAll] at X1 V1
  clear CX hbd X0 Y0 HBD a2 hv
  go_upto_region 2 with fail
  clear c2 f2
  generalize (v1).setCell ⟨w.heap.size, 2, none⟩ (.slice xa x.preds.length xc) = W1 at *
  have c0 := cell_of_row _ _ 0 _ _ _ X1.out.b1
  have e0 := cell_of_row _ _ 0 _ _ _ X1.out.b2
  have g0 := frozen_of_row W1 _ 0 _ _ X1.out.b2
  have c1 := cell_of_row _ _ 1 _ _ _ X1.out.b1
  have e1 := cell_of_row _ _ 1 _ _ _ X1.out.b2
  have g1 := frozen_of_row W1 _ 1 _ _ X1.out.b2
  have c2 := cell_of_row _ _ 2 _ _ _ X1.out.b1
  have e2 := cell_of_row _ _ 2 _ _ _ X1.out.b2
  have g2 := frozen_of_row W1 _ 2 _ _ X1.out.b2
  have c3 := cell_of_row _ _ 3 _ _ _ X1.out.b1
  have e3 := cell_of_row _ _ 3 _ _ _ X1.out.b2
  have g3 := frozen_of_row W1 _ 3 _ _ X1.out.b2
  have c4 := cell_of_row _ _ 4 _ _ _ X1.out.b1
  have e4 := cell_of_row _ _ 4 _ _ _ X1.out.b2
  have g4 := frozen_of_row W1 _ 4 _ _ X1.out.b2
  simp only [List.getElem?_toArray, List.getElem?_cons_zero, List.getElem?_cons_succ] at c0 e0 c1 e1 c2 e2 c3 e3 c4 e4
  have hne : ¬ w.heap.size = w.heap.size + 1 := by omega
  have HY := hide (Bx.fin X1.out rfl)
  have V1 := hide (StrsZ.keep (Bx.agf (A := [.string ⟨x.name.toArray⟩, .string ⟨x.kind.toArray⟩, .slice xa x.preds.length xc, .bool x.hasCap, .int .i64 x.cap])) V1.out)
  simp only [setAll] at HY V1
  clear X1
  go_wp2_with fail
  clear hne c0 e0 g0 c1 e1 g1 c2 e2 g2 c3 e3 g3 c4 e4 g4
  generalize (((((W1).setCell ⟨w.heap.size + 1, 0, none⟩ (.string ⟨x.name.toArray⟩)).setCell ⟨w.heap.size + 1, 1, none⟩ (.string ⟨x.kind.toArray⟩)).setCell ⟨w.heap.size + 1, 2, none⟩ (.slice xa x.preds.length xc)).setCell ⟨w.heap.size + 1, 3, none⟩ (.bool x.hasCap)).setCell ⟨w.heap.size + 1, 4, none⟩ (.int .i64 x.cap) = Y at *
  obtain ⟨hY, hbe⟩ := HY.out
  have z0 := cell_of_row _ _ 0 _ _ _ hY
  have z1 := cell_of_row _ _ 1 _ _ _ hY
  have z2 := cell_of_row _ _ 2 _ _ _ hY
  have z3 := cell_of_row _ _ 3 _ _ _ hY
  have z4 := cell_of_row _ _ 4 _ _ _ hY
  simp only [List.getElem?_toArray, List.getElem?_cons_zero, List.getElem?_cons_succ] at z0 z1 z2 z3 z4
  clear hY HY
  simp [bodyPost, results, Tryz.results100, go_sem, z0, z1, z2, z3, z4]
  exact HQ.out [.string ⟨x.name.toArray⟩, .string ⟨x.kind.toArray⟩, .slice xa x.preds.length xc, .bool x.hasCap, .int .i64 x.cap] Y ⟨_, rfl, P1.out, P2.out, V1.out⟩ hbe
theorem copyT_z {w : World} {x : TotalM} {xs : List Value} (h : cTotal w.heap.size w x xs) (hs : szTo x) :
    Calls Tryz.prog 100 #[.agg xs.toArray] w fun e w' => ∃ ys, e = .returned (.agg ys.toArray) ∧ cTotalZ (Nw w w') w' x ys ∧ Below w.heap.size w w' :=
  copyT_q h hs _ fun ys _ h1 h2 => ⟨ys, rfl, h1, h2⟩
theorem infzlT : (Tryz.prog.info? 142).map (fun i => (i.zero, i.size, i.bytes)) = some (some (.agg #[.string ⟨#[]⟩, .string ⟨#[]⟩, .slice none 0 0, .bool false, .int .i64 0]), 5, 72) := by kernel_rfl
set_option maxRecDepth 100000 in
set_option maxHeartbeats 3200000 in
theorem copylT_z {w : World} {a : Option Addr} {l : List (TotalM)} {c : Nat} (h : RR w.heap.size 5 (cTotal w.heap.size) w l (.slice a l.length c)) (hl : Szs 72 szTo l) :
    Calls Tryz.prog 48 #[.slice a l.length c] w fun e w' => ∃ xa xc, e = .returned (.slice xa l.length xc) ∧ RZ (Nw w w') 5 (cTotalZ (Nw w w')) w' l (.slice xa l.length xc) ∧ Below w.heap.size w w' := by
  obtain ⟨iM, hiM, zM0, zM1, zM2⟩ := info_parts' infzlT
  have HM := hide h
  have HL := hide hl
  have hb9 := hl.1
  have O1 : Hid (Gz 142 5 cTotalZ w (l.take 0) 0 (.slice none 0 0) w) := hide Gz.nil
  clear h hl
  go_enter Tryz.func48, Tryz.ntmps48
  go_wp2_with fail
  go_loopw [3, 4] (fun mv x wr => ∃ (i : Nat) (a0 : Option Addr) (c0 : Nat), i ≤ l.length ∧ x = .int .i64 i ∧ mv = .slice a0 i c0 ∧ Hid (Gz 142 5 cTotalZ w (l.take i) i (.slice a0 i c0) wr)) (fun _ x _ => l.length - (intOf x).toNat)
  case atStart => exact ⟨0, none, 0, by omega, rfl, rfl, O1⟩
  case round =>
    clear O1
    obtain ⟨i, a0, c0, hi, rfl, rfl, HO⟩ := hrel
    by_cases hlt : i < l.length
    · obtain ⟨x, hx⟩ : ∃ x, l[i]? = some x := ⟨l[i], List.getElem?_eq_getElem hlt⟩
      have HT := hide (take_snoc hx)
      have HSZ := hide (Szs.at HL.out hx)
      obtain ⟨g, o, ys, rfl, hg, hk, hcell, hcx⟩ := RR.open (RR.go (c' := (cTotal wr.heap.size)) HO.out.low HM.out (fun _ _ h => cTotal.go HO.out.low h)) hx
      have HC := hide hcx
      obtain ⟨pv, rfl, p1, p2, r1⟩ := hcx
      obtain ⟨ka, kc, rfl, _⟩ := r1.form
      clear hk hx
      have d0 : wr.cell? ⟨g, o + i * 5, none⟩ = some (.string ⟨x.name.toArray⟩) := hcell 0 _ rfl
      have d1 : wr.cell? ⟨g, o + i * 5 + 1, none⟩ = some (.string ⟨x.kind.toArray⟩) := hcell 1 _ rfl
      have d2 : wr.cell? ⟨g, o + i * 5 + 2, none⟩ = some (.slice ka x.preds.length kc) := hcell 2 _ rfl
      have d3 : wr.cell? ⟨g, o + i * 5 + 3, none⟩ = some (.bool x.hasCap) := hcell 3 _ rfl
      have d4 : wr.cell? ⟨g, o + i * 5 + 4, none⟩ = some (.int .i64 x.cap) := hcell 4 _ rfl
      clear hcell
      unfold str at *
      obtain ⟨Z, xs, hrow, hz, hold⟩ := HO.out.body
      have HROW := hide hrow
      have HZ := hide hz
      have HOLD := hide hold
      have HL1 : w.heap.size ≤ wr.heap.size := HO.out.low.size
      have hgw : g < wr.heap.size := by omega
      clear hrow hz hold
      have CX := hide (copyT_z (w := wr) HC.out HSZ.out)
      go_wp2_with fail
      refine CX.out.mono ?_
      rintro _ wd ⟨zs, rfl, hnew, hbd⟩
      have HNEW := hide hnew
      have HBD := hide hbd
      have HROW2 := hide (owns_keep HROW.out fun g hg => hbd.block g (owns_lt HROW.out hg))
      have HL2 : wr.heap.size ≤ wd.heap.size := hbd.size
      clear CX d0 d1 d2 d3 d4
      obtain ⟨pv2, rfl, -, -, q1⟩ := hnew
      obtain ⟨xa, xc, rfl⟩ := RZ.form q1
      unfold str at *
      clear hbd
      go_wp2_with (at_builtin; go_must (refine wpList_append_two _ rfl _ _ 29 rfl w.heap.size 142 iM _ 5 72 Tryz.underlying29 hiM zM0 zM1 zM2 rfl (by decide) _ _ _ rfl (HROW2.out.alloc _) ⟨wd.heap.size, 0, none⟩ 1 [.string ⟨x.name.toArray⟩, .string ⟨x.kind.toArray⟩, .slice xa x.preds.length xc, .bool x.hasCap, .int .i64 x.cap] rfl rfl (news_at rfl) (by simp [Value.oneCell']) (by unfold maxLen; omega) (by omega) (by simp; omega) ?_); intro g4 cap4 w4 hown4 hg4)
      have hz : (wd.alloc (.cells #[.string ⟨x.name.toArray⟩, .string ⟨x.kind.toArray⟩, .slice xa x.preds.length xc, .bool x.hasCap, .int .i64 x.cap] 142)).heap.size = wd.heap.size + 1 := by simp
      rw [hz] at hg4
      refine ⟨⟨i + 1, some ⟨g4, 0, none⟩, cap4, by omega, by go_num, rfl, hide ?_⟩, by simp [intOf]; omega⟩
      rw [HT.out]
      exact Gz.grow (fun _ _ _ _ _ _ ag h => cTotalZ.keep ag h) HO.out.low HO.out.len HROW.out HZ.out HOLD.out HBD.out HNEW.out rfl hown4 hg4
    · have hk' : i = l.length := by omega
      subst hk'
      have HE := hide (List.take_of_length_le (Nat.le_refl l.length))
      rw [HE.out] at HO
      go_wp2_with fail
      go_ret
      exact ⟨_, _, rfl, Gz.done (fun _ _ _ _ _ _ ag h => cTotalZ.keep ag h) HO.out HM.out.lim, HO.out.low⟩
end Go.Proofs.YtfnobccminhjpaaGreat
