/- Copies: a statute. By program (tools/gen8/copz9.py). -/
import Derived.Test.YtfnobccminhjpaaGreatCopY9
namespace Go.Proofs.YtfnobccminhjpaaGreat
open Go.RowKit Go.Shelf Go.Maps Go.WideMaps
/-- A statute's lists in blocks of Z. -/
structure SZ (Z : Nat → Prop) (w : World) (S : StatM) (st : St9) : Prop where
  title : st.title = str S.title
  kinds : RZ Z 1 (cSZ Z) w S.kinds st.kinds
  members : RZ Z 2 (cMZ Z) w S.members st.members
  preds : RZ Z 4 (cPredZ Z) w S.preds st.preds
  classes : RZ Z 1 (cClassZ Z) w S.classes st.classes
  sources : RZ Z 2 (cSrcZ Z) w S.sources st.sources
  rules : RZ Z 11 (cRuleZ Z) w S.rules st.rules
  excepts : RZ Z 2 (cMZ Z) w S.excepts st.excepts
  totals : RZ Z 5 (cTotalZ Z) w S.totals st.totals
section
variable {Z Z' : Nat → Prop} {w w' : World} {v : Value} (ag : Ag Z Z' w w')
include ag
theorem kz_kinds {l : List Bytes} (h : RZ Z 1 (cSZ Z) w l v) : RZ Z' 1 (cSZ Z') w' l v := RZ.keep h ag (fun _ _ h => h)
theorem kz_members {l : List (Bytes × Bytes)} (h : RZ Z 2 (cMZ Z) w l v) : RZ Z' 2 (cMZ Z') w' l v := RZ.keep h ag (fun _ _ h => h)
theorem kz_preds {l : List PredM} (h : RZ Z 4 (cPredZ Z) w l v) : RZ Z' 4 (cPredZ Z') w' l v := RZ.keep h ag fun _ _ h => cPredZ.keep ag h
theorem kz_classes {l : List (List Bytes)} (h : RZ Z 1 (cClassZ Z) w l v) : RZ Z' 1 (cClassZ Z') w' l v := RZ.keep h ag fun _ _ h => cClassZ.keep ag h
theorem kz_sources {l : List (Bytes × Int)} (h : RZ Z 2 (cSrcZ Z) w l v) : RZ Z' 2 (cSrcZ Z') w' l v := RZ.keep h ag (fun _ _ h => h)
theorem kz_rules {l : List RuleM} (h : RZ Z 11 (cRuleZ Z) w l v) : RZ Z' 11 (cRuleZ Z') w' l v := RZ.keep h ag fun _ _ h => cRuleZ.keep ag h
theorem kz_excepts {l : List (Bytes × Bytes)} (h : RZ Z 2 (cMZ Z) w l v) : RZ Z' 2 (cMZ Z') w' l v := RZ.keep h ag (fun _ _ h => h)
theorem kz_totals {l : List TotalM} (h : RZ Z 5 (cTotalZ Z) w l v) : RZ Z' 5 (cTotalZ Z') w' l v := RZ.keep h ag fun _ _ h => cTotalZ.keep ag h
end
theorem SZ.sr {Z : Nat → Prop} {N : Nat} {w : World} {S : StatM} {st : St9} (h : SZ Z w S st) (hz : ∀ g, Z g → g < N) : SR N w S st :=
  ⟨⟨_, h.title⟩, RZ.rr h.kinds hz fun _ _ h => h, RZ.rr h.members hz fun _ _ h => h, RZ.rr h.preds hz fun _ _ h => cPredZ.rr hz h, RZ.rr h.classes hz fun _ _ h => cClassZ.rr hz h, RZ.rr h.sources hz fun _ _ h => h, RZ.rr h.rules hz fun _ _ h => cRuleZ.rr hz h, RZ.rr h.excepts hz fun _ _ h => h, RZ.rr h.totals hz fun _ _ h => cTotalZ.rr hz h⟩
set_option maxRecDepth 100000 in
set_option maxHeartbeats 3200000 in
theorem copySt_q {w : World} {S : StatM} {st : St9} (h : SR w.heap.size w S st) (ht : st.title = str S.title) (hs : SzS S) (Q : Ending → World → Prop) (hQ : ∀ st' w', SZ (Nw w w') w' S st' → Below w.heap.size w w' → Q (.returned st'.agg) w') :
    Calls Tryz.prog 7 #[st.agg] w Q := by
  have HS := hide h
  have HSZ := hide hs
  have HQ := hide hQ
  obtain ⟨a1, c1, e1, _⟩ := h.kinds.form
  obtain ⟨a2, c2, e2, _⟩ := h.members.form
  obtain ⟨a3, c3, e3, _⟩ := h.preds.form
  obtain ⟨a4, c4, e4, _⟩ := h.classes.form
  obtain ⟨a5, c5, e5, _⟩ := h.sources.form
  obtain ⟨a6, c6, e6, _⟩ := h.rules.form
  obtain ⟨a7, c7, e7, _⟩ := h.excepts.form
  obtain ⟨a8, c8, e8, _⟩ := h.totals.form
  obtain ⟨t0, t1, t2, t3, t4, t5, t6, t7, t8⟩ := st
  simp only at ht e1 e2 e3 e4 e5 e6 e7 e8
  subst ht e1 e2 e3 e4 e5 e6 e7 e8
  clear h hs hQ
  unfold str at *
  show Calls Tryz.prog 7 #[.agg #[.string ⟨S.title.toArray⟩, .slice a1 S.kinds.length c1, .slice a2 S.members.length c2, .slice a3 S.preds.length c3, .slice a4 S.classes.length c4, .slice a5 S.sources.length c5, .slice a6 S.rules.length c6, .slice a7 S.excepts.length c7, .slice a8 S.totals.length c8]] w Q
  have X0 := hide (Bx.two (T := 31) (A := [.string ⟨S.title.toArray⟩, .slice a1 S.kinds.length c1, .slice a2 S.members.length c2, .slice a3 S.preds.length c3, .slice a4 S.classes.length c4, .slice a5 S.sources.length c5, .slice a6 S.rules.length c6, .slice a7 S.excepts.length c7, .slice a8 S.totals.length c8]) (Z0 := [.string ⟨#[]⟩, .slice none 0 0, .slice none 0 0, .slice none 0 0, .slice none 0 0, .slice none 0 0, .slice none 0 0, .slice none 0 0, .slice none 0 0]) (w := w))
  go_enter Tryz.func7, Tryz.ntmps7
  go_upto_region 1 with fail
  generalize (w.alloc (.cells #[.string ⟨S.title.toArray⟩, .slice a1 S.kinds.length c1, .slice a2 S.members.length c2, .slice a3 S.preds.length c3, .slice a4 S.classes.length c4, .slice a5 S.sources.length c5, .slice a6 S.rules.length c6, .slice a7 S.excepts.length c7, .slice a8 S.totals.length c8] 31)).alloc (.cells #[.string ⟨#[]⟩, .slice none 0 0, .slice none 0 0, .slice none 0 0, .slice none 0 0, .slice none 0 0, .slice none 0 0, .slice none 0 0, .slice none 0 0] 31) = W0 at *
  have a1 := cell_of_row _ _ 1 _ _ _ X0.out.b1
  simp only [List.getElem?_toArray, List.getElem?_cons_zero, List.getElem?_cons_succ] at a1
  have CX := hide (copyS_z (w := W0) (Strs.go X0.out.low HS.out.kinds) HSZ.out.kinds)
  go_wp2_with fail
  refine CX.out.mono ?_
  rintro _ v1 ⟨x1, y1, rfl, hv, hbd⟩
  have HBD := hide hbd
  have Y0 := hide (X0.out.call hbd)
  have V1 := hide (kz_kinds (Bx.agn X0.out (w3 := v1) 1 [.slice x1 S.kinds.length y1]) hv)
  have X1 := hide (Bx.set (A' := [.string ⟨S.title.toArray⟩, .slice x1 S.kinds.length y1, .slice a2 S.members.length c2, .slice a3 S.preds.length c3, .slice a4 S.classes.length c4, .slice a5 S.sources.length c5, .slice a6 S.rules.length c6, .slice a7 S.excepts.length c7, .slice a8 S.totals.length c8]) Y0.out 1 [.slice x1 S.kinds.length y1] rfl)
  have c1 := cell_of_row _ _ 1 _ _ _ Y0.out.b1
  have f1 := frozen_of_row v1 _ 1 _ _ Y0.out.b1
  simp only [List.getElem?_toArray, List.getElem?_cons_zero, List.getElem?_cons_succ] at c1
  simp only [setAll] at X1 V1
  clear CX hbd X0 Y0 HBD a1 hv
  go_upto_region 2 with fail
  clear c1 f1
  generalize (v1).setCell ⟨w.heap.size, 1, none⟩ (.slice x1 S.kinds.length y1) = W1 at *
  have a2 := cell_of_row _ _ 2 _ _ _ X1.out.b1
  simp only [List.getElem?_toArray, List.getElem?_cons_zero, List.getElem?_cons_succ] at a2
  have CX := hide (copyM_z (w := W1) (RR.go X1.out.low HS.out.members fun _ _ h => h) HSZ.out.members)
  go_wp2_with fail
  refine CX.out.mono ?_
  rintro _ v2 ⟨x2, y2, rfl, hv, hbd⟩
  have HBD := hide hbd
  have Y1 := hide (X1.out.call hbd)
  have V1 := hide (kz_kinds (Bx.ago HBD.out 2 [.slice x2 S.members.length y2]) V1.out)
  have V2 := hide (kz_members (Bx.agn X1.out (w3 := v2) 2 [.slice x2 S.members.length y2]) hv)
  have X2 := hide (Bx.set (A' := [.string ⟨S.title.toArray⟩, .slice x1 S.kinds.length y1, .slice x2 S.members.length y2, .slice a3 S.preds.length c3, .slice a4 S.classes.length c4, .slice a5 S.sources.length c5, .slice a6 S.rules.length c6, .slice a7 S.excepts.length c7, .slice a8 S.totals.length c8]) Y1.out 2 [.slice x2 S.members.length y2] rfl)
  have c2 := cell_of_row _ _ 2 _ _ _ Y1.out.b1
  have f2 := frozen_of_row v2 _ 2 _ _ Y1.out.b1
  simp only [List.getElem?_toArray, List.getElem?_cons_zero, List.getElem?_cons_succ] at c2
  simp only [setAll] at X2 V1 V2
  clear CX hbd X1 Y1 HBD a2 hv
  go_upto_region 3 with fail
  clear c2 f2
  generalize (v2).setCell ⟨w.heap.size, 2, none⟩ (.slice x2 S.members.length y2) = W2 at *
  have a3 := cell_of_row _ _ 3 _ _ _ X2.out.b1
  simp only [List.getElem?_toArray, List.getElem?_cons_zero, List.getElem?_cons_succ] at a3
  have CX := hide (copylP_z (w := W2) (RR.go X2.out.low HS.out.preds fun _ _ h => cPred.go X2.out.low h) HSZ.out.preds)
  go_wp2_with fail
  refine CX.out.mono ?_
  rintro _ v3 ⟨x3, y3, rfl, hv, hbd⟩
  have HBD := hide hbd
  have Y2 := hide (X2.out.call hbd)
  have V1 := hide (kz_kinds (Bx.ago HBD.out 3 [.slice x3 S.preds.length y3]) V1.out)
  have V2 := hide (kz_members (Bx.ago HBD.out 3 [.slice x3 S.preds.length y3]) V2.out)
  have V3 := hide (kz_preds (Bx.agn X2.out (w3 := v3) 3 [.slice x3 S.preds.length y3]) hv)
  have X3 := hide (Bx.set (A' := [.string ⟨S.title.toArray⟩, .slice x1 S.kinds.length y1, .slice x2 S.members.length y2, .slice x3 S.preds.length y3, .slice a4 S.classes.length c4, .slice a5 S.sources.length c5, .slice a6 S.rules.length c6, .slice a7 S.excepts.length c7, .slice a8 S.totals.length c8]) Y2.out 3 [.slice x3 S.preds.length y3] rfl)
  have c3 := cell_of_row _ _ 3 _ _ _ Y2.out.b1
  have f3 := frozen_of_row v3 _ 3 _ _ Y2.out.b1
  simp only [List.getElem?_toArray, List.getElem?_cons_zero, List.getElem?_cons_succ] at c3
  simp only [setAll] at X3 V1 V2 V3
  clear CX hbd X2 Y2 HBD a3 hv
  go_upto_region 4 with fail
  clear c3 f3
  generalize (v3).setCell ⟨w.heap.size, 3, none⟩ (.slice x3 S.preds.length y3) = W3 at *
  have a4 := cell_of_row _ _ 4 _ _ _ X3.out.b1
  simp only [List.getElem?_toArray, List.getElem?_cons_zero, List.getElem?_cons_succ] at a4
  have CX := hide (copyC_z (w := W3) (RR.go X3.out.low HS.out.classes fun _ _ h => cClass.go X3.out.low h) HSZ.out.classes)
  go_wp2_with fail
  refine CX.out.mono ?_
  rintro _ v4 ⟨x4, y4, rfl, hv, hbd⟩
  have HBD := hide hbd
  have Y3 := hide (X3.out.call hbd)
  have V1 := hide (kz_kinds (Bx.ago HBD.out 4 [.slice x4 S.classes.length y4]) V1.out)
  have V2 := hide (kz_members (Bx.ago HBD.out 4 [.slice x4 S.classes.length y4]) V2.out)
  have V3 := hide (kz_preds (Bx.ago HBD.out 4 [.slice x4 S.classes.length y4]) V3.out)
  have V4 := hide (kz_classes (Bx.agn X3.out (w3 := v4) 4 [.slice x4 S.classes.length y4]) hv)
  have X4 := hide (Bx.set (A' := [.string ⟨S.title.toArray⟩, .slice x1 S.kinds.length y1, .slice x2 S.members.length y2, .slice x3 S.preds.length y3, .slice x4 S.classes.length y4, .slice a5 S.sources.length c5, .slice a6 S.rules.length c6, .slice a7 S.excepts.length c7, .slice a8 S.totals.length c8]) Y3.out 4 [.slice x4 S.classes.length y4] rfl)
  have c4 := cell_of_row _ _ 4 _ _ _ Y3.out.b1
  have f4 := frozen_of_row v4 _ 4 _ _ Y3.out.b1
  simp only [List.getElem?_toArray, List.getElem?_cons_zero, List.getElem?_cons_succ] at c4
  simp only [setAll] at X4 V1 V2 V3 V4
  clear CX hbd X3 Y3 HBD a4 hv
  go_upto_region 5 with fail
  clear c4 f4
  generalize (v4).setCell ⟨w.heap.size, 4, none⟩ (.slice x4 S.classes.length y4) = W4 at *
  have a5 := cell_of_row _ _ 5 _ _ _ X4.out.b1
  simp only [List.getElem?_toArray, List.getElem?_cons_zero, List.getElem?_cons_succ] at a5
  have CX := hide (copySr_z (w := W4) (RR.go X4.out.low HS.out.sources fun _ _ h => h) HSZ.out.sources)
  go_wp2_with fail
  refine CX.out.mono ?_
  rintro _ v5 ⟨x5, y5, rfl, hv, hbd⟩
  have HBD := hide hbd
  have Y4 := hide (X4.out.call hbd)
  have V1 := hide (kz_kinds (Bx.ago HBD.out 5 [.slice x5 S.sources.length y5]) V1.out)
  have V2 := hide (kz_members (Bx.ago HBD.out 5 [.slice x5 S.sources.length y5]) V2.out)
  have V3 := hide (kz_preds (Bx.ago HBD.out 5 [.slice x5 S.sources.length y5]) V3.out)
  have V4 := hide (kz_classes (Bx.ago HBD.out 5 [.slice x5 S.sources.length y5]) V4.out)
  have V5 := hide (kz_sources (Bx.agn X4.out (w3 := v5) 5 [.slice x5 S.sources.length y5]) hv)
  have X5 := hide (Bx.set (A' := [.string ⟨S.title.toArray⟩, .slice x1 S.kinds.length y1, .slice x2 S.members.length y2, .slice x3 S.preds.length y3, .slice x4 S.classes.length y4, .slice x5 S.sources.length y5, .slice a6 S.rules.length c6, .slice a7 S.excepts.length c7, .slice a8 S.totals.length c8]) Y4.out 5 [.slice x5 S.sources.length y5] rfl)
  have c5 := cell_of_row _ _ 5 _ _ _ Y4.out.b1
  have f5 := frozen_of_row v5 _ 5 _ _ Y4.out.b1
  simp only [List.getElem?_toArray, List.getElem?_cons_zero, List.getElem?_cons_succ] at c5
  simp only [setAll] at X5 V1 V2 V3 V4 V5
  clear CX hbd X4 Y4 HBD a5 hv
  go_upto_region 6 with fail
  clear c5 f5
  generalize (v5).setCell ⟨w.heap.size, 5, none⟩ (.slice x5 S.sources.length y5) = W5 at *
  have a6 := cell_of_row _ _ 6 _ _ _ X5.out.b1
  simp only [List.getElem?_toArray, List.getElem?_cons_zero, List.getElem?_cons_succ] at a6
  have CX := hide (copylR_z (w := W5) (RR.go X5.out.low HS.out.rules fun _ _ h => cRule.go X5.out.low h) HSZ.out.rules)
  go_wp2_with fail
  refine CX.out.mono ?_
  rintro _ v6 ⟨x6, y6, rfl, hv, hbd⟩
  have HBD := hide hbd
  have Y5 := hide (X5.out.call hbd)
  have V1 := hide (kz_kinds (Bx.ago HBD.out 6 [.slice x6 S.rules.length y6]) V1.out)
  have V2 := hide (kz_members (Bx.ago HBD.out 6 [.slice x6 S.rules.length y6]) V2.out)
  have V3 := hide (kz_preds (Bx.ago HBD.out 6 [.slice x6 S.rules.length y6]) V3.out)
  have V4 := hide (kz_classes (Bx.ago HBD.out 6 [.slice x6 S.rules.length y6]) V4.out)
  have V5 := hide (kz_sources (Bx.ago HBD.out 6 [.slice x6 S.rules.length y6]) V5.out)
  have V6 := hide (kz_rules (Bx.agn X5.out (w3 := v6) 6 [.slice x6 S.rules.length y6]) hv)
  have X6 := hide (Bx.set (A' := [.string ⟨S.title.toArray⟩, .slice x1 S.kinds.length y1, .slice x2 S.members.length y2, .slice x3 S.preds.length y3, .slice x4 S.classes.length y4, .slice x5 S.sources.length y5, .slice x6 S.rules.length y6, .slice a7 S.excepts.length c7, .slice a8 S.totals.length c8]) Y5.out 6 [.slice x6 S.rules.length y6] rfl)
  have c6 := cell_of_row _ _ 6 _ _ _ Y5.out.b1
  have f6 := frozen_of_row v6 _ 6 _ _ Y5.out.b1
  simp only [List.getElem?_toArray, List.getElem?_cons_zero, List.getElem?_cons_succ] at c6
  simp only [setAll] at X6 V1 V2 V3 V4 V5 V6
  clear CX hbd X5 Y5 HBD a6 hv
  go_upto_region 7 with fail
  clear c6 f6
  generalize (v6).setCell ⟨w.heap.size, 6, none⟩ (.slice x6 S.rules.length y6) = W6 at *
  have a7 := cell_of_row _ _ 7 _ _ _ X6.out.b1
  simp only [List.getElem?_toArray, List.getElem?_cons_zero, List.getElem?_cons_succ] at a7
  have CX := hide (copyE_z (w := W6) (RR.go X6.out.low HS.out.excepts fun _ _ h => h) HSZ.out.excepts)
  go_wp2_with fail
  refine CX.out.mono ?_
  rintro _ v7 ⟨x7, y7, rfl, hv, hbd⟩
  have HBD := hide hbd
  have Y6 := hide (X6.out.call hbd)
  have V1 := hide (kz_kinds (Bx.ago HBD.out 7 [.slice x7 S.excepts.length y7]) V1.out)
  have V2 := hide (kz_members (Bx.ago HBD.out 7 [.slice x7 S.excepts.length y7]) V2.out)
  have V3 := hide (kz_preds (Bx.ago HBD.out 7 [.slice x7 S.excepts.length y7]) V3.out)
  have V4 := hide (kz_classes (Bx.ago HBD.out 7 [.slice x7 S.excepts.length y7]) V4.out)
  have V5 := hide (kz_sources (Bx.ago HBD.out 7 [.slice x7 S.excepts.length y7]) V5.out)
  have V6 := hide (kz_rules (Bx.ago HBD.out 7 [.slice x7 S.excepts.length y7]) V6.out)
  have V7 := hide (kz_excepts (Bx.agn X6.out (w3 := v7) 7 [.slice x7 S.excepts.length y7]) hv)
  have X7 := hide (Bx.set (A' := [.string ⟨S.title.toArray⟩, .slice x1 S.kinds.length y1, .slice x2 S.members.length y2, .slice x3 S.preds.length y3, .slice x4 S.classes.length y4, .slice x5 S.sources.length y5, .slice x6 S.rules.length y6, .slice x7 S.excepts.length y7, .slice a8 S.totals.length c8]) Y6.out 7 [.slice x7 S.excepts.length y7] rfl)
  have c7 := cell_of_row _ _ 7 _ _ _ Y6.out.b1
  have f7 := frozen_of_row v7 _ 7 _ _ Y6.out.b1
  simp only [List.getElem?_toArray, List.getElem?_cons_zero, List.getElem?_cons_succ] at c7
  simp only [setAll] at X7 V1 V2 V3 V4 V5 V6 V7
  clear CX hbd X6 Y6 HBD a7 hv
  go_upto_region 8 with fail
  clear c7 f7
  generalize (v7).setCell ⟨w.heap.size, 7, none⟩ (.slice x7 S.excepts.length y7) = W7 at *
  have a8 := cell_of_row _ _ 8 _ _ _ X7.out.b1
  simp only [List.getElem?_toArray, List.getElem?_cons_zero, List.getElem?_cons_succ] at a8
  have CX := hide (copylT_z (w := W7) (RR.go X7.out.low HS.out.totals fun _ _ h => cTotal.go X7.out.low h) HSZ.out.totals)
  go_wp2_with fail
  refine CX.out.mono ?_
  rintro _ v8 ⟨x8, y8, rfl, hv, hbd⟩
  have HBD := hide hbd
  have Y7 := hide (X7.out.call hbd)
  have V1 := hide (kz_kinds (Bx.ago HBD.out 8 [.slice x8 S.totals.length y8]) V1.out)
  have V2 := hide (kz_members (Bx.ago HBD.out 8 [.slice x8 S.totals.length y8]) V2.out)
  have V3 := hide (kz_preds (Bx.ago HBD.out 8 [.slice x8 S.totals.length y8]) V3.out)
  have V4 := hide (kz_classes (Bx.ago HBD.out 8 [.slice x8 S.totals.length y8]) V4.out)
  have V5 := hide (kz_sources (Bx.ago HBD.out 8 [.slice x8 S.totals.length y8]) V5.out)
  have V6 := hide (kz_rules (Bx.ago HBD.out 8 [.slice x8 S.totals.length y8]) V6.out)
  have V7 := hide (kz_excepts (Bx.ago HBD.out 8 [.slice x8 S.totals.length y8]) V7.out)
  have V8 := hide (kz_totals (Bx.agn X7.out (w3 := v8) 8 [.slice x8 S.totals.length y8]) hv)
  have X8 := hide (Bx.set (A' := [.string ⟨S.title.toArray⟩, .slice x1 S.kinds.length y1, .slice x2 S.members.length y2, .slice x3 S.preds.length y3, .slice x4 S.classes.length y4, .slice x5 S.sources.length y5, .slice x6 S.rules.length y6, .slice x7 S.excepts.length y7, .slice x8 S.totals.length y8]) Y7.out 8 [.slice x8 S.totals.length y8] rfl)
  have c8 := cell_of_row _ _ 8 _ _ _ Y7.out.b1
  have f8 := frozen_of_row v8 _ 8 _ _ Y7.out.b1
  simp only [List.getElem?_toArray, List.getElem?_cons_zero, List.getElem?_cons_succ] at c8
  simp only [setAll] at X8 V1 V2 V3 V4 V5 V6 V7 V8
  clear CX hbd X7 Y7 HBD a8 hv
  go_upto_region 9 with fail
  clear c8 f8
  generalize (v8).setCell ⟨w.heap.size, 8, none⟩ (.slice x8 S.totals.length y8) = W8 at *
  have c0 := cell_of_row _ _ 0 _ _ _ X8.out.b1
  have e0 := cell_of_row _ _ 0 _ _ _ X8.out.b2
  have g0 := frozen_of_row W8 _ 0 _ _ X8.out.b2
  have c1 := cell_of_row _ _ 1 _ _ _ X8.out.b1
  have e1 := cell_of_row _ _ 1 _ _ _ X8.out.b2
  have g1 := frozen_of_row W8 _ 1 _ _ X8.out.b2
  have c2 := cell_of_row _ _ 2 _ _ _ X8.out.b1
  have e2 := cell_of_row _ _ 2 _ _ _ X8.out.b2
  have g2 := frozen_of_row W8 _ 2 _ _ X8.out.b2
  have c3 := cell_of_row _ _ 3 _ _ _ X8.out.b1
  have e3 := cell_of_row _ _ 3 _ _ _ X8.out.b2
  have g3 := frozen_of_row W8 _ 3 _ _ X8.out.b2
  have c4 := cell_of_row _ _ 4 _ _ _ X8.out.b1
  have e4 := cell_of_row _ _ 4 _ _ _ X8.out.b2
  have g4 := frozen_of_row W8 _ 4 _ _ X8.out.b2
  have c5 := cell_of_row _ _ 5 _ _ _ X8.out.b1
  have e5 := cell_of_row _ _ 5 _ _ _ X8.out.b2
  have g5 := frozen_of_row W8 _ 5 _ _ X8.out.b2
  have c6 := cell_of_row _ _ 6 _ _ _ X8.out.b1
  have e6 := cell_of_row _ _ 6 _ _ _ X8.out.b2
  have g6 := frozen_of_row W8 _ 6 _ _ X8.out.b2
  have c7 := cell_of_row _ _ 7 _ _ _ X8.out.b1
  have e7 := cell_of_row _ _ 7 _ _ _ X8.out.b2
  have g7 := frozen_of_row W8 _ 7 _ _ X8.out.b2
  have c8 := cell_of_row _ _ 8 _ _ _ X8.out.b1
  have e8 := cell_of_row _ _ 8 _ _ _ X8.out.b2
  have g8 := frozen_of_row W8 _ 8 _ _ X8.out.b2
  simp only [List.getElem?_toArray, List.getElem?_cons_zero, List.getElem?_cons_succ] at c0 e0 c1 e1 c2 e2 c3 e3 c4 e4 c5 e5 c6 e6 c7 e7 c8 e8
  have hne : ¬ w.heap.size = w.heap.size + 1 := by omega
  have HY := hide (Bx.fin X8.out rfl)
  have V1 := hide (kz_kinds (Bx.agf (A := [.string ⟨S.title.toArray⟩, .slice x1 S.kinds.length y1, .slice x2 S.members.length y2, .slice x3 S.preds.length y3, .slice x4 S.classes.length y4, .slice x5 S.sources.length y5, .slice x6 S.rules.length y6, .slice x7 S.excepts.length y7, .slice x8 S.totals.length y8])) V1.out)
  have V2 := hide (kz_members (Bx.agf (A := [.string ⟨S.title.toArray⟩, .slice x1 S.kinds.length y1, .slice x2 S.members.length y2, .slice x3 S.preds.length y3, .slice x4 S.classes.length y4, .slice x5 S.sources.length y5, .slice x6 S.rules.length y6, .slice x7 S.excepts.length y7, .slice x8 S.totals.length y8])) V2.out)
  have V3 := hide (kz_preds (Bx.agf (A := [.string ⟨S.title.toArray⟩, .slice x1 S.kinds.length y1, .slice x2 S.members.length y2, .slice x3 S.preds.length y3, .slice x4 S.classes.length y4, .slice x5 S.sources.length y5, .slice x6 S.rules.length y6, .slice x7 S.excepts.length y7, .slice x8 S.totals.length y8])) V3.out)
  have V4 := hide (kz_classes (Bx.agf (A := [.string ⟨S.title.toArray⟩, .slice x1 S.kinds.length y1, .slice x2 S.members.length y2, .slice x3 S.preds.length y3, .slice x4 S.classes.length y4, .slice x5 S.sources.length y5, .slice x6 S.rules.length y6, .slice x7 S.excepts.length y7, .slice x8 S.totals.length y8])) V4.out)
  have V5 := hide (kz_sources (Bx.agf (A := [.string ⟨S.title.toArray⟩, .slice x1 S.kinds.length y1, .slice x2 S.members.length y2, .slice x3 S.preds.length y3, .slice x4 S.classes.length y4, .slice x5 S.sources.length y5, .slice x6 S.rules.length y6, .slice x7 S.excepts.length y7, .slice x8 S.totals.length y8])) V5.out)
  have V6 := hide (kz_rules (Bx.agf (A := [.string ⟨S.title.toArray⟩, .slice x1 S.kinds.length y1, .slice x2 S.members.length y2, .slice x3 S.preds.length y3, .slice x4 S.classes.length y4, .slice x5 S.sources.length y5, .slice x6 S.rules.length y6, .slice x7 S.excepts.length y7, .slice x8 S.totals.length y8])) V6.out)
  have V7 := hide (kz_excepts (Bx.agf (A := [.string ⟨S.title.toArray⟩, .slice x1 S.kinds.length y1, .slice x2 S.members.length y2, .slice x3 S.preds.length y3, .slice x4 S.classes.length y4, .slice x5 S.sources.length y5, .slice x6 S.rules.length y6, .slice x7 S.excepts.length y7, .slice x8 S.totals.length y8])) V7.out)
  have V8 := hide (kz_totals (Bx.agf (A := [.string ⟨S.title.toArray⟩, .slice x1 S.kinds.length y1, .slice x2 S.members.length y2, .slice x3 S.preds.length y3, .slice x4 S.classes.length y4, .slice x5 S.sources.length y5, .slice x6 S.rules.length y6, .slice x7 S.excepts.length y7, .slice x8 S.totals.length y8])) V8.out)
  simp only [setAll] at HY V1 V2 V3 V4 V5 V6 V7 V8
  clear X8
  go_wp2_with fail
  clear hne c0 e0 g0 c1 e1 g1 c2 e2 g2 c3 e3 g3 c4 e4 g4 c5 e5 g5 c6 e6 g6 c7 e7 g7 c8 e8 g8
  generalize (((((((((W8).setCell ⟨w.heap.size + 1, 0, none⟩ (.string ⟨S.title.toArray⟩)).setCell ⟨w.heap.size + 1, 1, none⟩ (.slice x1 S.kinds.length y1)).setCell ⟨w.heap.size + 1, 2, none⟩ (.slice x2 S.members.length y2)).setCell ⟨w.heap.size + 1, 3, none⟩ (.slice x3 S.preds.length y3)).setCell ⟨w.heap.size + 1, 4, none⟩ (.slice x4 S.classes.length y4)).setCell ⟨w.heap.size + 1, 5, none⟩ (.slice x5 S.sources.length y5)).setCell ⟨w.heap.size + 1, 6, none⟩ (.slice x6 S.rules.length y6)).setCell ⟨w.heap.size + 1, 7, none⟩ (.slice x7 S.excepts.length y7)).setCell ⟨w.heap.size + 1, 8, none⟩ (.slice x8 S.totals.length y8) = Y at *
  obtain ⟨hY, hbe⟩ := HY.out
  have z0 := cell_of_row _ _ 0 _ _ _ hY
  have z1 := cell_of_row _ _ 1 _ _ _ hY
  have z2 := cell_of_row _ _ 2 _ _ _ hY
  have z3 := cell_of_row _ _ 3 _ _ _ hY
  have z4 := cell_of_row _ _ 4 _ _ _ hY
  have z5 := cell_of_row _ _ 5 _ _ _ hY
  have z6 := cell_of_row _ _ 6 _ _ _ hY
  have z7 := cell_of_row _ _ 7 _ _ _ hY
  have z8 := cell_of_row _ _ 8 _ _ _ hY
  simp only [List.getElem?_toArray, List.getElem?_cons_zero, List.getElem?_cons_succ] at z0 z1 z2 z3 z4 z5 z6 z7 z8
  clear hY HY
  simp [bodyPost, results, Tryz.results7, go_sem, z0, z1, z2, z3, z4, z5, z6, z7, z8]
  exact HQ.out ⟨.string ⟨S.title.toArray⟩, .slice x1 S.kinds.length y1, .slice x2 S.members.length y2, .slice x3 S.preds.length y3, .slice x4 S.classes.length y4, .slice x5 S.sources.length y5, .slice x6 S.rules.length y6, .slice x7 S.excepts.length y7, .slice x8 S.totals.length y8⟩ Y ⟨rfl, V1.out, V2.out, V3.out, V4.out, V5.out, V6.out, V7.out, V8.out⟩ hbe
/-- The same statute in memory of its own. -/
theorem copySt_any {w : World} {S : StatM} {st : St9} (h : SR w.heap.size w S st) (ht : st.title = str S.title) (hs : SzS S) :
    Calls Tryz.prog 7 #[st.agg] w fun e w' => ∃ st', e = .returned st'.agg ∧ st'.title = str S.title ∧ SR w'.heap.size w' S st' ∧ Below w.heap.size w w' :=
  copySt_q h ht hs _ fun st' _ h1 h2 => ⟨st', rfl, h1.title, h1.sr fun _ hg => hg.2, h2⟩
end Go.Proofs.YtfnobccminhjpaaGreat
