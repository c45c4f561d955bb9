/- The things of a statute, opened; a statute among the arguments. -/
import Derived.Test.YtbdlgglbcaoakaaGreatFirst8
namespace Go.Proofs.YtbdlgglbcaoakaaGreat
open Go.ChangeShapes Go.WideShapes Go.RowKit Go.Deep
theorem cl_s : Tryz.prog.cellsOf 9 = 1 := by kernel_rfl
theorem by_s : 1 ≤ Tryz.prog.bytesOf 9 := of_decide_eq_true (by kernel_rfl)
theorem cl_b : Tryz.prog.cellsOf 4 = 1 := by kernel_rfl
theorem cl_iMoney : Tryz.prog.cellsOf 45 = 1 := by kernel_rfl
theorem cl_iSort : Tryz.prog.cellsOf 116 = 1 := by kernel_rfl
theorem cl_iOp : Tryz.prog.cellsOf 156 = 1 := by kernel_rfl
theorem cl_iArrow : Tryz.prog.cellsOf 44 = 1 := by kernel_rfl
theorem cl_iKind : Tryz.prog.cellsOf 154 = 1 := by kernel_rfl
theorem cl_iDate : Tryz.prog.cellsOf 42 = 1 := by kernel_rfl
theorem cl_iint : Tryz.prog.cellsOf 3 = 1 := by kernel_rfl
theorem cl_iint64 : Tryz.prog.cellsOf 2 = 1 := by kernel_rfl
theorem by_iMoney : 1 ≤ Tryz.prog.bytesOf 45 := of_decide_eq_true (by kernel_rfl)
theorem cl_lS : Tryz.prog.cellsOf 22 = 1 := by kernel_rfl
theorem cl_lV : Tryz.prog.cellsOf 117 = 1 := by kernel_rfl
theorem cl_lTe : Tryz.prog.cellsOf 155 = 1 := by kernel_rfl
theorem cl_lPr : Tryz.prog.cellsOf 43 = 1 := by kernel_rfl
theorem cl_lM : Tryz.prog.cellsOf 23 = 1 := by kernel_rfl
theorem cl_lP : Tryz.prog.cellsOf 24 = 1 := by kernel_rfl
theorem cl_lC : Tryz.prog.cellsOf 25 = 1 := by kernel_rfl
theorem cl_lSr : Tryz.prog.cellsOf 26 = 1 := by kernel_rfl
theorem cl_lR : Tryz.prog.cellsOf 27 = 1 := by kernel_rfl
theorem cl_lE : Tryz.prog.cellsOf 28 = 1 := by kernel_rfl
theorem cl_lT : Tryz.prog.cellsOf 29 = 1 := by kernel_rfl
theorem by_lS : 1 ≤ Tryz.prog.bytesOf 22 := of_decide_eq_true (by kernel_rfl)
section
variable {H : Type} {enc : TypeId × Value → H} {W : World}
theorem opn_S : Opn enc W 22 (cL W.heap.size 1 cS) := opn_l Tryz.underlying22 cl_s (by decide) by_s (opn_s Tryz.underlying9)
theorem opn_V : Opn enc W 117 (cL W.heap.size 1 cI) := opn_l Tryz.underlying117 cl_iMoney (by decide) by_iMoney (opn_i Tryz.underlying45)
theorem cl_M : Tryz.prog.cellsOf 92 = 2 := by kernel_rfl
theorem by_M : 1 ≤ Tryz.prog.bytesOf 92 := of_decide_eq_true (by kernel_rfl)
set_option maxRecDepth 100000 in
theorem opn_M : Opn enc W 92 cM := by
  intro fuel cs d p h hw
  have hl := opn_len Tryz.underlying92 h
  rw [cl_M] at hl
  obtain ⟨a0, h0⟩ := opn_f Tryz.underlying92 h hw 0 rfl (opn_s Tryz.underlying9)
  obtain ⟨a1, h1⟩ := opn_f Tryz.underlying92 h hw 1 rfl (opn_s Tryz.underlying9)
  clear h hw
  match cs, hl with
  | [u0, u1], _ =>
    simp only [cl_s, List.getElem_toArray, List.getElem_cons_zero, List.getElem_cons_succ, List.drop_zero, List.drop_succ_cons, List.take_succ_cons, List.take_zero] at h0 h1
    obtain ⟨e0, m0⟩ := h0
    cases e0
    obtain ⟨e1, m1⟩ := h1
    cases e1
    exact ⟨(a0, a1), rfl, m0, m1⟩
theorem cl_E : Tryz.prog.cellsOf 41 = 2 := by kernel_rfl
theorem by_E : 1 ≤ Tryz.prog.bytesOf 41 := of_decide_eq_true (by kernel_rfl)
set_option maxRecDepth 100000 in
theorem opn_E : Opn enc W 41 cM := by
  intro fuel cs d p h hw
  have hl := opn_len Tryz.underlying41 h
  rw [cl_E] at hl
  obtain ⟨a0, h0⟩ := opn_f Tryz.underlying41 h hw 0 rfl (opn_s Tryz.underlying9)
  obtain ⟨a1, h1⟩ := opn_f Tryz.underlying41 h hw 1 rfl (opn_s Tryz.underlying9)
  clear h hw
  match cs, hl with
  | [u0, u1], _ =>
    simp only [cl_s, List.getElem_toArray, List.getElem_cons_zero, List.getElem_cons_succ, List.drop_zero, List.drop_succ_cons, List.take_succ_cons, List.take_zero] at h0 h1
    obtain ⟨e0, m0⟩ := h0
    cases e0
    obtain ⟨e1, m1⟩ := h1
    cases e1
    exact ⟨(a0, a1), rfl, m0, m1⟩
theorem cl_Sr : Tryz.prog.cellsOf 73 = 2 := by kernel_rfl
theorem by_Sr : 1 ≤ Tryz.prog.bytesOf 73 := of_decide_eq_true (by kernel_rfl)
set_option maxRecDepth 100000 in
theorem opn_Sr : Opn enc W 73 cSrc := by
  intro fuel cs d p h hw
  have hl := opn_len Tryz.underlying73 h
  rw [cl_Sr] at hl
  obtain ⟨a0, h0⟩ := opn_f Tryz.underlying73 h hw 0 rfl (opn_s Tryz.underlying9)
  obtain ⟨a1, h1⟩ := opn_f Tryz.underlying73 h hw 1 rfl (opn_i Tryz.underlying3)
  clear h hw
  match cs, hl with
  | [u0, u1], _ =>
    simp only [cl_iint, cl_s, List.getElem_toArray, List.getElem_cons_zero, List.getElem_cons_succ, List.drop_zero, List.drop_succ_cons, List.take_succ_cons, List.take_zero] at h0 h1
    obtain ⟨e0, m0⟩ := h0
    cases e0
    cases h1
    exact ⟨(a0, a1), rfl, m0⟩
theorem cl_Te : Tryz.prog.cellsOf 202 = 4 := by kernel_rfl
theorem by_Te : 1 ≤ Tryz.prog.bytesOf 202 := of_decide_eq_true (by kernel_rfl)
set_option maxRecDepth 100000 in
theorem opn_Te : Opn enc W 202 (cTerm W.heap.size) := by
  intro fuel cs d p h hw
  have hl := opn_len Tryz.underlying202 h
  rw [cl_Te] at hl
  obtain ⟨a0, h0⟩ := opn_f Tryz.underlying202 h hw 0 rfl (opn_i Tryz.underlying2)
  obtain ⟨a1, h1⟩ := opn_f Tryz.underlying202 h hw 1 rfl (opn_s Tryz.underlying9)
  obtain ⟨a2, h2⟩ := opn_f Tryz.underlying202 h hw 2 rfl opn_S
  obtain ⟨a3, h3⟩ := opn_f Tryz.underlying202 h hw 3 rfl (opn_i Tryz.underlying45)
  clear h hw
  match cs, hl with
  | [u0, u1, u2, u3], _ =>
    simp only [cl_iMoney, cl_iint64, cl_lS, cl_s, List.getElem_toArray, List.getElem_cons_zero, List.getElem_cons_succ, List.drop_zero, List.drop_succ_cons, List.take_succ_cons, List.take_zero] at h0 h1 h2 h3
    cases h0
    obtain ⟨e1, m1⟩ := h1
    cases e1
    obtain ⟨v2, e2, m2⟩ := h2
    cases e2
    cases h3
    exact ⟨⟨a0, a1, a2, a3⟩, u2, rfl, m1, m2⟩
theorem opn_lTe : Opn enc W 155 (cL W.heap.size 4 (cTerm W.heap.size)) := opn_l Tryz.underlying155 cl_Te (by decide) by_Te opn_Te
theorem cl_Li : Tryz.prog.cellsOf 47 = 5 := by kernel_rfl
theorem by_Li : 1 ≤ Tryz.prog.bytesOf 47 := of_decide_eq_true (by kernel_rfl)
set_option maxRecDepth 100000 in
theorem opn_Li : Opn enc W 47 (cLit W.heap.size) := by
  intro fuel cs d p h hw
  have hl := opn_len Tryz.underlying47 h
  rw [cl_Li] at hl
  obtain ⟨a0, h0⟩ := opn_f Tryz.underlying47 h hw 0 rfl (opn_b Tryz.underlying4)
  obtain ⟨a1, h1⟩ := opn_f Tryz.underlying47 h hw 1 rfl (opn_s Tryz.underlying9)
  obtain ⟨a2, h2⟩ := opn_f Tryz.underlying47 h hw 2 rfl opn_S
  obtain ⟨a3, h3⟩ := opn_f Tryz.underlying47 h hw 3 rfl (opn_b Tryz.underlying4)
  obtain ⟨a4, h4⟩ := opn_f Tryz.underlying47 h hw 4 rfl (opn_i Tryz.underlying45)
  clear h hw
  match cs, hl with
  | [u0, u1, u2, u3, u4], _ =>
    simp only [cl_b, cl_iMoney, cl_lS, cl_s, List.getElem_toArray, List.getElem_cons_zero, List.getElem_cons_succ, List.drop_zero, List.drop_succ_cons, List.take_succ_cons, List.take_zero] at h0 h1 h2 h3 h4
    cases h0
    obtain ⟨e1, m1⟩ := h1
    cases e1
    obtain ⟨v2, e2, m2⟩ := h2
    cases e2
    cases h3
    cases h4
    exact ⟨⟨a0, a1, a2, a3, a4⟩, u2, rfl, m1, m2⟩
theorem cl_Gu : Tryz.prog.cellsOf 158 = 3 := by kernel_rfl
theorem by_Gu : 1 ≤ Tryz.prog.bytesOf 158 := of_decide_eq_true (by kernel_rfl)
set_option maxRecDepth 100000 in
theorem opn_Gu : Opn enc W 158 (cGuard W.heap.size) := by
  intro fuel cs d p h hw
  have hl := opn_len Tryz.underlying158 h
  rw [cl_Gu] at hl
  obtain ⟨a0, h0⟩ := opn_f Tryz.underlying158 h hw 0 rfl opn_lTe
  obtain ⟨a1, h1⟩ := opn_f Tryz.underlying158 h hw 1 rfl (opn_i Tryz.underlying156)
  obtain ⟨a2, h2⟩ := opn_f Tryz.underlying158 h hw 2 rfl opn_lTe
  clear h hw
  match cs, hl with
  | [u0, u1, u2], _ =>
    simp only [cl_iOp, cl_lTe, List.getElem_toArray, List.getElem_cons_zero, List.getElem_cons_succ, List.drop_zero, List.drop_succ_cons, List.take_succ_cons, List.take_zero] at h0 h1 h2
    obtain ⟨v0, e0, m0⟩ := h0
    cases e0
    cases h1
    obtain ⟨v2, e2, m2⟩ := h2
    cases e2
    exact ⟨⟨a0, a1, a2⟩, u0, u2, rfl, m0, m2⟩
theorem cl_Pr : Tryz.prog.cellsOf 160 = 11 := by kernel_rfl
theorem by_Pr : 1 ≤ Tryz.prog.bytesOf 160 := of_decide_eq_true (by kernel_rfl)
set_option maxRecDepth 100000 in
theorem opn_Pr : Opn enc W 160 (cPrem W.heap.size) := by
  intro fuel cs d p h hw
  have hl := opn_len Tryz.underlying160 h
  rw [cl_Pr] at hl
  obtain ⟨a0, h0⟩ := opn_f Tryz.underlying160 h hw 0 rfl (opn_i Tryz.underlying154)
  obtain ⟨a1, h1⟩ := opn_f Tryz.underlying160 h hw 1 rfl opn_Li
  obtain ⟨a2, h2⟩ := opn_f Tryz.underlying160 h hw 2 rfl opn_Gu
  obtain ⟨a3, h3⟩ := opn_f Tryz.underlying160 h hw 3 rfl (opn_s Tryz.underlying9)
  obtain ⟨a4, h4⟩ := opn_f Tryz.underlying160 h hw 4 rfl (opn_s Tryz.underlying9)
  clear h hw
  match cs, hl with
  | [u0, u1, u2, u3, u4, u5, u6, u7, u8, u9, u10], _ =>
    simp only [cl_Gu, cl_Li, cl_iKind, cl_s, List.getElem_toArray, List.getElem_cons_zero, List.getElem_cons_succ, List.drop_zero, List.drop_succ_cons, List.take_succ_cons, List.take_zero] at h0 h1 h2 h3 h4
    cases h0
    obtain ⟨e3, m3⟩ := h3
    cases e3
    obtain ⟨e4, m4⟩ := h4
    cases e4
    exact ⟨⟨a0, a1, a2, a3, a4⟩, _, _, rfl, h1, h2, m3, m4⟩
theorem opn_lPr : Opn enc W 43 (cL W.heap.size 11 (cPrem W.heap.size)) := opn_l Tryz.underlying43 cl_Pr (by decide) by_Pr opn_Pr
theorem cl_R : Tryz.prog.cellsOf 49 = 11 := by kernel_rfl
theorem by_R : 1 ≤ Tryz.prog.bytesOf 49 := of_decide_eq_true (by kernel_rfl)
set_option maxRecDepth 100000 in
theorem opn_R : Opn enc W 49 (cRule W.heap.size) := by
  intro fuel cs d p h hw
  have hl := opn_len Tryz.underlying49 h
  rw [cl_R] at hl
  obtain ⟨a0, h0⟩ := opn_f Tryz.underlying49 h hw 0 rfl (opn_s Tryz.underlying9)
  obtain ⟨a1, h1⟩ := opn_f Tryz.underlying49 h hw 1 rfl (opn_s Tryz.underlying9)
  obtain ⟨a2, h2⟩ := opn_f Tryz.underlying49 h hw 2 rfl (opn_i Tryz.underlying42)
  obtain ⟨a3, h3⟩ := opn_f Tryz.underlying49 h hw 3 rfl (opn_i Tryz.underlying42)
  obtain ⟨a4, h4⟩ := opn_f Tryz.underlying49 h hw 4 rfl opn_lPr
  obtain ⟨a5, h5⟩ := opn_f Tryz.underlying49 h hw 5 rfl (opn_i Tryz.underlying44)
  obtain ⟨a6, h6⟩ := opn_f Tryz.underlying49 h hw 6 rfl opn_Li
  clear h hw
  match cs, hl with
  | [u0, u1, u2, u3, u4, u5, u6, u7, u8, u9, u10], _ =>
    simp only [cl_Li, cl_iArrow, cl_iDate, cl_lPr, cl_s, List.getElem_toArray, List.getElem_cons_zero, List.getElem_cons_succ, List.drop_zero, List.drop_succ_cons, List.take_succ_cons, List.take_zero] at h0 h1 h2 h3 h4 h5 h6
    obtain ⟨e0, m0⟩ := h0
    cases e0
    obtain ⟨e1, m1⟩ := h1
    cases e1
    cases h2
    cases h3
    obtain ⟨v4, e4, m4⟩ := h4
    cases e4
    cases h5
    exact ⟨⟨a0, a1, a2, a3, a4, a5, a6⟩, u4, _, rfl, m0, m1, m4, h6⟩
theorem cl_P : Tryz.prog.cellsOf 119 = 4 := by kernel_rfl
theorem by_P : 1 ≤ Tryz.prog.bytesOf 119 := of_decide_eq_true (by kernel_rfl)
set_option maxRecDepth 100000 in
theorem opn_P : Opn enc W 119 (cPred W.heap.size) := by
  intro fuel cs d p h hw
  have hl := opn_len Tryz.underlying119 h
  rw [cl_P] at hl
  obtain ⟨a0, h0⟩ := opn_f Tryz.underlying119 h hw 0 rfl (opn_s Tryz.underlying9)
  obtain ⟨a1, h1⟩ := opn_f Tryz.underlying119 h hw 1 rfl (opn_i Tryz.underlying116)
  obtain ⟨a2, h2⟩ := opn_f Tryz.underlying119 h hw 2 rfl opn_S
  obtain ⟨a3, h3⟩ := opn_f Tryz.underlying119 h hw 3 rfl opn_V
  clear h hw
  match cs, hl with
  | [u0, u1, u2, u3], _ =>
    simp only [cl_iSort, cl_lS, cl_lV, cl_s, List.getElem_toArray, List.getElem_cons_zero, List.getElem_cons_succ, List.drop_zero, List.drop_succ_cons, List.take_succ_cons, List.take_zero] at h0 h1 h2 h3
    obtain ⟨e0, m0⟩ := h0
    cases e0
    cases h1
    obtain ⟨v2, e2, m2⟩ := h2
    cases e2
    obtain ⟨v3, e3, m3⟩ := h3
    cases e3
    exact ⟨⟨a0, a1, a2, a3⟩, u2, u3, rfl, m0, m2, m3⟩
theorem cl_T : Tryz.prog.cellsOf 129 = 5 := by kernel_rfl
theorem by_T : 1 ≤ Tryz.prog.bytesOf 129 := of_decide_eq_true (by kernel_rfl)
set_option maxRecDepth 100000 in
theorem opn_T : Opn enc W 129 (cTotal W.heap.size) := by
  intro fuel cs d p h hw
  have hl := opn_len Tryz.underlying129 h
  rw [cl_T] at hl
  obtain ⟨a0, h0⟩ := opn_f Tryz.underlying129 h hw 0 rfl (opn_s Tryz.underlying9)
  obtain ⟨a1, h1⟩ := opn_f Tryz.underlying129 h hw 1 rfl (opn_s Tryz.underlying9)
  obtain ⟨a2, h2⟩ := opn_f Tryz.underlying129 h hw 2 rfl opn_S
  obtain ⟨a3, h3⟩ := opn_f Tryz.underlying129 h hw 3 rfl (opn_b Tryz.underlying4)
  obtain ⟨a4, h4⟩ := opn_f Tryz.underlying129 h hw 4 rfl (opn_i Tryz.underlying45)
  clear h hw
  match cs, hl with
  | [u0, u1, u2, u3, u4], _ =>
    simp only [cl_b, cl_iMoney, cl_lS, cl_s, List.getElem_toArray, List.getElem_cons_zero, List.getElem_cons_succ, List.drop_zero, List.drop_succ_cons, List.take_succ_cons, List.take_zero] at h0 h1 h2 h3 h4
    obtain ⟨e0, m0⟩ := h0
    cases e0
    obtain ⟨e1, m1⟩ := h1
    cases e1
    obtain ⟨v2, e2, m2⟩ := h2
    cases e2
    cases h3
    cases h4
    exact ⟨⟨a0, a1, a2, a3, a4⟩, u2, rfl, m0, m1, m2⟩
theorem opn_C : Opn enc W 22 (cClass W.heap.size) := fun f cs d p h hw => opn_S f cs d p h hw
theorem opn_lM : Opn enc W 23 (cL W.heap.size 2 cM) := opn_l Tryz.underlying23 cl_M (by decide) by_M opn_M
theorem opn_lE : Opn enc W 28 (cL W.heap.size 2 cM) := opn_l Tryz.underlying28 cl_E (by decide) by_E opn_E
theorem opn_lSr : Opn enc W 26 (cL W.heap.size 2 cSrc) := opn_l Tryz.underlying26 cl_Sr (by decide) by_Sr opn_Sr
theorem opn_lR : Opn enc W 27 (cL W.heap.size 11 (cRule W.heap.size)) := opn_l Tryz.underlying27 cl_R (by decide) by_R opn_R
theorem opn_lP : Opn enc W 24 (cL W.heap.size 4 (cPred W.heap.size)) := opn_l Tryz.underlying24 cl_P (by decide) by_P opn_P
theorem opn_lT : Opn enc W 29 (cL W.heap.size 5 (cTotal W.heap.size)) := opn_l Tryz.underlying29 cl_T (by decide) by_T opn_T
theorem opn_lC : Opn enc W 25 (cL W.heap.size 1 (cClass W.heap.size)) := opn_l Tryz.underlying25 cl_lS (by decide) by_lS opn_C
theorem cl_St : Tryz.prog.cellsOf 31 = 9 := by kernel_rfl
set_option maxRecDepth 100000 in
theorem arg_statute {base : Nat} {ts : List TypeId} {ds : List (DataW H)} {j : Nat} {v : Value} {d : DataW H} {p : List MemPlace} (hv : Value.okWide Tryz.prog W .any base 31 v) (h : DataW.Trod enc Tryz.prog W 0 (fun _ => true) true 31 v d p) (hsz : (DataW.weightsEach Tryz.prog ts ds).all (· ≤ reachBytes) = true) (ht : ts[j]? = some 31) (hd : ds[j]? = some d) : ∃ S st, v = St9.agg st ∧ SR W.heap.size W S st := by
  obtain ⟨cs, rfl, hl⟩ := okWide_struct Tryz.underlying31 hv
  obtain ⟨fuel, h⟩ := h
  have hw : ∀ n ∈ d.weights Tryz.prog 31, n ≤ reachBytes := fun n hn => of_decide_eq_true (List.all_eq_true.1 hsz _ (DataW.weights_mem_each ht hd n hn))
  rw [cl_St] at hl
  obtain ⟨a0, h0⟩ := opn_f Tryz.underlying31 h hw 0 rfl (opn_s Tryz.underlying9)
  obtain ⟨a1, h1⟩ := opn_f Tryz.underlying31 h hw 1 rfl opn_S
  obtain ⟨a2, h2⟩ := opn_f Tryz.underlying31 h hw 2 rfl opn_lM
  obtain ⟨a3, h3⟩ := opn_f Tryz.underlying31 h hw 3 rfl opn_lP
  obtain ⟨a4, h4⟩ := opn_f Tryz.underlying31 h hw 4 rfl opn_lC
  obtain ⟨a5, h5⟩ := opn_f Tryz.underlying31 h hw 5 rfl opn_lSr
  obtain ⟨a6, h6⟩ := opn_f Tryz.underlying31 h hw 6 rfl opn_lR
  obtain ⟨a7, h7⟩ := opn_f Tryz.underlying31 h hw 7 rfl opn_lE
  obtain ⟨a8, h8⟩ := opn_f Tryz.underlying31 h hw 8 rfl opn_lT
  clear h hw hsz
  obtain ⟨cs⟩ := cs
  match cs, hl with
  | [u0, u1, u2, u3, u4, u5, u6, u7, u8], _ =>
    simp only [Value.cells, cl_lC, cl_lE, cl_lM, cl_lP, cl_lR, cl_lS, cl_lSr, cl_lT, cl_s, List.getElem_toArray, List.getElem_cons_zero, List.getElem_cons_succ, List.drop_zero, List.drop_succ_cons, List.take_succ_cons, List.take_zero] at h0 h1 h2 h3 h4 h5 h6 h7 h8
    obtain ⟨e0, m0⟩ := h0
    cases e0
    obtain ⟨v1, e1, m1⟩ := h1
    cases e1
    obtain ⟨v2, e2, m2⟩ := h2
    cases e2
    obtain ⟨v3, e3, m3⟩ := h3
    cases e3
    obtain ⟨v4, e4, m4⟩ := h4
    cases e4
    obtain ⟨v5, e5, m5⟩ := h5
    cases e5
    obtain ⟨v6, e6, m6⟩ := h6
    cases e6
    obtain ⟨v7, e7, m7⟩ := h7
    cases e7
    obtain ⟨v8, e8, m8⟩ := h8
    cases e8
    exact ⟨⟨a0, a1, a2, a3, a4, a5, a6, a7, a8⟩, ⟨str a0, u1, u2, u3, u4, u5, u6, u7, u8⟩, rfl, ⟨_, rfl⟩, m1, m2, m3, m4, m5, m6, m7, m8⟩
end
end Go.Proofs.YtbdlgglbcaoakaaGreat
