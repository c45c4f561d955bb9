/- A statute among the arguments, opened, with the sizes of its lists. By program (tools/gen8/openz9.py). -/
import Derived.Test.YtfnobccminhjpaaGreatOpen9
import Derived.Test.YtfnobccminhjpaaGreatItems8
namespace Go.Proofs.YtfnobccminhjpaaGreat
open Go.ChangeShapes Go.WideShapes Go.RowKit Go.Deep
section
variable {H : Type} {enc : TypeId × Value → H} {W : World}
theorem opz_n {b : Nat} {t e : TypeId} (ht : Tryz.prog.underlying t = some (.slice e)) (hb : b ≤ Tryz.prog.bytesOf e) {fuel : Nat} {cs : List Value} {d : DataW H} {p : List MemPlace} (h : DataW.trod enc Tryz.prog W 0 (fun _ => true) true fuel t cs = some (d, p)) (hw : ∀ n ∈ d.weights Tryz.prog t, n ≤ reachBytes) : ∃ n a c, cs = [.slice a n c] ∧ n * b ≤ 140737488351232 := by
  rcases open_slice ht h with ⟨rfl, _⟩ | ⟨x, len, cap, m, n, D, Pl, rfl, _, hl, hm, hmm, hx, hel⟩
  · exact ⟨0, _, _, rfl, by omega⟩
  · simp only [Prod.mk.injEq] at hx
    obtain ⟨rfl, _⟩ := hx
    have hm2 : m = cap := by simpa using hmm
    simp only [DataW.weights, ht, List.mem_cons, List.mem_append] at hw
    have hs := hw _ (.inl rfl)
    simp only [List.length_map, List.length_range, reachBytes] at hs
    have hlen : len * b ≤ (len + (m - len)) * Tryz.prog.bytesOf e := Nat.mul_le_mul (by omega) hb
    exact ⟨len, _, _, rfl, by omega⟩
theorem opz_l {α : Type} {t e : TypeId} {b k : Nat} {c : World → α → List Value → Prop} {P : α → Prop} (ht : Tryz.prog.underlying t = some (.slice e)) (hk : Tryz.prog.cellsOf e = k) (hk1 : 0 < k) (hb1 : 1 ≤ Tryz.prog.bytesOf e) (hb : b ≤ Tryz.prog.bytesOf e) (ho : Opn enc W e (fun w a xs => c w a xs ∧ P a)) : Opn enc W t (fun w l xs => cL W.heap.size k c w l xs ∧ Szs b P l) := by
  intro fuel cs d p h hw
  obtain ⟨l, v, e1, hr⟩ := opn_l ht hk hk1 hb1 ho fuel cs d p h hw
  obtain ⟨n, a, c', e2, hn⟩ := opz_n ht hb h hw
  refine ⟨l, ⟨v, e1, RR.up hr (Nat.le_refl _) fun _ _ h => h.1⟩, ?_, fun x hx => ?_⟩
  · obtain ⟨a2, c2, e3, _⟩ := hr
    rw [e1, e3] at e2
    simp only [List.cons.injEq, Value.slice.injEq, and_true] at e2
    obtain ⟨_, e2, _⟩ := e2
    rw [e2]
    exact hn
  · obtain ⟨i, hi⟩ := List.mem_iff_getElem?.1 hx
    obtain ⟨_, _, _, _, _, hr⟩ := hr
    obtain ⟨_, _, _, _, _, _, _, hp⟩ := hr i x hi
    exact hp.2
theorem opz_t {α : Type} {t : TypeId} {c : World → α → List Value → Prop} (ho : Opn enc W t c) : Opn enc W t (fun w a xs => c w a xs ∧ True) := fun f cs d p h hw => by
  obtain ⟨a, ha⟩ := ho f cs d p h hw
  exact ⟨a, ha, trivial⟩
theorem bw_s : 16 ≤ Tryz.prog.bytesOf 9 := of_decide_eq_true (by kernel_rfl)
theorem bw_iMoney : 8 ≤ Tryz.prog.bytesOf 57 := of_decide_eq_true (by kernel_rfl)
theorem bw_lS : 24 ≤ Tryz.prog.bytesOf 22 := of_decide_eq_true (by kernel_rfl)
theorem bw_M : 32 ≤ Tryz.prog.bytesOf 73 := of_decide_eq_true (by kernel_rfl)
theorem bw_E : 32 ≤ Tryz.prog.bytesOf 160 := of_decide_eq_true (by kernel_rfl)
theorem bw_Sr : 24 ≤ Tryz.prog.bytesOf 138 := of_decide_eq_true (by kernel_rfl)
theorem bw_Te : 56 ≤ Tryz.prog.bytesOf 156 := of_decide_eq_true (by kernel_rfl)
theorem bw_Pr : 160 ≤ Tryz.prog.bytesOf 123 := of_decide_eq_true (by kernel_rfl)
theorem bw_R : 144 ≤ Tryz.prog.bytesOf 97 := of_decide_eq_true (by kernel_rfl)
theorem bw_P : 72 ≤ Tryz.prog.bytesOf 132 := of_decide_eq_true (by kernel_rfl)
theorem bw_T : 72 ≤ Tryz.prog.bytesOf 142 := of_decide_eq_true (by kernel_rfl)
theorem opz_S : Opn enc W 22 (fun w l xs => cL W.heap.size 1 cS w l xs ∧ Szs 16 (fun _ => True) l) := opz_l Tryz.underlying22 cl_s (by decide) by_s bw_s (opz_t (opn_s Tryz.underlying9))
theorem opz_V : Opn enc W 130 (fun w l xs => cL W.heap.size 1 cI w l xs ∧ Szs 8 (fun _ => True) l) := opz_l Tryz.underlying130 cl_iMoney (by decide) by_iMoney bw_iMoney (opz_t (opn_i Tryz.underlying57))
set_option maxRecDepth 100000 in
theorem opz_Te : Opn enc W 156 (fun w a xs => cTerm W.heap.size w a xs ∧ szT a) := by
  intro fuel cs d p h hw
  have hl := opn_len Tryz.underlying156 h
  rw [cl_Te] at hl
  obtain ⟨a0, h0⟩ := opn_f Tryz.underlying156 h hw 0 rfl (opn_i Tryz.underlying2)
  obtain ⟨a1, h1⟩ := opn_f Tryz.underlying156 h hw 1 rfl (opn_s Tryz.underlying9)
  obtain ⟨a2, h2⟩ := opn_f Tryz.underlying156 h hw 2 rfl opz_S
  obtain ⟨a3, h3⟩ := opn_f Tryz.underlying156 h hw 3 rfl (opn_i Tryz.underlying57)
  clear h hw
  match cs, hl with
  | [u0, u1, u2, u3], _ =>
    simp only [cl_iMoney, cl_iint64, cl_lS, cl_s, List.getElem_toArray, List.getElem_cons_zero, List.getElem_cons_succ, List.drop_zero, List.drop_succ_cons, List.take_succ_cons, List.take_zero] at h0 h1 h2 h3
    cases h0
    obtain ⟨e1, m1⟩ := h1
    cases e1
    obtain ⟨⟨v2, e2, m2⟩, s2⟩ := h2
    cases e2
    cases h3
    exact ⟨⟨a0, a1, a2, a3⟩, ⟨u2, rfl, m1, m2⟩, s2⟩
theorem opz_lTe : Opn enc W 118 (fun w l xs => cL W.heap.size 4 (cTerm W.heap.size) w l xs ∧ Szs 56 szT l) := opz_l Tryz.underlying118 cl_Te (by decide) by_Te bw_Te opz_Te
set_option maxRecDepth 100000 in
theorem opz_Li : Opn enc W 59 (fun w a xs => cLit W.heap.size w a xs ∧ szL a) := by
  intro fuel cs d p h hw
  have hl := opn_len Tryz.underlying59 h
  rw [cl_Li] at hl
  obtain ⟨a0, h0⟩ := opn_f Tryz.underlying59 h hw 0 rfl (opn_b Tryz.underlying4)
  obtain ⟨a1, h1⟩ := opn_f Tryz.underlying59 h hw 1 rfl (opn_s Tryz.underlying9)
  obtain ⟨a2, h2⟩ := opn_f Tryz.underlying59 h hw 2 rfl opz_S
  obtain ⟨a3, h3⟩ := opn_f Tryz.underlying59 h hw 3 rfl (opn_b Tryz.underlying4)
  obtain ⟨a4, h4⟩ := opn_f Tryz.underlying59 h hw 4 rfl (opn_i Tryz.underlying57)
  clear h hw
  match cs, hl with
  | [u0, u1, u2, u3, u4], _ =>
    simp only [cl_b, cl_iMoney, cl_lS, cl_s, List.getElem_toArray, List.getElem_cons_zero, List.getElem_cons_succ, List.drop_zero, List.drop_succ_cons, List.take_succ_cons, List.take_zero] at h0 h1 h2 h3 h4
    cases h0
    obtain ⟨e1, m1⟩ := h1
    cases e1
    obtain ⟨⟨v2, e2, m2⟩, s2⟩ := h2
    cases e2
    cases h3
    cases h4
    exact ⟨⟨a0, a1, a2, a3, a4⟩, ⟨u2, rfl, m1, m2⟩, s2⟩
set_option maxRecDepth 100000 in
theorem opz_Gu : Opn enc W 121 (fun w a xs => cGuard W.heap.size w a xs ∧ szG a) := by
  intro fuel cs d p h hw
  have hl := opn_len Tryz.underlying121 h
  rw [cl_Gu] at hl
  obtain ⟨a0, h0⟩ := opn_f Tryz.underlying121 h hw 0 rfl opz_lTe
  obtain ⟨a1, h1⟩ := opn_f Tryz.underlying121 h hw 1 rfl (opn_i Tryz.underlying119)
  obtain ⟨a2, h2⟩ := opn_f Tryz.underlying121 h hw 2 rfl opz_lTe
  clear h hw
  match cs, hl with
  | [u0, u1, u2], _ =>
    simp only [cl_iOp, cl_lTe, List.getElem_toArray, List.getElem_cons_zero, List.getElem_cons_succ, List.drop_zero, List.drop_succ_cons, List.take_succ_cons, List.take_zero] at h0 h1 h2
    obtain ⟨⟨v0, e0, m0⟩, s0⟩ := h0
    cases e0
    cases h1
    obtain ⟨⟨v2, e2, m2⟩, s2⟩ := h2
    cases e2
    exact ⟨⟨a0, a1, a2⟩, ⟨u0, u2, rfl, m0, m2⟩, s0, s2⟩
set_option maxRecDepth 100000 in
theorem opz_Pr : Opn enc W 123 (fun w a xs => cPrem W.heap.size w a xs ∧ szPr a) := by
  intro fuel cs d p h hw
  have hl := opn_len Tryz.underlying123 h
  rw [cl_Pr] at hl
  obtain ⟨a0, h0⟩ := opn_f Tryz.underlying123 h hw 0 rfl (opn_i Tryz.underlying117)
  obtain ⟨a1, h1⟩ := opn_f Tryz.underlying123 h hw 1 rfl opz_Li
  obtain ⟨a2, h2⟩ := opn_f Tryz.underlying123 h hw 2 rfl opz_Gu
  obtain ⟨a3, h3⟩ := opn_f Tryz.underlying123 h hw 3 rfl (opn_s Tryz.underlying9)
  obtain ⟨a4, h4⟩ := opn_f Tryz.underlying123 h hw 4 rfl (opn_s Tryz.underlying9)
  clear h hw
  match cs, hl with
  | [u0, u1, u2, u3, u4, u5, u6, u7, u8, u9, u10], _ =>
    simp only [cl_Gu, cl_Li, cl_iKind, cl_s, List.getElem_toArray, List.getElem_cons_zero, List.getElem_cons_succ, List.drop_zero, List.drop_succ_cons, List.take_succ_cons, List.take_zero] at h0 h1 h2 h3 h4
    cases h0
    obtain ⟨h1, s1⟩ := h1
    obtain ⟨h2, s2⟩ := h2
    obtain ⟨e3, m3⟩ := h3
    cases e3
    obtain ⟨e4, m4⟩ := h4
    cases e4
    exact ⟨⟨a0, a1, a2, a3, a4⟩, ⟨_, _, rfl, h1, h2, m3, m4⟩, s1, s2⟩
theorem opz_lPr : Opn enc W 94 (fun w l xs => cL W.heap.size 11 (cPrem W.heap.size) w l xs ∧ Szs 160 szPr l) := opz_l Tryz.underlying94 cl_Pr (by decide) by_Pr bw_Pr opz_Pr
set_option maxRecDepth 100000 in
theorem opz_R : Opn enc W 97 (fun w a xs => cRule W.heap.size w a xs ∧ szR a) := by
  intro fuel cs d p h hw
  have hl := opn_len Tryz.underlying97 h
  rw [cl_R] at hl
  obtain ⟨a0, h0⟩ := opn_f Tryz.underlying97 h hw 0 rfl (opn_s Tryz.underlying9)
  obtain ⟨a1, h1⟩ := opn_f Tryz.underlying97 h hw 1 rfl (opn_s Tryz.underlying9)
  obtain ⟨a2, h2⟩ := opn_f Tryz.underlying97 h hw 2 rfl (opn_i Tryz.underlying93)
  obtain ⟨a3, h3⟩ := opn_f Tryz.underlying97 h hw 3 rfl (opn_i Tryz.underlying93)
  obtain ⟨a4, h4⟩ := opn_f Tryz.underlying97 h hw 4 rfl opz_lPr
  obtain ⟨a5, h5⟩ := opn_f Tryz.underlying97 h hw 5 rfl (opn_i Tryz.underlying95)
  obtain ⟨a6, h6⟩ := opn_f Tryz.underlying97 h hw 6 rfl opz_Li
  clear h hw
  match cs, hl with
  | [u0, u1, u2, u3, u4, u5, u6, u7, u8, u9, u10], _ =>
    simp only [cl_Li, cl_iArrow, cl_iDate, cl_lPr, cl_s, List.getElem_toArray, List.getElem_cons_zero, List.getElem_cons_succ, List.drop_zero, List.drop_succ_cons, List.take_succ_cons, List.take_zero] at h0 h1 h2 h3 h4 h5 h6
    obtain ⟨e0, m0⟩ := h0
    cases e0
    obtain ⟨e1, m1⟩ := h1
    cases e1
    cases h2
    cases h3
    obtain ⟨⟨v4, e4, m4⟩, s4⟩ := h4
    cases e4
    cases h5
    obtain ⟨h6, s6⟩ := h6
    exact ⟨⟨a0, a1, a2, a3, a4, a5, a6⟩, ⟨u4, _, rfl, m0, m1, m4, h6⟩, s4, s6⟩
set_option maxRecDepth 100000 in
theorem opz_P : Opn enc W 132 (fun w a xs => cPred W.heap.size w a xs ∧ szP a) := by
  intro fuel cs d p h hw
  have hl := opn_len Tryz.underlying132 h
  rw [cl_P] at hl
  obtain ⟨a0, h0⟩ := opn_f Tryz.underlying132 h hw 0 rfl (opn_s Tryz.underlying9)
  obtain ⟨a1, h1⟩ := opn_f Tryz.underlying132 h hw 1 rfl (opn_i Tryz.underlying53)
  obtain ⟨a2, h2⟩ := opn_f Tryz.underlying132 h hw 2 rfl opz_S
  obtain ⟨a3, h3⟩ := opn_f Tryz.underlying132 h hw 3 rfl opz_V
  clear h hw
  match cs, hl with
  | [u0, u1, u2, u3], _ =>
    simp only [cl_iSort, cl_lS, cl_lV, cl_s, List.getElem_toArray, List.getElem_cons_zero, List.getElem_cons_succ, List.drop_zero, List.drop_succ_cons, List.take_succ_cons, List.take_zero] at h0 h1 h2 h3
    obtain ⟨e0, m0⟩ := h0
    cases e0
    cases h1
    obtain ⟨⟨v2, e2, m2⟩, s2⟩ := h2
    cases e2
    obtain ⟨⟨v3, e3, m3⟩, s3⟩ := h3
    cases e3
    exact ⟨⟨a0, a1, a2, a3⟩, ⟨u2, u3, rfl, m0, m2, m3⟩, s2, s3⟩
set_option maxRecDepth 100000 in
theorem opz_T : Opn enc W 142 (fun w a xs => cTotal W.heap.size w a xs ∧ szTo a) := by
  intro fuel cs d p h hw
  have hl := opn_len Tryz.underlying142 h
  rw [cl_T] at hl
  obtain ⟨a0, h0⟩ := opn_f Tryz.underlying142 h hw 0 rfl (opn_s Tryz.underlying9)
  obtain ⟨a1, h1⟩ := opn_f Tryz.underlying142 h hw 1 rfl (opn_s Tryz.underlying9)
  obtain ⟨a2, h2⟩ := opn_f Tryz.underlying142 h hw 2 rfl opz_S
  obtain ⟨a3, h3⟩ := opn_f Tryz.underlying142 h hw 3 rfl (opn_b Tryz.underlying4)
  obtain ⟨a4, h4⟩ := opn_f Tryz.underlying142 h hw 4 rfl (opn_i Tryz.underlying57)
  clear h hw
  match cs, hl with
  | [u0, u1, u2, u3, u4], _ =>
    simp only [cl_b, cl_iMoney, cl_lS, cl_s, List.getElem_toArray, List.getElem_cons_zero, List.getElem_cons_succ, List.drop_zero, List.drop_succ_cons, List.take_succ_cons, List.take_zero] at h0 h1 h2 h3 h4
    obtain ⟨e0, m0⟩ := h0
    cases e0
    obtain ⟨e1, m1⟩ := h1
    cases e1
    obtain ⟨⟨v2, e2, m2⟩, s2⟩ := h2
    cases e2
    cases h3
    cases h4
    exact ⟨⟨a0, a1, a2, a3, a4⟩, ⟨u2, rfl, m0, m1, m2⟩, s2⟩
theorem opz_C : Opn enc W 22 (fun w a xs => cClass W.heap.size w a xs ∧ szC a) := fun f cs d p h hw => opz_S f cs d p h hw
theorem opz_lM : Opn enc W 23 (fun w l xs => cL W.heap.size 2 cM w l xs ∧ Szs 32 (fun _ => True) l) := opz_l Tryz.underlying23 cl_M (by decide) by_M bw_M (opz_t opn_M)
theorem opz_lE : Opn enc W 28 (fun w l xs => cL W.heap.size 2 cM w l xs ∧ Szs 32 (fun _ => True) l) := opz_l Tryz.underlying28 cl_E (by decide) by_E bw_E (opz_t opn_E)
theorem opz_lSr : Opn enc W 26 (fun w l xs => cL W.heap.size 2 cSrc w l xs ∧ Szs 24 (fun _ => True) l) := opz_l Tryz.underlying26 cl_Sr (by decide) by_Sr bw_Sr (opz_t opn_Sr)
theorem opz_lR : Opn enc W 27 (fun w l xs => cL W.heap.size 11 (cRule W.heap.size) w l xs ∧ Szs 144 szR l) := opz_l Tryz.underlying27 cl_R (by decide) by_R bw_R opz_R
theorem opz_lP : Opn enc W 24 (fun w l xs => cL W.heap.size 4 (cPred W.heap.size) w l xs ∧ Szs 72 szP l) := opz_l Tryz.underlying24 cl_P (by decide) by_P bw_P opz_P
theorem opz_lT : Opn enc W 29 (fun w l xs => cL W.heap.size 5 (cTotal W.heap.size) w l xs ∧ Szs 72 szTo l) := opz_l Tryz.underlying29 cl_T (by decide) by_T bw_T opz_T
theorem opz_lC : Opn enc W 25 (fun w l xs => cL W.heap.size 1 (cClass W.heap.size) w l xs ∧ Szs 24 szC l) := opz_l Tryz.underlying25 cl_lS (by decide) by_lS bw_lS opz_C
set_option maxRecDepth 100000 in
theorem arg_statz {base : Nat} {ts : List TypeId} {ds : List (DataW H)} {j : Nat} {v : Value} {d : DataW H} {p : List MemPlace} (hv : Value.okWide Tryz.prog W .any base 31 v) (h : DataW.Trod enc Tryz.prog W 0 (fun _ => true) true 31 v d p) (hsz : (DataW.weightsEach Tryz.prog ts ds).all (· ≤ reachBytes) = true) (ht : ts[j]? = some 31) (hd : ds[j]? = some d) : ∃ S st, v = St9.agg st ∧ SR W.heap.size W S st ∧ SzS S ∧ st.title = str S.title := by
  obtain ⟨cs, rfl, hl⟩ := okWide_struct Tryz.underlying31 hv
  obtain ⟨fuel, h⟩ := h
  have hw : ∀ n ∈ d.weights Tryz.prog 31, n ≤ reachBytes := fun n hn => of_decide_eq_true (List.all_eq_true.1 hsz _ (DataW.weights_mem_each ht hd n hn))
  rw [cl_St] at hl
  obtain ⟨a0, h0⟩ := opn_f Tryz.underlying31 h hw 0 rfl (opn_s Tryz.underlying9)
  obtain ⟨a1, h1⟩ := opn_f Tryz.underlying31 h hw 1 rfl opz_S
  obtain ⟨a2, h2⟩ := opn_f Tryz.underlying31 h hw 2 rfl opz_lM
  obtain ⟨a3, h3⟩ := opn_f Tryz.underlying31 h hw 3 rfl opz_lP
  obtain ⟨a4, h4⟩ := opn_f Tryz.underlying31 h hw 4 rfl opz_lC
  obtain ⟨a5, h5⟩ := opn_f Tryz.underlying31 h hw 5 rfl opz_lSr
  obtain ⟨a6, h6⟩ := opn_f Tryz.underlying31 h hw 6 rfl opz_lR
  obtain ⟨a7, h7⟩ := opn_f Tryz.underlying31 h hw 7 rfl opz_lE
  obtain ⟨a8, h8⟩ := opn_f Tryz.underlying31 h hw 8 rfl opz_lT
  clear h hw hsz
  obtain ⟨cs⟩ := cs
  match cs, hl with
  | [u0, u1, u2, u3, u4, u5, u6, u7, u8], _ =>
    simp only [Value.cells, cl_lC, cl_lE, cl_lM, cl_lP, cl_lR, cl_lS, cl_lSr, cl_lT, cl_s, List.getElem_toArray, List.getElem_cons_zero, List.getElem_cons_succ, List.drop_zero, List.drop_succ_cons, List.take_succ_cons, List.take_zero] at h0 h1 h2 h3 h4 h5 h6 h7 h8
    obtain ⟨e0, m0⟩ := h0
    cases e0
    obtain ⟨⟨v1, e1, m1⟩, s1⟩ := h1
    cases e1
    obtain ⟨⟨v2, e2, m2⟩, s2⟩ := h2
    cases e2
    obtain ⟨⟨v3, e3, m3⟩, s3⟩ := h3
    cases e3
    obtain ⟨⟨v4, e4, m4⟩, s4⟩ := h4
    cases e4
    obtain ⟨⟨v5, e5, m5⟩, s5⟩ := h5
    cases e5
    obtain ⟨⟨v6, e6, m6⟩, s6⟩ := h6
    cases e6
    obtain ⟨⟨v7, e7, m7⟩, s7⟩ := h7
    cases e7
    obtain ⟨⟨v8, e8, m8⟩, s8⟩ := h8
    cases e8
    exact ⟨⟨a0, a1, a2, a3, a4, a5, a6, a7, a8⟩, ⟨str a0, u1, u2, u3, u4, u5, u6, u7, u8⟩, rfl, ⟨⟨_, rfl⟩, m1, m2, m3, m4, m5, m6, m7, m8⟩, ⟨s1, s2, s3, s4, s5, s6, s7, s8⟩, rfl⟩
set_option maxRecDepth 100000 in
/-- A literal's text among the arguments. -/
theorem arg_litz {base : Nat} {ts : List TypeId} {ds : List (DataW H)} {j : Nat} {v : Value} {d : DataW H} {p : List MemPlace} (hv : Value.okWide Tryz.prog W .any base 59 v) (h : DataW.Trod enc Tryz.prog W 0 (fun _ => true) true 59 v d p) (hsz : (DataW.weightsEach Tryz.prog ts ds).all (· ≤ reachBytes) = true) (ht : ts[j]? = some 59) (hd : ds[j]? = some d) : ∃ (l : LitM) (aa : Option Addr) (ac : Nat), v = .agg #[.bool l.neg, .string ⟨l.pred.toArray⟩, .slice aa l.args.length ac, .bool l.hasValue, .int .i64 l.value] ∧ l.pred.length ≤ maxLen ∧ Strs W.heap.size W l.args (.slice aa l.args.length ac) ∧ szL l := by
  obtain ⟨cs, rfl, hl⟩ := okWide_struct Tryz.underlying59 hv
  obtain ⟨fuel, h⟩ := h
  have hw : ∀ n ∈ d.weights Tryz.prog 59, n ≤ reachBytes := fun n hn => of_decide_eq_true (List.all_eq_true.1 hsz _ (DataW.weights_mem_each ht hd n hn))
  obtain ⟨l, ⟨av, hcs, hp, hs⟩, hz⟩ := opz_Li fuel _ d p h hw
  obtain ⟨aa, ac, rfl, _⟩ := hs.form
  refine ⟨l, aa, ac, ?_, hp, hs, hz⟩
  have e : cs.toList = [.bool l.neg, str l.pred, .slice aa l.args.length ac, .bool l.hasValue, .int .i64 l.value] := hcs
  obtain ⟨cs⟩ := cs
  simp only at e
  subst e
  rfl
end
end Go.Proofs.YtfnobccminhjpaaGreat
/- Check. -/
namespace Go.Proofs.YtfnobccminhjpaaGreat
open Go.RowKit Go.Shelf Go.Maps Go.WideMaps
section
variable {S : StatM} {st : St9} {w w' : World}
set_option maxRecDepth 100000 in
set_option maxHeartbeats 3200000 in
theorem check_any (h : SR w.heap.size w S st) : Calls Tryz.prog 8 #[st.agg] w fun e w' => e = .returned (.tuple #[.int .i64 (checkM S).1, .int .i64 (checkM S).2]) ∧ Below w.heap.size w w' := by
  obtain ⟨tt, ht⟩ := h.title
  obtain ⟨a1, b1, f1, _, l1⟩ := h.kinds.form
  obtain ⟨a2, b2, f2, _, l2⟩ := h.members.form
  obtain ⟨a3, b3, f3, _, l3⟩ := h.preds.form
  obtain ⟨a4, b4, f4, _, l4⟩ := h.classes.form
  obtain ⟨a5, b5, f5, _, l5⟩ := h.sources.form
  obtain ⟨a6, b6, f6, _, l6⟩ := h.rules.form
  obtain ⟨a7, b7, f7, _, l7⟩ := h.excepts.form
  obtain ⟨a8, b8, f8, _, l8⟩ := h.totals.form
  obtain ⟨s0, s1, s2, s3, s4, s5, s6, s7, s8⟩ := st
  simp only at ht f1 f2 f3 f4 f5 f6 f7 f8
  subst ht f1 f2 f3 f4 f5 f6 f7 f8
  have hmf : ∀ (fn : Fn) (first cap : Array Value) (w : World), (Instr.makeFunc fn first cap).run Tryz.prog w = .ok (.func fn first cap) w := fun _ _ _ _ => rfl
  have hA : Below w.heap.size w (w.alloc (.cells #[.string tt, .slice a1 S.kinds.length b1, .slice a2 S.members.length b2, .slice a3 S.preds.length b3, .slice a4 S.classes.length b4, .slice a5 S.sources.length b5, .slice a6 S.rules.length b6, .slice a7 S.excepts.length b7, .slice a8 S.totals.length b8] 31)) := (Below.refl _ w).alloc (Nat.le_refl _) _
  have CF := hide (first_any (SR.mono (N' := (w.alloc (.cells #[.string tt, .slice a1 S.kinds.length b1, .slice a2 S.members.length b2, .slice a3 S.preds.length b3, .slice a4 S.classes.length b4, .slice a5 S.sources.length b5, .slice a6 S.rules.length b6, .slice a7 S.excepts.length b7, .slice a8 S.totals.length b8] 31)).heap.size) hA.size (h.keep fun g hg => hA.block g hg)))
  have HA := hide hA
  unfold St9.agg at *
  simp only at *
  generalize (checkM S).1 = c0 at *
  generalize (checkM S).2 = n0 at *
  clear h hA
  go_enter Tryz.func8, Tryz.ntmps8
  go_wp2_with fail
  refine CF.out.mono ?_
  rintro _ w1 ⟨rfl, hb⟩
  have HB := hide (HA.out.trans (hb.mono HA.out.size))
  have HB2 := hide (HB.out.trans (((Below.refl _ w1).alloc (Nat.le_refl _) (.cells #[.int .i64 c0, .int .i64 n0] 85)).mono HB.out.size))
  clear hb CF HA
  go_wp2_with fail
  go_region
  go_wp2_with fail
  simp [bodyPost, results, Tryz.results8, go_sem]
  exact HB2.out.trans ((Lk.of (w := w1.alloc (.cells #[.int .i64 c0, .int .i64 n0] 85))).below.mono HB2.out.size)
end
end Go.Proofs.YtfnobccminhjpaaGreat
/- No error is 0; a right statute's items. -/
namespace Go.Proofs.YtfnobccminhjpaaGreat
def Nz {α : Type} (x : Er α) : Prop := ∀ c, x = .error c → c ≠ 0
theorem Nz.ok {α : Type} (a : α) : Nz (.ok a : Er α) := fun _ h => by cases h
theorem Nz.want {b : Bool} {c : Int} (hc : c ≠ 0) : Nz (wantM b c) := fun c' h => by rw [want_err1 h]; exact hc
theorem Nz.bind {α β : Type} {x : Er α} {f : α → Er β} (h : Nz x) (k : ∀ a, Nz (f a)) : Nz (x >>= f) := by
  intro c hc
  cases x with
  | ok a => exact k a c hc
  | error d => injection hc with e; subst e; exact h _ rfl
theorem Nz.ite {α : Type} {p : Prop} [Decidable p] {x y : Er α} (h : Nz x) (k : Nz y) : Nz (if p then x else y) := by split <;> assumption
theorem Nz.err {α : Type} {c : Int} (h : c ≠ 0) : Nz (.error c : Er α) := fun _ e => by injection e with e; subst e; exact h
theorem nz_find (l : List Bytes) (s : Bytes) {c : Int} (hc : c ≠ 0) : Nz (findM l s c) := by unfold findM; exact Nz.bind (Nz.want hc) fun _ => Nz.ok _
theorem nz_called (l : List Bytes) (s : Bytes) (n : Nat) : Nz (calledM l s n) := by unfold calledM; (repeat (first | exact Nz.ok _ | exact Nz.want (by decide) | exact Nz.err (by decide) | (refine Nz.bind ?_ fun _ => ?_) | (refine Nz.ite ?_ ?_) | assumption))
theorem nz_all {α : Type} {f : Nat → α → Er Unit} (h : ∀ k a, Nz (f k a)) : ∀ (l : List α) (k : Nat), Nz (allM f k l)
  | [], _ => by unfold allM; exact Nz.ok _
  | a :: r, k => by unfold allM; exact Nz.bind (h k a) fun _ => nz_all h r (k + 1)
theorem nz_member (C : Ctx) (n : Nat) (m : Bytes × Bytes) : Nz (memberM C n m) := by unfold memberM; (repeat (first | exact Nz.ok _ | exact Nz.want (by decide) | exact Nz.err (by decide) | exact nz_find _ _ (by decide) | exact nz_called _ _ _ | (refine Nz.bind ?_ fun _ => ?_) | (refine Nz.ite ?_ ?_) | assumption))
theorem nz_pred (C : Ctx) (n : Nat) (p : PredM) : Nz (predM C n p) := by
  unfold predM
  refine Nz.bind (nz_called _ _ _) fun _ => Nz.bind (Nz.want (by decide)) fun _ => Nz.bind (Nz.want (by decide)) fun _ => Nz.bind (nz_all (fun _ _ => ?_) _ _) fun _ => Nz.bind (Nz.want (by decide)) fun _ => nz_all (fun _ _ => Nz.want (by decide)) _ _
  (repeat (first | exact Nz.ok _ | exact Nz.want (by decide) | exact Nz.err (by decide) | exact nz_find _ _ (by decide) | exact nz_called _ _ _ | (refine Nz.bind ?_ fun _ => ?_) | (refine Nz.ite ?_ ?_) | assumption))
theorem nz_findPred (C : Ctx) (s : Bytes) : Nz (findPredM C s) := by unfold findPredM; (repeat (first | exact Nz.ok _ | exact Nz.want (by decide) | exact Nz.err (by decide) | exact nz_find _ _ (by decide) | exact nz_called _ _ _ | (refine Nz.bind ?_ fun _ => ?_) | (refine Nz.ite ?_ ?_) | assumption))
theorem nz_classNames (C : Ctx) (f : Bytes) : ∀ (l seen : List Bytes), Nz (classNamesM C f seen l)
  | [], _ => by unfold classNamesM; exact Nz.ok _
  | s :: r, seen => by
    unfold classNamesM
    exact Nz.bind (nz_findPred _ _) fun _ => Nz.bind (Nz.want (by decide)) fun _ => Nz.bind (nz_findPred _ _) fun _ => Nz.bind (Nz.want (by decide)) fun _ => Nz.bind (Nz.want (by decide)) fun _ => nz_classNames C f r _
theorem nz_class (C : Ctx) (seen l : List Bytes) : Nz (classM C seen l) := by unfold classM; exact Nz.bind (Nz.want (by decide)) fun _ => nz_classNames _ _ _ _
theorem nz_source (l : List Bytes) (n : Nat) (x : Bytes × Int) : Nz (sourceM l n x) := by unfold sourceM; (repeat (first | exact Nz.ok _ | exact Nz.want (by decide) | exact Nz.err (by decide) | exact nz_find _ _ (by decide) | exact nz_called _ _ _ | (refine Nz.bind ?_ fun _ => ?_) | (refine Nz.ite ?_ ?_) | assumption))
theorem nz_bindM (v : Scope) (s : Bytes) (k : Int) : Nz (bindM v s k) := by unfold bindM; (repeat (first | exact Nz.ok _ | exact Nz.want (by decide) | exact Nz.err (by decide) | exact nz_find _ _ (by decide) | exact nz_called _ _ _ | (refine Nz.bind ?_ fun _ => ?_) | (refine Nz.ite ?_ ?_) | assumption))
theorem nz_findMember (C : Ctx) (s : Bytes) : Nz (findMemberM C s) := by unfold findMemberM; (repeat (first | exact Nz.ok _ | exact Nz.want (by decide) | exact Nz.err (by decide) | exact nz_find _ _ (by decide) | exact nz_called _ _ _ | (refine Nz.bind ?_ fun _ => ?_) | (refine Nz.ite ?_ ?_) | assumption))
theorem nz_args (C : Ctx) : ∀ (l q : List Bytes) (v : Scope) (ms : List Nat), Nz (argsM C v ms l q)
  | [], _, _, _ => by unfold argsM; exact Nz.ok _
  | _ :: _, [], _, _ => by unfold argsM; exact Nz.ok _
  | s :: r, k :: q, v, ms => by
    unfold argsM
    exact Nz.ite (Nz.bind (nz_bindM _ _ _) fun _ => nz_args C r q _ _) (Nz.bind (nz_findMember _ _) fun _ => Nz.bind (Nz.want (by decide)) fun _ => nz_args C r q _ _)
theorem nz_arguments (C : Ctx) (v : Scope) (p : PredM) (l : List Bytes) : Nz (argumentsM C v p l) := by unfold argumentsM; exact Nz.bind (Nz.want (by decide)) fun _ => nz_args _ _ _ _ _
theorem nz_literal (C : Ctx) (v : Scope) (l : LitM) : Nz (literalM C v l) := by
  unfold literalM
  exact Nz.bind (nz_findPred _ _) fun _ => Nz.bind (Nz.want (by decide)) fun _ => Nz.bind (nz_arguments _ _ _ _) fun _ => Nz.bind (Nz.want (by decide)) fun _ => Nz.bind (Nz.want (by decide)) fun _ => Nz.bind (Nz.want (by decide)) fun _ => Nz.ok _
theorem nz_term (C : Ctx) (v : Scope) (t : TermM) : Nz (termM C v t) := by
  unfold termM
  exact Nz.ite (Nz.bind (Nz.want (by decide)) fun _ => Nz.bind (Nz.want (by decide)) fun _ => Nz.ok _) (Nz.bind (nz_findPred _ _) fun _ => Nz.bind (Nz.want (by decide)) fun _ => Nz.bind (Nz.want (by decide)) fun _ => Nz.bind (nz_arguments _ _ _ _) fun _ => Nz.ok _)
theorem nz_terms (C : Ctx) : ∀ (l : List TermM) (v : Scope), Nz (termsM C v l)
  | [], _ => by unfold termsM; exact Nz.ok _
  | t :: r, v => by unfold termsM; exact Nz.bind (nz_term _ _ _) fun _ => nz_terms C r _
theorem nz_guard (C : Ctx) (v : Scope) (g : GuardM) : Nz (guardM C v g) := by unfold guardM; exact Nz.bind (Nz.want (by decide)) fun _ => Nz.bind (Nz.want (by decide)) fun _ => Nz.bind (nz_terms _ _ _) fun _ => nz_terms _ _ _
theorem nz_unlike (C : Ctx) (v : Scope) (s : Bytes) : Nz (unlikeM C v s) := by unfold unlikeM; exact Nz.ite (Nz.ok _) (Nz.bind (nz_findMember _ _) fun _ => Nz.ok _)
theorem nz_prem (C : Ctx) (v : Scope) (p : PremM) : Nz (premM C v p) := by
  unfold premM
  exact Nz.ite (Nz.bind (nz_literal _ _ _) fun _ => Nz.ok _) (Nz.ite (nz_guard _ _ _) (Nz.ite (Nz.bind (nz_unlike _ _ _) fun _ => nz_unlike _ _ _) (Nz.err (by decide))))
theorem nz_body (C : Ctx) : ∀ (l : List PremM) (v : Scope), Nz (bodyM C v l)
  | [], _ => by unfold bodyM; exact Nz.ok _
  | p :: r, v => by unfold bodyM; exact Nz.bind (nz_prem _ _ _) fun _ => nz_body C r _
theorem nz_parts (C : Ctx) (t : RuleM) : Nz (partsM C t) := by unfold partsM; exact Nz.bind (nz_body _ _ _) fun _ => Nz.bind (nz_literal _ _ _) fun _ => Nz.ok _
theorem nz_rule (C : Ctx) (srcs names : List Bytes) (n : Nat) (t : RuleM) : Nz (ruleM C srcs names n t) := by
  unfold ruleM
  exact Nz.bind (nz_called _ _ _) fun _ => Nz.bind (nz_find _ _ (by decide)) fun _ => Nz.bind (Nz.want (by decide)) fun _ => Nz.bind (Nz.want (by decide)) fun _ => Nz.bind (Nz.want (by decide)) fun _ => Nz.bind (Nz.want (by decide)) fun _ => Nz.bind (nz_parts _ _) fun _ => Nz.want (by decide)
theorem nz_except (names keys : List Bytes) (n : Nat) (e : Bytes × Bytes) : Nz (exceptM names keys n e) := by unfold exceptM; (repeat (first | exact Nz.ok _ | exact Nz.want (by decide) | exact Nz.err (by decide) | exact nz_find _ _ (by decide) | exact nz_called _ _ _ | (refine Nz.bind ?_ fun _ => ?_) | (refine Nz.ite ?_ ?_) | assumption))
theorem nz_total (C : Ctx) (names : List Bytes) (n : Nat) (t : TotalM) : Nz (totalM C names n t) := by
  unfold totalM
  exact Nz.bind (nz_called _ _ _) fun _ => Nz.bind (nz_find _ _ (by decide)) fun _ => Nz.bind (Nz.want (by decide)) fun _ => Nz.bind (nz_all (fun _ _ => Nz.bind (nz_findPred _ _) fun _ => Nz.bind (Nz.want (by decide)) fun _ => Nz.bind (Nz.want (by decide)) fun _ => Nz.want (by decide)) _ _) fun _ => Nz.bind (Nz.want (by decide)) fun _ => Nz.want (by decide)
theorem nz_mapIdx {α : Type} {f : Nat → α → Er Unit} (h : ∀ n a, Nz (f n a)) (l : List α) : ∀ x ∈ l.mapIdx f, Nz x := by
  intro x hx
  obtain ⟨i, hi, rfl⟩ := List.mem_mapIdx.1 hx
  exact h _ _
theorem nz_items (S : StatM) : ∀ x ∈ S.items, Nz x := by
  intro x hx
  unfold StatM.items at hx
  simp only [List.mem_append] at hx
  rcases hx with ((((((hx | hx) | hx) | hx) | hx) | hx) | hx) | hx
  · exact nz_mapIdx (fun _ _ => nz_called _ _ _) _ x hx
  · exact nz_mapIdx (fun _ _ => nz_member _ _ _) _ x hx
  · exact nz_mapIdx (fun _ _ => nz_pred _ _ _) _ x hx
  · exact nz_mapIdx (fun _ _ => nz_class _ _ _) _ x hx
  · exact nz_mapIdx (fun _ _ => nz_source _ _ _) _ x hx
  · exact nz_mapIdx (fun _ _ => nz_rule _ _ _ _ _) _ x hx
  · exact nz_mapIdx (fun _ _ => nz_except _ _ _ _) _ x hx
  · exact nz_mapIdx (fun _ _ => nz_total _ _ _ _) _ x hx
theorem firstE_all {l : List (Er Unit)} (hz : ∀ x ∈ l, Nz x) : ∀ k, (firstE k l).1 = 0 → AllOk l := by
  induction l with
  | nil => intro k _; exact AllOk.nil
  | cons x r ih =>
    intro k h
    cases x with
    | error c => exact absurd h (hz _ (List.mem_cons_self ..) c rfl)
    | ok u =>
      have := ih (fun y hy => hz y (List.mem_cons_of_mem _ hy)) (k + 1) h
      intro y hy
      rcases List.mem_cons.1 hy with rfl | hy
      · rfl
      · exact this y hy
/-- When Check takes a statute. -/
theorem check_ok {S : StatM} : (checkM S).1 = 0 ↔ S.fitsB = true ∧ AllOk S.items := by
  unfold checkM
  cases h : S.fitsB with
  | false => simp
  | true =>
    simp only [if_true, true_and]
    constructor
    · exact firstE_all (nz_items S) 0
    · intro ha; rw [firstE_ok ha]
theorem check_len {S : StatM} (h : (checkM S).1 = 0) : checkM S = (0, S.items.length) := by
  obtain ⟨h1, h2⟩ := check_ok.1 h
  unfold checkM
  rw [h1, if_pos rfl, firstE_ok h2, Nat.zero_add]
end Go.Proofs.YtfnobccminhjpaaGreat
