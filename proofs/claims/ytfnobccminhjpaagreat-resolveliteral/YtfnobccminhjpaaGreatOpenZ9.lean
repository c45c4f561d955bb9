/- A statute among the arguments, opened, with the sizes of its lists. By program (tools/gen8/openz9.py). -/
import Derived.Test.YtfnobccminhjpaaGreatOpen9
import Derived.Test.YtfnobccminhjpaaGreatNum8
import Derived.Test.YtfnobccminhjpaaGreatItems8
namespace Go.Proofs.YtfnobccminhjpaaGreat
open Go.ChangeShapes Go.WideShapes Go.RowKit Go.Deep
section
variable {H : Type} {enc : TypeId × Value → H} {W : World}
theorem opz_n {b : Nat} {t e : TypeId} (ht : Tryz.prog.underlying t = some (.slice e)) (hb : b ≤ Tryz.prog.bytesOf e) {fuel : Nat} {cs : List Value} {d : DataW H} {p : List MemPlace} (h : DataW.trod enc Tryz.prog W 0 (fun _ => true) true fuel t cs = some (d, p)) (hw : ∀ n ∈ d.weights Tryz.prog t, n ≤ reachBytes) : ∃ n a c, cs = [.slice a n c] ∧ n * b ≤ 140737488351232 := by
  rcases open_slice ht h with ⟨rfl, _⟩ | ⟨x, len, cap, m, n, D, Pl, rfl, _, hl, hm, hmm, hx, hel⟩
  · exact ⟨0, _, _, rfl, by omega⟩
  · simp only [Prod.mk.injEq] at hx
    obtain ⟨rfl, _⟩ := hx
    have hm2 : m = cap := by simpa using hmm
    simp only [DataW.weights, ht, List.mem_cons, List.mem_append] at hw
    have hs := hw _ (.inl rfl)
    simp only [List.length_map, List.length_range, reachBytes] at hs
    have hlen : len * b ≤ (len + (m - len)) * Tryz.prog.bytesOf e := Nat.mul_le_mul (by omega) hb
    exact ⟨len, _, _, rfl, by omega⟩
theorem opz_l {α : Type} {t e : TypeId} {b k : Nat} {c : World → α → List Value → Prop} {P : α → Prop} (ht : Tryz.prog.underlying t = some (.slice e)) (hk : Tryz.prog.cellsOf e = k) (hk1 : 0 < k) (hb1 : 1 ≤ Tryz.prog.bytesOf e) (hb : b ≤ Tryz.prog.bytesOf e) (ho : Opn enc W e (fun w a xs => c w a xs ∧ P a)) : Opn enc W t (fun w l xs => cL W.heap.size k c w l xs ∧ Szs b P l) := by
  intro fuel cs d p h hw
  obtain ⟨l, v, e1, hr⟩ := opn_l ht hk hk1 hb1 ho fuel cs d p h hw
  obtain ⟨n, a, c', e2, hn⟩ := opz_n ht hb h hw
  refine ⟨l, ⟨v, e1, RR.up hr (Nat.le_refl _) fun _ _ h => h.1⟩, ?_, fun x hx => ?_⟩
  · obtain ⟨a2, c2, e3, _⟩ := hr
    rw [e1, e3] at e2
    simp only [List.cons.injEq, Value.slice.injEq, and_true] at e2
    obtain ⟨_, e2, _⟩ := e2
    rw [e2]
    exact hn
  · obtain ⟨i, hi⟩ := List.mem_iff_getElem?.1 hx
    obtain ⟨_, _, _, _, _, hr⟩ := hr
    obtain ⟨_, _, _, _, _, _, _, hp⟩ := hr i x hi
    exact hp.2
theorem opz_t {α : Type} {t : TypeId} {c : World → α → List Value → Prop} (ho : Opn enc W t c) : Opn enc W t (fun w a xs => c w a xs ∧ True) := fun f cs d p h hw => by
  obtain ⟨a, ha⟩ := ho f cs d p h hw
  exact ⟨a, ha, trivial⟩
theorem bw_s : 16 ≤ Tryz.prog.bytesOf 9 := of_decide_eq_true (by kernel_rfl)
theorem bw_iMoney : 8 ≤ Tryz.prog.bytesOf 57 := of_decide_eq_true (by kernel_rfl)
theorem bw_lS : 24 ≤ Tryz.prog.bytesOf 22 := of_decide_eq_true (by kernel_rfl)
theorem bw_M : 32 ≤ Tryz.prog.bytesOf 73 := of_decide_eq_true (by kernel_rfl)
theorem bw_E : 32 ≤ Tryz.prog.bytesOf 160 := of_decide_eq_true (by kernel_rfl)
theorem bw_Sr : 24 ≤ Tryz.prog.bytesOf 138 := of_decide_eq_true (by kernel_rfl)
theorem bw_Te : 56 ≤ Tryz.prog.bytesOf 156 := of_decide_eq_true (by kernel_rfl)
theorem bw_Pr : 160 ≤ Tryz.prog.bytesOf 123 := of_decide_eq_true (by kernel_rfl)
theorem bw_R : 144 ≤ Tryz.prog.bytesOf 97 := of_decide_eq_true (by kernel_rfl)
theorem bw_P : 72 ≤ Tryz.prog.bytesOf 132 := of_decide_eq_true (by kernel_rfl)
theorem bw_T : 72 ≤ Tryz.prog.bytesOf 142 := of_decide_eq_true (by kernel_rfl)
theorem opz_S : Opn enc W 22 (fun w l xs => cL W.heap.size 1 cS w l xs ∧ Szs 16 (fun _ => True) l) := opz_l Tryz.underlying22 cl_s (by decide) by_s bw_s (opz_t (opn_s Tryz.underlying9))
theorem opz_V : Opn enc W 130 (fun w l xs => cL W.heap.size 1 cI w l xs ∧ Szs 8 (fun _ => True) l) := opz_l Tryz.underlying130 cl_iMoney (by decide) by_iMoney bw_iMoney (opz_t (opn_i Tryz.underlying57))
set_option maxRecDepth 100000 in
theorem opz_Te : Opn enc W 156 (fun w a xs => cTerm W.heap.size w a xs ∧ szT a) := by
  intro fuel cs d p h hw
  have hl := opn_len Tryz.underlying156 h
  rw [cl_Te] at hl
  obtain ⟨a0, h0⟩ := opn_f Tryz.underlying156 h hw 0 rfl (opn_i Tryz.underlying2)
  obtain ⟨a1, h1⟩ := opn_f Tryz.underlying156 h hw 1 rfl (opn_s Tryz.underlying9)
  obtain ⟨a2, h2⟩ := opn_f Tryz.underlying156 h hw 2 rfl opz_S
  obtain ⟨a3, h3⟩ := opn_f Tryz.underlying156 h hw 3 rfl (opn_i Tryz.underlying57)
  clear h hw
  match cs, hl with
  | [u0, u1, u2, u3], _ =>
    simp only [cl_iMoney, cl_iint64, cl_lS, cl_s, List.getElem_toArray, List.getElem_cons_zero, List.getElem_cons_succ, List.drop_zero, List.drop_succ_cons, List.take_succ_cons, List.take_zero] at h0 h1 h2 h3
    cases h0
    obtain ⟨e1, m1⟩ := h1
    cases e1
    obtain ⟨⟨v2, e2, m2⟩, s2⟩ := h2
    cases e2
    cases h3
    exact ⟨⟨a0, a1, a2, a3⟩, ⟨u2, rfl, m1, m2⟩, s2⟩
theorem opz_lTe : Opn enc W 118 (fun w l xs => cL W.heap.size 4 (cTerm W.heap.size) w l xs ∧ Szs 56 szT l) := opz_l Tryz.underlying118 cl_Te (by decide) by_Te bw_Te opz_Te
set_option maxRecDepth 100000 in
theorem opz_Li : Opn enc W 59 (fun w a xs => cLit W.heap.size w a xs ∧ szL a) := by
  intro fuel cs d p h hw
  have hl := opn_len Tryz.underlying59 h
  rw [cl_Li] at hl
  obtain ⟨a0, h0⟩ := opn_f Tryz.underlying59 h hw 0 rfl (opn_b Tryz.underlying4)
  obtain ⟨a1, h1⟩ := opn_f Tryz.underlying59 h hw 1 rfl (opn_s Tryz.underlying9)
  obtain ⟨a2, h2⟩ := opn_f Tryz.underlying59 h hw 2 rfl opz_S
  obtain ⟨a3, h3⟩ := opn_f Tryz.underlying59 h hw 3 rfl (opn_b Tryz.underlying4)
  obtain ⟨a4, h4⟩ := opn_f Tryz.underlying59 h hw 4 rfl (opn_i Tryz.underlying57)
  clear h hw
  match cs, hl with
  | [u0, u1, u2, u3, u4], _ =>
    simp only [cl_b, cl_iMoney, cl_lS, cl_s, List.getElem_toArray, List.getElem_cons_zero, List.getElem_cons_succ, List.drop_zero, List.drop_succ_cons, List.take_succ_cons, List.take_zero] at h0 h1 h2 h3 h4
    cases h0
    obtain ⟨e1, m1⟩ := h1
    cases e1
    obtain ⟨⟨v2, e2, m2⟩, s2⟩ := h2
    cases e2
    cases h3
    cases h4
    exact ⟨⟨a0, a1, a2, a3, a4⟩, ⟨u2, rfl, m1, m2⟩, s2⟩
set_option maxRecDepth 100000 in
theorem opz_Gu : Opn enc W 121 (fun w a xs => cGuard W.heap.size w a xs ∧ szG a) := by
  intro fuel cs d p h hw
  have hl := opn_len Tryz.underlying121 h
  rw [cl_Gu] at hl
  obtain ⟨a0, h0⟩ := opn_f Tryz.underlying121 h hw 0 rfl opz_lTe
  obtain ⟨a1, h1⟩ := opn_f Tryz.underlying121 h hw 1 rfl (opn_i Tryz.underlying119)
  obtain ⟨a2, h2⟩ := opn_f Tryz.underlying121 h hw 2 rfl opz_lTe
  clear h hw
  match cs, hl with
  | [u0, u1, u2], _ =>
    simp only [cl_iOp, cl_lTe, List.getElem_toArray, List.getElem_cons_zero, List.getElem_cons_succ, List.drop_zero, List.drop_succ_cons, List.take_succ_cons, List.take_zero] at h0 h1 h2
    obtain ⟨⟨v0, e0, m0⟩, s0⟩ := h0
    cases e0
    cases h1
    obtain ⟨⟨v2, e2, m2⟩, s2⟩ := h2
    cases e2
    exact ⟨⟨a0, a1, a2⟩, ⟨u0, u2, rfl, m0, m2⟩, s0, s2⟩
set_option maxRecDepth 100000 in
theorem opz_Pr : Opn enc W 123 (fun w a xs => cPrem W.heap.size w a xs ∧ szPr a) := by
  intro fuel cs d p h hw
  have hl := opn_len Tryz.underlying123 h
  rw [cl_Pr] at hl
  obtain ⟨a0, h0⟩ := opn_f Tryz.underlying123 h hw 0 rfl (opn_i Tryz.underlying117)
  obtain ⟨a1, h1⟩ := opn_f Tryz.underlying123 h hw 1 rfl opz_Li
  obtain ⟨a2, h2⟩ := opn_f Tryz.underlying123 h hw 2 rfl opz_Gu
  obtain ⟨a3, h3⟩ := opn_f Tryz.underlying123 h hw 3 rfl (opn_s Tryz.underlying9)
  obtain ⟨a4, h4⟩ := opn_f Tryz.underlying123 h hw 4 rfl (opn_s Tryz.underlying9)
  clear h hw
  match cs, hl with
  | [u0, u1, u2, u3, u4, u5, u6, u7, u8, u9, u10], _ =>
    simp only [cl_Gu, cl_Li, cl_iKind, cl_s, List.getElem_toArray, List.getElem_cons_zero, List.getElem_cons_succ, List.drop_zero, List.drop_succ_cons, List.take_succ_cons, List.take_zero] at h0 h1 h2 h3 h4
    cases h0
    obtain ⟨h1, s1⟩ := h1
    obtain ⟨h2, s2⟩ := h2
    obtain ⟨e3, m3⟩ := h3
    cases e3
    obtain ⟨e4, m4⟩ := h4
    cases e4
    exact ⟨⟨a0, a1, a2, a3, a4⟩, ⟨_, _, rfl, h1, h2, m3, m4⟩, s1, s2⟩
theorem opz_lPr : Opn enc W 94 (fun w l xs => cL W.heap.size 11 (cPrem W.heap.size) w l xs ∧ Szs 160 szPr l) := opz_l Tryz.underlying94 cl_Pr (by decide) by_Pr bw_Pr opz_Pr
set_option maxRecDepth 100000 in
theorem opz_R : Opn enc W 97 (fun w a xs => cRule W.heap.size w a xs ∧ szR a) := by
  intro fuel cs d p h hw
  have hl := opn_len Tryz.underlying97 h
  rw [cl_R] at hl
  obtain ⟨a0, h0⟩ := opn_f Tryz.underlying97 h hw 0 rfl (opn_s Tryz.underlying9)
  obtain ⟨a1, h1⟩ := opn_f Tryz.underlying97 h hw 1 rfl (opn_s Tryz.underlying9)
  obtain ⟨a2, h2⟩ := opn_f Tryz.underlying97 h hw 2 rfl (opn_i Tryz.underlying93)
  obtain ⟨a3, h3⟩ := opn_f Tryz.underlying97 h hw 3 rfl (opn_i Tryz.underlying93)
  obtain ⟨a4, h4⟩ := opn_f Tryz.underlying97 h hw 4 rfl opz_lPr
  obtain ⟨a5, h5⟩ := opn_f Tryz.underlying97 h hw 5 rfl (opn_i Tryz.underlying95)
  obtain ⟨a6, h6⟩ := opn_f Tryz.underlying97 h hw 6 rfl opz_Li
  clear h hw
  match cs, hl with
  | [u0, u1, u2, u3, u4, u5, u6, u7, u8, u9, u10], _ =>
    simp only [cl_Li, cl_iArrow, cl_iDate, cl_lPr, cl_s, List.getElem_toArray, List.getElem_cons_zero, List.getElem_cons_succ, List.drop_zero, List.drop_succ_cons, List.take_succ_cons, List.take_zero] at h0 h1 h2 h3 h4 h5 h6
    obtain ⟨e0, m0⟩ := h0
    cases e0
    obtain ⟨e1, m1⟩ := h1
    cases e1
    cases h2
    cases h3
    obtain ⟨⟨v4, e4, m4⟩, s4⟩ := h4
    cases e4
    cases h5
    obtain ⟨h6, s6⟩ := h6
    exact ⟨⟨a0, a1, a2, a3, a4, a5, a6⟩, ⟨u4, _, rfl, m0, m1, m4, h6⟩, s4, s6⟩
set_option maxRecDepth 100000 in
theorem opz_P : Opn enc W 132 (fun w a xs => cPred W.heap.size w a xs ∧ szP a) := by
  intro fuel cs d p h hw
  have hl := opn_len Tryz.underlying132 h
  rw [cl_P] at hl
  obtain ⟨a0, h0⟩ := opn_f Tryz.underlying132 h hw 0 rfl (opn_s Tryz.underlying9)
  obtain ⟨a1, h1⟩ := opn_f Tryz.underlying132 h hw 1 rfl (opn_i Tryz.underlying53)
  obtain ⟨a2, h2⟩ := opn_f Tryz.underlying132 h hw 2 rfl opz_S
  obtain ⟨a3, h3⟩ := opn_f Tryz.underlying132 h hw 3 rfl opz_V
  clear h hw
  match cs, hl with
  | [u0, u1, u2, u3], _ =>
    simp only [cl_iSort, cl_lS, cl_lV, cl_s, List.getElem_toArray, List.getElem_cons_zero, List.getElem_cons_succ, List.drop_zero, List.drop_succ_cons, List.take_succ_cons, List.take_zero] at h0 h1 h2 h3
    obtain ⟨e0, m0⟩ := h0
    cases e0
    cases h1
    obtain ⟨⟨v2, e2, m2⟩, s2⟩ := h2
    cases e2
    obtain ⟨⟨v3, e3, m3⟩, s3⟩ := h3
    cases e3
    exact ⟨⟨a0, a1, a2, a3⟩, ⟨u2, u3, rfl, m0, m2, m3⟩, s2, s3⟩
set_option maxRecDepth 100000 in
theorem opz_T : Opn enc W 142 (fun w a xs => cTotal W.heap.size w a xs ∧ szTo a) := by
  intro fuel cs d p h hw
  have hl := opn_len Tryz.underlying142 h
  rw [cl_T] at hl
  obtain ⟨a0, h0⟩ := opn_f Tryz.underlying142 h hw 0 rfl (opn_s Tryz.underlying9)
  obtain ⟨a1, h1⟩ := opn_f Tryz.underlying142 h hw 1 rfl (opn_s Tryz.underlying9)
  obtain ⟨a2, h2⟩ := opn_f Tryz.underlying142 h hw 2 rfl opz_S
  obtain ⟨a3, h3⟩ := opn_f Tryz.underlying142 h hw 3 rfl (opn_b Tryz.underlying4)
  obtain ⟨a4, h4⟩ := opn_f Tryz.underlying142 h hw 4 rfl (opn_i Tryz.underlying57)
  clear h hw
  match cs, hl with
  | [u0, u1, u2, u3, u4], _ =>
    simp only [cl_b, cl_iMoney, cl_lS, cl_s, List.getElem_toArray, List.getElem_cons_zero, List.getElem_cons_succ, List.drop_zero, List.drop_succ_cons, List.take_succ_cons, List.take_zero] at h0 h1 h2 h3 h4
    obtain ⟨e0, m0⟩ := h0
    cases e0
    obtain ⟨e1, m1⟩ := h1
    cases e1
    obtain ⟨⟨v2, e2, m2⟩, s2⟩ := h2
    cases e2
    cases h3
    cases h4
    exact ⟨⟨a0, a1, a2, a3, a4⟩, ⟨u2, rfl, m0, m1, m2⟩, s2⟩
theorem opz_C : Opn enc W 22 (fun w a xs => cClass W.heap.size w a xs ∧ szC a) := fun f cs d p h hw => opz_S f cs d p h hw
theorem opz_lM : Opn enc W 23 (fun w l xs => cL W.heap.size 2 cM w l xs ∧ Szs 32 (fun _ => True) l) := opz_l Tryz.underlying23 cl_M (by decide) by_M bw_M (opz_t opn_M)
theorem opz_lE : Opn enc W 28 (fun w l xs => cL W.heap.size 2 cM w l xs ∧ Szs 32 (fun _ => True) l) := opz_l Tryz.underlying28 cl_E (by decide) by_E bw_E (opz_t opn_E)
theorem opz_lSr : Opn enc W 26 (fun w l xs => cL W.heap.size 2 cSrc w l xs ∧ Szs 24 (fun _ => True) l) := opz_l Tryz.underlying26 cl_Sr (by decide) by_Sr bw_Sr (opz_t opn_Sr)
theorem opz_lR : Opn enc W 27 (fun w l xs => cL W.heap.size 11 (cRule W.heap.size) w l xs ∧ Szs 144 szR l) := opz_l Tryz.underlying27 cl_R (by decide) by_R bw_R opz_R
theorem opz_lP : Opn enc W 24 (fun w l xs => cL W.heap.size 4 (cPred W.heap.size) w l xs ∧ Szs 72 szP l) := opz_l Tryz.underlying24 cl_P (by decide) by_P bw_P opz_P
theorem opz_lT : Opn enc W 29 (fun w l xs => cL W.heap.size 5 (cTotal W.heap.size) w l xs ∧ Szs 72 szTo l) := opz_l Tryz.underlying29 cl_T (by decide) by_T bw_T opz_T
theorem opz_lC : Opn enc W 25 (fun w l xs => cL W.heap.size 1 (cClass W.heap.size) w l xs ∧ Szs 24 szC l) := opz_l Tryz.underlying25 cl_lS (by decide) by_lS bw_lS opz_C
set_option maxRecDepth 100000 in
theorem arg_statz {base : Nat} {ts : List TypeId} {ds : List (DataW H)} {j : Nat} {v : Value} {d : DataW H} {p : List MemPlace} (hv : Value.okWide Tryz.prog W .any base 31 v) (h : DataW.Trod enc Tryz.prog W 0 (fun _ => true) true 31 v d p) (hsz : (DataW.weightsEach Tryz.prog ts ds).all (· ≤ reachBytes) = true) (ht : ts[j]? = some 31) (hd : ds[j]? = some d) : ∃ S st, v = St9.agg st ∧ SR W.heap.size W S st ∧ SzS S ∧ st.title = str S.title := by
  obtain ⟨cs, rfl, hl⟩ := okWide_struct Tryz.underlying31 hv
  obtain ⟨fuel, h⟩ := h
  have hw : ∀ n ∈ d.weights Tryz.prog 31, n ≤ reachBytes := fun n hn => of_decide_eq_true (List.all_eq_true.1 hsz _ (DataW.weights_mem_each ht hd n hn))
  rw [cl_St] at hl
  obtain ⟨a0, h0⟩ := opn_f Tryz.underlying31 h hw 0 rfl (opn_s Tryz.underlying9)
  obtain ⟨a1, h1⟩ := opn_f Tryz.underlying31 h hw 1 rfl opz_S
  obtain ⟨a2, h2⟩ := opn_f Tryz.underlying31 h hw 2 rfl opz_lM
  obtain ⟨a3, h3⟩ := opn_f Tryz.underlying31 h hw 3 rfl opz_lP
  obtain ⟨a4, h4⟩ := opn_f Tryz.underlying31 h hw 4 rfl opz_lC
  obtain ⟨a5, h5⟩ := opn_f Tryz.underlying31 h hw 5 rfl opz_lSr
  obtain ⟨a6, h6⟩ := opn_f Tryz.underlying31 h hw 6 rfl opz_lR
  obtain ⟨a7, h7⟩ := opn_f Tryz.underlying31 h hw 7 rfl opz_lE
  obtain ⟨a8, h8⟩ := opn_f Tryz.underlying31 h hw 8 rfl opz_lT
  clear h hw hsz
  obtain ⟨cs⟩ := cs
  match cs, hl with
  | [u0, u1, u2, u3, u4, u5, u6, u7, u8], _ =>
    simp only [Value.cells, cl_lC, cl_lE, cl_lM, cl_lP, cl_lR, cl_lS, cl_lSr, cl_lT, cl_s, List.getElem_toArray, List.getElem_cons_zero, List.getElem_cons_succ, List.drop_zero, List.drop_succ_cons, List.take_succ_cons, List.take_zero] at h0 h1 h2 h3 h4 h5 h6 h7 h8
    obtain ⟨e0, m0⟩ := h0
    cases e0
    obtain ⟨⟨v1, e1, m1⟩, s1⟩ := h1
    cases e1
    obtain ⟨⟨v2, e2, m2⟩, s2⟩ := h2
    cases e2
    obtain ⟨⟨v3, e3, m3⟩, s3⟩ := h3
    cases e3
    obtain ⟨⟨v4, e4, m4⟩, s4⟩ := h4
    cases e4
    obtain ⟨⟨v5, e5, m5⟩, s5⟩ := h5
    cases e5
    obtain ⟨⟨v6, e6, m6⟩, s6⟩ := h6
    cases e6
    obtain ⟨⟨v7, e7, m7⟩, s7⟩ := h7
    cases e7
    obtain ⟨⟨v8, e8, m8⟩, s8⟩ := h8
    cases e8
    exact ⟨⟨a0, a1, a2, a3, a4, a5, a6, a7, a8⟩, ⟨str a0, u1, u2, u3, u4, u5, u6, u7, u8⟩, rfl, ⟨⟨_, rfl⟩, m1, m2, m3, m4, m5, m6, m7, m8⟩, ⟨s1, s2, s3, s4, s5, s6, s7, s8⟩, rfl⟩
set_option maxRecDepth 100000 in
/-- A literal's text among the arguments. -/
theorem arg_litz {base : Nat} {ts : List TypeId} {ds : List (DataW H)} {j : Nat} {v : Value} {d : DataW H} {p : List MemPlace} (hv : Value.okWide Tryz.prog W .any base 59 v) (h : DataW.Trod enc Tryz.prog W 0 (fun _ => true) true 59 v d p) (hsz : (DataW.weightsEach Tryz.prog ts ds).all (· ≤ reachBytes) = true) (ht : ts[j]? = some 59) (hd : ds[j]? = some d) : ∃ (l : LitM) (aa : Option Addr) (ac : Nat), v = .agg #[.bool l.neg, .string ⟨l.pred.toArray⟩, .slice aa l.args.length ac, .bool l.hasValue, .int .i64 l.value] ∧ l.pred.length ≤ maxLen ∧ Strs W.heap.size W l.args (.slice aa l.args.length ac) ∧ szL l := by
  obtain ⟨cs, rfl, hl⟩ := okWide_struct Tryz.underlying59 hv
  obtain ⟨fuel, h⟩ := h
  have hw : ∀ n ∈ d.weights Tryz.prog 59, n ≤ reachBytes := fun n hn => of_decide_eq_true (List.all_eq_true.1 hsz _ (DataW.weights_mem_each ht hd n hn))
  obtain ⟨l, ⟨av, hcs, hp, hs⟩, hz⟩ := opz_Li fuel _ d p h hw
  obtain ⟨aa, ac, rfl, _⟩ := hs.form
  refine ⟨l, aa, ac, ?_, hp, hs, hz⟩
  have e : cs.toList = [.bool l.neg, str l.pred, .slice aa l.args.length ac, .bool l.hasValue, .int .i64 l.value] := hcs
  obtain ⟨cs⟩ := cs
  simp only at e
  subst e
  rfl
end
end Go.Proofs.YtfnobccminhjpaaGreat
/- A map of names to numbers, however many: what it holds is told by a list of pairs, the first of a name. -/
namespace Go.Proofs.YtfnobccminhjpaaGreat
open Go.RowKit Go.Shelf Go.Maps Go.WideMaps

/-- The number of a name: that of the first pair that has it. -/
def asc : List (Bytes × Int) → Bytes → Option Int
  | [], _ => none
  | x :: r, s => if x.1 = s then some x.2 else asc r s
theorem asc_app (L M : List (Bytes × Int)) (s : Bytes) : asc (L ++ M) s = (asc L s).or (asc M s) := by
  induction L with
  | nil => rfl
  | cons x r ih =>
    simp only [List.cons_append, asc]
    split
    · rfl
    · exact ih
theorem asc_same {L : List (Bytes × Int)} {s : Bytes} {n : Int} (h : (asc L s).isSome = true) (t : Bytes) : asc (L ++ [(s, n)]) t = asc L t := by
  rw [asc_app]
  by_cases e : t = s
  · subst e
    obtain ⟨v, hv⟩ := Option.isSome_iff_exists.1 h
    rw [hv]; rfl
  · have : asc [(s, n)] t = none := by simp only [asc]; rw [if_neg (fun h => e h.symm)]
    rw [this, Option.or_none]
theorem asc_new {L : List (Bytes × Int)} {s : Bytes} {n : Int} (h : asc L s = none) (t : Bytes) : asc (L ++ [(s, n)]) t = if t = s then some n else asc L t := by
  rw [asc_app]
  by_cases e : t = s
  · subst e
    rw [h, if_pos rfl]
    simp [asc]
  · have : asc [(s, n)] t = none := by simp only [asc]; rw [if_neg (fun h => e h.symm)]
    rw [this, Option.or_none, if_neg e]

def PMap (w : World) (b : Nat) (L : List (Bytes × Int)) : Prop := ∃ es clock, w.heap[b]? = some (.map es clock) ∧
  (∀ x ∈ es.toList, ∃ (s : Bytes) (v : Int), x.key = .string ⟨s.toArray⟩ ∧ s.length ≤ maxLen ∧ x.val = .int .i64 v ∧ asc L s = some v) ∧ ∀ s v, asc L s = some v → ∃ x ∈ es.toList, x.key = .string ⟨s.toArray⟩
theorem str_inj {s t : Bytes} (h : (Value.string ⟨s.toArray⟩) = .string ⟨t.toArray⟩) : s = t := by
  injection h with h
  injection h with h
  exact congrArg Array.toList h
section
variable {w w' : World} {b : Nat} {L : List (Bytes × Int)}
theorem PMap.made (w : World) : PMap (w.alloc (.map #[] 0)) w.heap.size [] := ⟨#[], 0, heap_alloc_new w _, by simp, fun s v h => by simp [asc] at h⟩
theorem PMap.keep (h : PMap w b L) (hb : w'.heap[b]? = w.heap[b]?) : PMap w' b L := by
  obtain ⟨es, c, h1, h2⟩ := h
  exact ⟨es, c, hb.trans h1, h2⟩
theorem PMap.lt (h : PMap w b L) : b < w.heap.size := by obtain ⟨es, c, h1, _⟩ := h; exact loc_lt h1
theorem PMap.look (h : PMap w b L) (s : Bytes) (hs : s.length ≤ maxLen) : (Instr.lookup 98 (.map (some b)) (.string ⟨s.toArray⟩) true).run Tryz.prog w = .ok (.tuple #[.int .i64 ((asc L s).getD 0), .bool (asc L s).isSome]) w := by
  obtain ⟨es, clock, hb, hk, ha⟩ := h
  have hkey := key_mk hs
  rcases law.find w hkey es.toList (fun e he => by obtain ⟨t, v, h1, h2, _⟩ := hk e he; rw [h1]; exact ⟨_, key_mk h2⟩) with ⟨h1, h2⟩ | ⟨j, e0, h1, h2, h3⟩
  · have hn : asc L s = none := by
      cases hc : asc L s with
      | none => rfl
      | some v => obtain ⟨x, hx, hxk⟩ := ha s v hc; exact absurd hxk (h2 x hx)
    rw [hn]
    simp [Instr.lookup, run_underlying Tryz.underlying98, MapKept.run_getObj_map hb, law.check w _ hkey, h1, Tryz.zeroValue3, Result.andThen]
  · obtain ⟨t, v, k1, _, k3, k4⟩ := hk e0 (List.mem_of_getElem? h2)
    have e : t = s := str_inj (k1.symm.trans h3)
    subst e
    rw [k4]
    simp [Instr.lookup, run_underlying Tryz.underlying98, MapKept.run_getObj_map hb, law.check w _ hkey, h1, k3, Result.andThen]
theorem PMap.put (h : PMap w b L) (s : Bytes) (hs : s.length ≤ maxLen) (n : Int) (hn : asc L s = none) : ∃ w', (Instr.mapUpdate 98 (.map (some b)) (.string ⟨s.toArray⟩) (.int .i64 n)).run Tryz.prog w = .ok () w' ∧ PMap w' b (L ++ [(s, n)]) ∧ w.grownBy w' (some b) := by
  obtain ⟨es, clock, hb, hk, ha⟩ := h
  have hkey := key_mk hs
  rcases law.find w hkey es.toList (fun e he => by obtain ⟨t, v, h1, h2, _⟩ := hk e he; rw [h1]; exact ⟨_, key_mk h2⟩) with ⟨h1, h2⟩ | ⟨j, e0, h1, h2, h3⟩
  · refine ⟨Go.ChangeMaps.setBlock w b (.map (es.push ⟨.string ⟨s.toArray⟩, .int .i64 n, clock⟩) (clock + 1)), ?_, ⟨_, _, Go.ChangeMaps.heap_setBlock_same hb _, ?_, ?_⟩, ⟨rfl, rfl, rfl, by simp [Go.ChangeMaps.setBlock], fun i _ hi => Go.ChangeMaps.heap_setBlock_other hb _ (fun e => hi (by rw [e]))⟩⟩
    · simp [Instr.mapUpdate, run_underlying Tryz.underlying98, MapKept.run_getObj_map hb, law.check w false hkey, h1, MapKept.run_setObj_map _ hb, Result.andThen, Go.ChangeMaps.setBlock]
    · intro x hx
      simp only [Array.toList_push, List.mem_append, List.mem_singleton] at hx
      rcases hx with hx | rfl
      · obtain ⟨t, v, k1, k2, k3, k4⟩ := hk x hx
        refine ⟨t, v, k1, k2, k3, ?_⟩
        rw [asc_new hn, if_neg (fun e => by subst e; rw [hn] at k4; cases k4)]
        exact k4
      · exact ⟨s, n, rfl, hs, rfl, by rw [asc_new hn, if_pos rfl]⟩
    · intro t v hv
      rw [asc_new hn] at hv
      by_cases e : t = s
      · subst e
        exact ⟨⟨.string ⟨t.toArray⟩, .int .i64 n, clock⟩, by simp, rfl⟩
      · rw [if_neg e] at hv
        obtain ⟨x, hx, hxk⟩ := ha t v hv
        exact ⟨x, by simp [Array.mem_toList_iff.1 hx], hxk⟩
  · obtain ⟨t, v, k1, _, k3, k4⟩ := hk e0 (List.mem_of_getElem? h2)
    have e : t = s := str_inj (k1.symm.trans h3)
    subst e
    rw [hn] at k4
    cases k4
theorem PMap.more (h : PMap w b L) (s : Bytes) (n : Int) (hn : (asc L s).isSome = true) : PMap w b (L ++ [(s, n)]) := by
  obtain ⟨es, clock, hb, hk, ha⟩ := h
  refine ⟨es, clock, hb, fun x hx => ?_, fun t v hv => ?_⟩
  · obtain ⟨t, v, k1, k2, k3, k4⟩ := hk x hx
    exact ⟨t, v, k1, k2, k3, by rw [asc_same hn]; exact k4⟩
  · rw [asc_same hn] at hv
    exact ha t v hv

set_option maxRecDepth 100000 in
set_option maxHeartbeats 1600000 in
theorem putP_any (hm : PMap w b L) (s : Bytes) (hs : s.length ≤ maxLen) (n : Int) :
    Calls Tryz.prog 87 #[.map (some b), str s, .int .i64 n] w fun e w' => (∃ x, e = .returned (.bool x)) ∧ PMap w' b (L ++ [(s, n)]) ∧ Fr (fun k => k = b) w w' := by
  have HL := hm.look s hs
  unfold str
  cases hc : asc L s with
  | some v =>
    have HM := hide (hm.more s n (by rw [hc]; rfl))
    rw [hc] at HL
    simp only [Option.getD_some, Option.isSome_some] at HL
    clear hm hc
    go_enter Tryz.func87, Tryz.ntmps87
    go_wp2_with fail
    go_ret
    exact ⟨⟨_, rfl⟩, HM.out, .refl _ _⟩
  | none =>
    obtain ⟨w1, HU, hm1, hg1⟩ := hm.put s hs n hc
    rw [hc] at HL
    simp only [Option.getD_none, Option.isSome_none] at HL
    have HM := hide hm1
    have HG := hide hg1
    clear hm hc hm1 hg1
    go_enter Tryz.func87, Tryz.ntmps87
    go_wp2_with fail
    go_ret
    exact ⟨⟨_, rfl⟩, HM.out, .of_grown HG.out fun k e => by cases e; rfl⟩
end

/-- The pairs of classes: of each name its class's number. -/
def prs : Nat → List (List Bytes) → List (Bytes × Int)
  | _, [] => []
  | k, l :: r => l.map (fun s => (s, (k : Int))) ++ prs (k + 1) r
/-- The first class that has a name. -/
def clsF : Nat → List (List Bytes) → Bytes → Int
  | _, [], _ => -1
  | k, l :: r, s => if s ∈ l then k else clsF (k + 1) r s
theorem asc_map (l : List Bytes) (k : Int) (s : Bytes) : asc (l.map fun s => (s, k)) s = if s ∈ l then some k else none := by
  induction l with
  | nil => rfl
  | cons x r ih =>
    simp only [List.map_cons, asc, List.mem_cons]
    by_cases e : x = s
    · subst e; simp
    · rw [if_neg e, ih]
      have : (s = x ∨ s ∈ r) ↔ s ∈ r := ⟨fun h => h.resolve_left fun h => e h.symm, .inr⟩
      simp only [this]
theorem asc_prs (cs : List (List Bytes)) (k : Nat) (s : Bytes) : (match asc (prs k cs) s with | some v => v | none => -1) = clsF k cs s := by
  induction cs generalizing k with
  | nil => rfl
  | cons l r ih =>
    simp only [prs, clsF, asc_app, asc_map]
    by_cases h : s ∈ l
    · rw [if_pos h, if_pos h]; rfl
    · rw [if_neg h, if_neg h, Option.none_or]; exact ih (k + 1)
theorem prs_app (cs ds : List (List Bytes)) (k : Nat) : prs k (cs ++ ds) = prs k cs ++ prs (k + cs.length) ds := by
  induction cs generalizing k with
  | nil => rfl
  | cons l r ih =>
    simp only [List.cons_append, prs, ih, List.length_cons, List.append_assoc]
    congr 3
    omega
theorem prs_snoc {cs : List (List Bytes)} {i : Nat} {l : List Bytes} (h : cs[i]? = some l) : prs 0 (cs.take (i + 1)) = prs 0 (cs.take i) ++ l.map (fun s => (s, (i : Int))) := by
  have hi : i < cs.length := by
    apply Classical.byContradiction
    intro hn
    rw [List.getElem?_eq_none (by omega)] at h
    cases h
  rw [take_snoc h, prs_app]
  have e : (0 + (cs.take i).length) = i := by simp; omega
  rw [e]
  simp only [prs, List.append_nil]
theorem clsF_step {cs : List (List Bytes)} {i : Nat} {l : List Bytes} (h : cs[i]? = some l) (s : Bytes) : clsF i (cs.drop i) s = if s ∈ l then (i : Int) else clsF (i + 1) (cs.drop (i + 1)) s := by
  have hi : i < cs.length := by
    apply Classical.byContradiction
    intro hn
    rw [List.getElem?_eq_none (by omega)] at h
    cases h
  rw [List.drop_eq_getElem_cons hi]
  have : cs[i] = l := by
    rw [List.getElem?_eq_getElem hi] at h
    exact Option.some.inj h
  rw [this]
  rfl
end Go.Proofs.YtfnobccminhjpaaGreat
/- Rows that are gathered beside a statute; what Sorts, Of, Class answer: plain words. -/
namespace Go.Proofs.YtfnobccminhjpaaGreat
open Go.RowKit Go.Shelf Go.Maps Go.WideMaps

/-- A row that is gathered beside a statute in its box. -/
structure GI (T : Nat) (st : St9) (w : World) (n : Nat) (xs : List Value) (mv : Value) (wr : World) : Prop where
  low : Below w.heap.size w wr
  box : wr.heap[w.heap.size]? = some (.cells #[st.title, st.kinds, st.members, st.preds, st.classes, st.sources, st.rules, st.excepts, st.totals] 31 (0, 0))
  row : wr.ownsRow (w.heap.size + 1) T 1 mv n xs
theorem GI.grow {T : Nat} {st : St9} {w : World} {n : Nat} {mv : Value} {wd w4 : World} {xs ys : List Value} {ob : Obj} {g4 cap4 : Nat} (h : GI T st w n xs mv wd) (hown : w4.ownsRow (w.heap.size + 1) T 1 (.slice (some ⟨g4, 0, none⟩) (n + 1) cap4) (n + 1) ys)
    (hg : (mv.ownBlock = some g4 ∧ (wd.alloc ob).grownBy w4 (some g4)) ∨ (g4 = wd.heap.size + 1 ∧ (wd.alloc ob).grownBy w4 none)) : GI T st w (n + 1) ys (.slice (some ⟨g4, 0, none⟩) (n + 1) cap4) w4 := by
  have hfr := grown_fr (Z := fun k => w.heap.size + 1 ≤ k) rfl hg fun g e => (h.row.lt g e).1
  have hl := loc_lt h.box
  exact ⟨h.low.trans (hfr.below fun k hk => ⟨by omega, by show ¬ w.heap.size + 1 ≤ k; omega⟩), (hfr.block _ hl (by show ¬ w.heap.size + 1 ≤ w.heap.size; omega)).trans h.box, hown⟩
theorem GI.below {T : Nat} {st : St9} {w : World} {n : Nat} {xs : List Value} {mv : Value} {wr w' : World} (h : GI T st w n xs mv wr) (hb : Below wr.heap.size wr w') : GI T st w n xs mv w' :=
  ⟨h.low.trans (hb.mono h.low.size), (hb.block _ (loc_lt h.box)).trans h.box, owns_keep h.row fun g hg => hb.block g (owns_lt h.row hg)⟩
theorem GI.start {T : Nat} {st : St9} (w : World) : GI T st w 0 [] (.slice none 0 0) (w.alloc (.cells #[st.title, st.kinds, st.members, st.preds, st.classes, st.sources, st.rules, st.excepts, st.totals] 31)) :=
  ⟨(Below.refl _ w).alloc (Nat.le_refl _) _, heap_alloc_new w _, rfl, .inl ⟨rfl, rfl⟩⟩
theorem GI.cells {T : Nat} {st : St9} {w : World} {n : Nat} {xs : List Value} {mv : Value} {wr : World} (h : GI T st w n xs mv wr) : wr.cell? ⟨w.heap.size, 0, none⟩ = some st.title ∧ wr.cell? ⟨w.heap.size, 1, none⟩ = some st.kinds ∧ wr.cell? ⟨w.heap.size, 2, none⟩ = some st.members ∧ wr.cell? ⟨w.heap.size, 3, none⟩ = some st.preds ∧ wr.cell? ⟨w.heap.size, 4, none⟩ = some st.classes ∧ wr.cell? ⟨w.heap.size, 5, none⟩ = some st.sources ∧ wr.cell? ⟨w.heap.size, 6, none⟩ = some st.rules ∧ wr.cell? ⟨w.heap.size, 7, none⟩ = some st.excepts ∧ wr.cell? ⟨w.heap.size, 8, none⟩ = some st.totals :=
  ⟨cell_of_row wr _ 0 _ _ _ h.box, cell_of_row wr _ 1 _ _ _ h.box, cell_of_row wr _ 2 _ _ _ h.box, cell_of_row wr _ 3 _ _ _ h.box, cell_of_row wr _ 4 _ _ _ h.box, cell_of_row wr _ 5 _ _ _ h.box, cell_of_row wr _ 6 _ _ _ h.box, cell_of_row wr _ 7 _ _ _ h.box, cell_of_row wr _ 8 _ _ _ h.box⟩
theorem owns_down {w : World} {b b' e k n : Nat} {u : Value} {xs : List Value} (h : w.ownsRow b e k u n xs) (hb : b' ≤ b) : w.ownsRow b' e k u n xs := by
  obtain ⟨h1, h2⟩ := h
  refine ⟨h1, ?_⟩
  rcases h2 with h2 | ⟨g, cap, cur, e, hg, h4⟩
  · exact .inl h2
  · exact .inr ⟨g, cap, cur, e, Nat.le_trans hb hg, h4⟩
theorem strs_snoc {α : Type} {f : α → Bytes} {l : List α} {i : Nat} {x : α} (hx : l[i]? = some x) : strs ((l.take (i + 1)).map f) = strs ((l.take i).map f) ++ [.string ⟨(f x).toArray⟩] := by
  rw [take_snoc hx]
  unfold strs str
  simp
theorem infoO : (Tryz.prog.info? 53).map (fun i => (i.zero, i.size, i.bytes)) = some (some (.int .i64 0), 1, 8) := by kernel_rfl
theorem ints_snoc {α : Type} {f : α → Int} {l : List α} {i : Nat} {x : α} (hx : l[i]? = some x) : ints ((l.take (i + 1)).map f) = ints ((l.take i).map f) ++ [.int .i64 (f x)] := by
  rw [take_snoc hx]
  unfold ints
  simp
/-- Is a member of that kind? -/
def ofP (kinds : List Bytes) (k : Int) (m : Bytes × Bytes) : Bool := decide (m.2 ∈ kinds) && decide ((posB kinds m.2 : Int) = k)
def ofL (kinds : List Bytes) (k : Int) (l : List (Bytes × Bytes)) : List Int := (l.zipIdx.filter fun x => ofP kinds k x.1).map fun x => (x.2 : Int)
theorem ofL_step {kinds : List Bytes} {k : Int} {l : List (Bytes × Bytes)} {i : Nat} {x : Bytes × Bytes} (hx : l[i]? = some x) : ofL kinds k (l.take (i + 1)) = ofL kinds k (l.take i) ++ (if ofP kinds k x then [(i : Int)] else []) := by
  have hi : i < l.length := by
    apply Classical.byContradiction
    intro hn
    rw [List.getElem?_eq_none (by omega)] at hx
    cases hx
  have hl : (l.take i).length = i := by simp; omega
  unfold ofL
  rw [take_snoc hx, List.zipIdx_append, List.filter_append, List.map_append, hl]
  congr 1
  by_cases h : ofP kinds k x = true <;> simp [h, List.zipIdx]
theorem ofL_le {kinds : List Bytes} {k : Int} {l : List (Bytes × Bytes)} (i : Nat) : (ofL kinds k (l.take i)).length ≤ i := by
  unfold ofL
  rw [List.length_map]
  refine Nat.le_trans (List.length_filter_le _ _) ?_
  simp
  omega
/-- Of each predicate its class. -/
def clsL (cs : List (List Bytes)) (l : List PredM) : List Int := l.map fun p => clsF 0 cs p.name
end Go.Proofs.YtfnobccminhjpaaGreat
