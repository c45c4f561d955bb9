/- A statute among the arguments, opened. -/
import Derived.Test.YtfnobccminhjpabGreatFirst8
import Derived.Deep.Strs
import Derived.Deep.Slices
namespace Go.Proofs.YtfnobccminhjpabGreat
open Go.ChangeShapes Go.WideShapes Go.RowKit Go.Deep

theorem weightsAll_mem {H : Type} {P : Program} {e : TypeId} : ∀ {ds : List (DataW H)} {d : DataW H} {n : Nat}, d ∈ ds → n ∈ d.weights P e → n ∈ DataW.weightsAll P e ds := by
  intro ds
  induction ds with
  | nil => intro d n h; simp at h
  | cons x r ih =>
    intro d n h hn
    simp only [DataW.weightsAll, List.mem_append]
    rcases List.mem_cons.1 h with e1 | e1
    · subst e1; exact .inl hn
    · exact .inr (ih e1 hn)

section
variable {H : Type} {enc : TypeId × Value → H} {W : World}
/-- What of this type is read within reach has this form. -/
def Opn {α : Type} (enc : TypeId × Value → H) (W : World) (t : TypeId) (c : World → α → List Value → Prop) : Prop :=
  ∀ fuel cs d p, DataW.trod enc Tryz.prog W 0 (fun _ => true) true fuel t cs = some (d, p) → (∀ n ∈ d.weights Tryz.prog t, n ≤ reachBytes) → ∃ a, c W a cs
def cB (_ : World) (a : Bool) (xs : List Value) : Prop := xs = [.bool a]
/-- A list in one cell. -/
def cL {α : Type} (N k : Nat) (c : World → α → List Value → Prop) (w : World) (l : List α) (xs : List Value) : Prop := ∃ v, xs = [v] ∧ RR N k c w l v
theorem opn_s {t : TypeId} (ht : Tryz.prog.underlying t = some .string) : Opn enc W t cS := by
  intro fuel cs d p h _
  obtain ⟨s, rfl, _, hs⟩ := DataW.trod_string ht h
  refine ⟨s.data.toList, by rw [str_ba], ?_⟩
  rw [Array.length_toList]
  exact hs
theorem opn_i {t : TypeId} (ht : Tryz.prog.underlying t = some (.int .i64)) : Opn enc W t cI := by
  intro fuel cs d p h _
  obtain ⟨k, rfl, _, _⟩ := DataW.trod_int ht h
  exact ⟨k, rfl⟩
theorem opn_b {t : TypeId} (ht : Tryz.prog.underlying t = some .bool) : Opn enc W t cB := by
  intro fuel cs d p h _
  obtain ⟨k, rfl, _⟩ := DataW.trod_bool ht h
  exact ⟨k, rfl⟩
theorem opn_l {α : Type} {t e : TypeId} {k : Nat} {c : World → α → List Value → Prop} (ht : Tryz.prog.underlying t = some (.slice e)) (hk : Tryz.prog.cellsOf e = k) (hk1 : 0 < k) (hb : 1 ≤ Tryz.prog.bytesOf e) (ho : Opn enc W e c) : Opn enc W t (cL W.heap.size k c) := by
  intro fuel cs d p h hw
  rcases open_slice ht h with ⟨rfl, _⟩ | ⟨x, len, cap, m, n, D, Pl, rfl, _, hl, hm, hmm, hx, hel⟩
  · exact ⟨[], _, rfl, none, 0, rfl, Nat.zero_le _, Nat.zero_le _, fun i x hi => by simp at hi⟩
  · simp only [Prod.mk.injEq] at hx
    obtain ⟨rfl, _⟩ := hx
    have hm2 : m = cap := by simpa using hmm
    simp only [DataW.weights, ht, List.mem_cons, List.mem_append] at hw
    have hs := hw _ (.inl rfl)
    simp only [List.length_map, List.length_range, reachBytes] at hs
    have hlen : len ≤ 140737488351232 := by
      have : len * 1 ≤ (len + (m - len)) * Tryz.prog.bytesOf e := Nat.mul_le_mul (by omega) hb
      omega
    rw [hk] at hel
    have each : ∀ i : Fin len, ∃ (a : α) (xs : List Value), xs.length = k ∧ (∀ j, j < k → W.cell? ((x.add (i.1 * k)).add j) = xs[j]?) ∧ c W a xs := by
      intro i
      obtain ⟨cs', h1, h2⟩ := hel i.1 (by omega)
      obtain ⟨_, hlen, hcell⟩ := World.cells?_some h1
      obtain ⟨a, ha⟩ := ho _ _ _ _ h2 fun q hq => hw q (.inr (.inl (weightsAll_mem (List.mem_map.2 ⟨i.1, by simp, rfl⟩) hq)))
      exact ⟨a, cs', hlen, hcell, ha⟩
    obtain ⟨b, off, spot⟩ := x
    refine ⟨List.ofFn fun i => Classical.choose (each i), _, rfl, some ⟨b, off, spot⟩, cap, by simp, by simpa using hl, by simpa using hlen, ?_⟩
    intro i a hi
    have hil : i < len := by
      apply Classical.byContradiction
      intro hn
      rw [List.getElem?_eq_none (by simp; omega)] at hi
      cases hi
    have ha : Classical.choose (each ⟨i, hil⟩) = a := by
      rw [List.getElem?_eq_getElem (by simp; exact hil)] at hi
      simpa using hi
    obtain ⟨xs, h1, h2, h3⟩ := Classical.choose_spec (each ⟨i, hil⟩)
    rw [ha] at h3
    have h0 := h2 0 hk1
    rw [List.getElem?_eq_getElem (by omega)] at h0
    have hspot : spot = none := by
      obtain ⟨_, ys, y1, y2, _⟩ := each ⟨0, by omega⟩
      have z0 := y2 0 hk1
      rw [List.getElem?_eq_getElem (by omega)] at z0
      have := World.cell?_spot z0
      simpa [Addr.add] using this
    subst hspot
    rw [Addr.add_lit, Addr.add_lit] at h0
    refine ⟨b, off, xs, rfl, World.block_lt_of_cell? W _ h0, h1, fun j u hu => ?_, h3⟩
    have hj : j < k := by
      apply Classical.byContradiction
      intro hn
      rw [List.getElem?_eq_none (by omega)] at hu
      cases hu
    have := h2 j hj
    rw [Addr.add_lit, Addr.add_lit, hu] at this
    exact this
/-- One field of a struct. -/
theorem opn_f {t : TypeId} {fs : Array Field} (ht : Tryz.prog.underlying t = some (.struct fs)) {fuel : Nat} {cs : List Value} {d : DataW H} {p : List MemPlace} (h : DataW.trod enc Tryz.prog W 0 (fun _ => true) true fuel t cs = some (d, p)) (hw : ∀ n ∈ d.weights Tryz.prog t, n ≤ reachBytes) (i : Nat) {f : Field} (hf : fs[i]? = some f) {α : Type} {c : World → α → List Value → Prop} (ho : Opn enc W f.type c) : ∃ a, c W a ((cs.drop f.offset).take (Tryz.prog.cellsOf f.type)) := by
  obtain ⟨xs, n, _, hx, _, hl, hi⟩ := DataW.trod_struct ht h
  simp only [Prod.mk.injEq] at hx
  obtain ⟨rfl, _⟩ := hx
  have hlt : i < fs.size := by
    apply Classical.byContradiction
    intro hn
    rw [Array.getElem?_eq_none (by omega)] at hf
    cases hf
  have h1 := hi i f hf
  have h2 : xs[i]? = some xs[i] := List.getElem?_eq_getElem (by omega)
  rw [h2] at h1
  simp only [DataW.weights, ht] at hw
  refine ho _ _ xs[i].1 xs[i].2 h1 fun q hq => hw q (DataW.weights_mem_each (j := i) (t := f.type) (d := xs[i].1) ?_ ?_ q hq)
  · rw [List.getElem?_map, Array.getElem?_toList, hf]; rfl
  · rw [List.getElem?_map, h2]; rfl
theorem opn_len {t : TypeId} {fs : Array Field} (ht : Tryz.prog.underlying t = some (.struct fs)) {fuel : Nat} {cs : List Value} {d : DataW H} {p : List MemPlace} (h : DataW.trod enc Tryz.prog W 0 (fun _ => true) true fuel t cs = some (d, p)) : cs.length = Tryz.prog.cellsOf t := by
  obtain ⟨xs, n, _, _, hl, _⟩ := DataW.trod_struct ht h
  exact hl
end
end Go.Proofs.YtfnobccminhjpabGreat
/- The things of a statute, opened; a statute among the arguments. -/
namespace Go.Proofs.YtfnobccminhjpabGreat
open Go.ChangeShapes Go.WideShapes Go.RowKit Go.Deep
theorem cl_s : Tryz.prog.cellsOf 9 = 1 := by kernel_rfl
theorem by_s : 1 ≤ Tryz.prog.bytesOf 9 := of_decide_eq_true (by kernel_rfl)
theorem cl_b : Tryz.prog.cellsOf 4 = 1 := by kernel_rfl
theorem cl_iMoney : Tryz.prog.cellsOf 32 = 1 := by kernel_rfl
theorem cl_iSort : Tryz.prog.cellsOf 112 = 1 := by kernel_rfl
theorem cl_iOp : Tryz.prog.cellsOf 89 = 1 := by kernel_rfl
theorem cl_iArrow : Tryz.prog.cellsOf 84 = 1 := by kernel_rfl
theorem cl_iKind : Tryz.prog.cellsOf 87 = 1 := by kernel_rfl
theorem cl_iDate : Tryz.prog.cellsOf 83 = 1 := by kernel_rfl
theorem cl_iint : Tryz.prog.cellsOf 3 = 1 := by kernel_rfl
theorem cl_iint64 : Tryz.prog.cellsOf 2 = 1 := by kernel_rfl
theorem by_iMoney : 1 ≤ Tryz.prog.bytesOf 32 := of_decide_eq_true (by kernel_rfl)
theorem cl_lS : Tryz.prog.cellsOf 22 = 1 := by kernel_rfl
theorem cl_lV : Tryz.prog.cellsOf 113 = 1 := by kernel_rfl
theorem cl_lTe : Tryz.prog.cellsOf 88 = 1 := by kernel_rfl
theorem cl_lPr : Tryz.prog.cellsOf 82 = 1 := by kernel_rfl
theorem cl_lM : Tryz.prog.cellsOf 23 = 1 := by kernel_rfl
theorem cl_lP : Tryz.prog.cellsOf 24 = 1 := by kernel_rfl
theorem cl_lC : Tryz.prog.cellsOf 25 = 1 := by kernel_rfl
theorem cl_lSr : Tryz.prog.cellsOf 26 = 1 := by kernel_rfl
theorem cl_lR : Tryz.prog.cellsOf 27 = 1 := by kernel_rfl
theorem cl_lE : Tryz.prog.cellsOf 28 = 1 := by kernel_rfl
theorem cl_lT : Tryz.prog.cellsOf 29 = 1 := by kernel_rfl
theorem by_lS : 1 ≤ Tryz.prog.bytesOf 22 := of_decide_eq_true (by kernel_rfl)
section
variable {H : Type} {enc : TypeId × Value → H} {W : World}
theorem opn_S : Opn enc W 22 (cL W.heap.size 1 cS) := opn_l Tryz.underlying22 cl_s (by decide) by_s (opn_s Tryz.underlying9)
theorem opn_V : Opn enc W 113 (cL W.heap.size 1 cI) := opn_l Tryz.underlying113 cl_iMoney (by decide) by_iMoney (opn_i Tryz.underlying32)
theorem cl_M : Tryz.prog.cellsOf 119 = 2 := by kernel_rfl
theorem by_M : 1 ≤ Tryz.prog.bytesOf 119 := of_decide_eq_true (by kernel_rfl)
set_option maxRecDepth 100000 in
theorem opn_M : Opn enc W 119 cM := by
  intro fuel cs d p h hw
  have hl := opn_len Tryz.underlying119 h
  rw [cl_M] at hl
  obtain ⟨a0, h0⟩ := opn_f Tryz.underlying119 h hw 0 rfl (opn_s Tryz.underlying9)
  obtain ⟨a1, h1⟩ := opn_f Tryz.underlying119 h hw 1 rfl (opn_s Tryz.underlying9)
  clear h hw
  match cs, hl with
  | [u0, u1], _ =>
    simp only [cl_s, List.getElem_toArray, List.getElem_cons_zero, List.getElem_cons_succ, List.drop_zero, List.drop_succ_cons, List.take_succ_cons, List.take_zero] at h0 h1
    obtain ⟨e0, m0⟩ := h0
    cases e0
    obtain ⟨e1, m1⟩ := h1
    cases e1
    exact ⟨(a0, a1), rfl, m0, m1⟩
theorem cl_E : Tryz.prog.cellsOf 157 = 2 := by kernel_rfl
theorem by_E : 1 ≤ Tryz.prog.bytesOf 157 := of_decide_eq_true (by kernel_rfl)
set_option maxRecDepth 100000 in
theorem opn_E : Opn enc W 157 cM := by
  intro fuel cs d p h hw
  have hl := opn_len Tryz.underlying157 h
  rw [cl_E] at hl
  obtain ⟨a0, h0⟩ := opn_f Tryz.underlying157 h hw 0 rfl (opn_s Tryz.underlying9)
  obtain ⟨a1, h1⟩ := opn_f Tryz.underlying157 h hw 1 rfl (opn_s Tryz.underlying9)
  clear h hw
  match cs, hl with
  | [u0, u1], _ =>
    simp only [cl_s, List.getElem_toArray, List.getElem_cons_zero, List.getElem_cons_succ, List.drop_zero, List.drop_succ_cons, List.take_succ_cons, List.take_zero] at h0 h1
    obtain ⟨e0, m0⟩ := h0
    cases e0
    obtain ⟨e1, m1⟩ := h1
    cases e1
    exact ⟨(a0, a1), rfl, m0, m1⟩
theorem cl_Sr : Tryz.prog.cellsOf 121 = 2 := by kernel_rfl
theorem by_Sr : 1 ≤ Tryz.prog.bytesOf 121 := of_decide_eq_true (by kernel_rfl)
set_option maxRecDepth 100000 in
theorem opn_Sr : Opn enc W 121 cSrc := by
  intro fuel cs d p h hw
  have hl := opn_len Tryz.underlying121 h
  rw [cl_Sr] at hl
  obtain ⟨a0, h0⟩ := opn_f Tryz.underlying121 h hw 0 rfl (opn_s Tryz.underlying9)
  obtain ⟨a1, h1⟩ := opn_f Tryz.underlying121 h hw 1 rfl (opn_i Tryz.underlying3)
  clear h hw
  match cs, hl with
  | [u0, u1], _ =>
    simp only [cl_iint, cl_s, List.getElem_toArray, List.getElem_cons_zero, List.getElem_cons_succ, List.drop_zero, List.drop_succ_cons, List.take_succ_cons, List.take_zero] at h0 h1
    obtain ⟨e0, m0⟩ := h0
    cases e0
    cases h1
    exact ⟨(a0, a1), rfl, m0⟩
theorem cl_Te : Tryz.prog.cellsOf 160 = 4 := by kernel_rfl
theorem by_Te : 1 ≤ Tryz.prog.bytesOf 160 := of_decide_eq_true (by kernel_rfl)
set_option maxRecDepth 100000 in
theorem opn_Te : Opn enc W 160 (cTerm W.heap.size) := by
  intro fuel cs d p h hw
  have hl := opn_len Tryz.underlying160 h
  rw [cl_Te] at hl
  obtain ⟨a0, h0⟩ := opn_f Tryz.underlying160 h hw 0 rfl (opn_i Tryz.underlying2)
  obtain ⟨a1, h1⟩ := opn_f Tryz.underlying160 h hw 1 rfl (opn_s Tryz.underlying9)
  obtain ⟨a2, h2⟩ := opn_f Tryz.underlying160 h hw 2 rfl opn_S
  obtain ⟨a3, h3⟩ := opn_f Tryz.underlying160 h hw 3 rfl (opn_i Tryz.underlying32)
  clear h hw
  match cs, hl with
  | [u0, u1, u2, u3], _ =>
    simp only [cl_iMoney, cl_iint64, cl_lS, cl_s, List.getElem_toArray, List.getElem_cons_zero, List.getElem_cons_succ, List.drop_zero, List.drop_succ_cons, List.take_succ_cons, List.take_zero] at h0 h1 h2 h3
    cases h0
    obtain ⟨e1, m1⟩ := h1
    cases e1
    obtain ⟨v2, e2, m2⟩ := h2
    cases e2
    cases h3
    exact ⟨⟨a0, a1, a2, a3⟩, u2, rfl, m1, m2⟩
theorem opn_lTe : Opn enc W 88 (cL W.heap.size 4 (cTerm W.heap.size)) := opn_l Tryz.underlying88 cl_Te (by decide) by_Te opn_Te
theorem cl_Li : Tryz.prog.cellsOf 34 = 5 := by kernel_rfl
theorem by_Li : 1 ≤ Tryz.prog.bytesOf 34 := of_decide_eq_true (by kernel_rfl)
set_option maxRecDepth 100000 in
theorem opn_Li : Opn enc W 34 (cLit W.heap.size) := by
  intro fuel cs d p h hw
  have hl := opn_len Tryz.underlying34 h
  rw [cl_Li] at hl
  obtain ⟨a0, h0⟩ := opn_f Tryz.underlying34 h hw 0 rfl (opn_b Tryz.underlying4)
  obtain ⟨a1, h1⟩ := opn_f Tryz.underlying34 h hw 1 rfl (opn_s Tryz.underlying9)
  obtain ⟨a2, h2⟩ := opn_f Tryz.underlying34 h hw 2 rfl opn_S
  obtain ⟨a3, h3⟩ := opn_f Tryz.underlying34 h hw 3 rfl (opn_b Tryz.underlying4)
  obtain ⟨a4, h4⟩ := opn_f Tryz.underlying34 h hw 4 rfl (opn_i Tryz.underlying32)
  clear h hw
  match cs, hl with
  | [u0, u1, u2, u3, u4], _ =>
    simp only [cl_b, cl_iMoney, cl_lS, cl_s, List.getElem_toArray, List.getElem_cons_zero, List.getElem_cons_succ, List.drop_zero, List.drop_succ_cons, List.take_succ_cons, List.take_zero] at h0 h1 h2 h3 h4
    cases h0
    obtain ⟨e1, m1⟩ := h1
    cases e1
    obtain ⟨v2, e2, m2⟩ := h2
    cases e2
    cases h3
    cases h4
    exact ⟨⟨a0, a1, a2, a3, a4⟩, u2, rfl, m1, m2⟩
theorem cl_Gu : Tryz.prog.cellsOf 91 = 3 := by kernel_rfl
theorem by_Gu : 1 ≤ Tryz.prog.bytesOf 91 := of_decide_eq_true (by kernel_rfl)
set_option maxRecDepth 100000 in
theorem opn_Gu : Opn enc W 91 (cGuard W.heap.size) := by
  intro fuel cs d p h hw
  have hl := opn_len Tryz.underlying91 h
  rw [cl_Gu] at hl
  obtain ⟨a0, h0⟩ := opn_f Tryz.underlying91 h hw 0 rfl opn_lTe
  obtain ⟨a1, h1⟩ := opn_f Tryz.underlying91 h hw 1 rfl (opn_i Tryz.underlying89)
  obtain ⟨a2, h2⟩ := opn_f Tryz.underlying91 h hw 2 rfl opn_lTe
  clear h hw
  match cs, hl with
  | [u0, u1, u2], _ =>
    simp only [cl_iOp, cl_lTe, List.getElem_toArray, List.getElem_cons_zero, List.getElem_cons_succ, List.drop_zero, List.drop_succ_cons, List.take_succ_cons, List.take_zero] at h0 h1 h2
    obtain ⟨v0, e0, m0⟩ := h0
    cases e0
    cases h1
    obtain ⟨v2, e2, m2⟩ := h2
    cases e2
    exact ⟨⟨a0, a1, a2⟩, u0, u2, rfl, m0, m2⟩
theorem cl_Pr : Tryz.prog.cellsOf 93 = 11 := by kernel_rfl
theorem by_Pr : 1 ≤ Tryz.prog.bytesOf 93 := of_decide_eq_true (by kernel_rfl)
set_option maxRecDepth 100000 in
theorem opn_Pr : Opn enc W 93 (cPrem W.heap.size) := by
  intro fuel cs d p h hw
  have hl := opn_len Tryz.underlying93 h
  rw [cl_Pr] at hl
  obtain ⟨a0, h0⟩ := opn_f Tryz.underlying93 h hw 0 rfl (opn_i Tryz.underlying87)
  obtain ⟨a1, h1⟩ := opn_f Tryz.underlying93 h hw 1 rfl opn_Li
  obtain ⟨a2, h2⟩ := opn_f Tryz.underlying93 h hw 2 rfl opn_Gu
  obtain ⟨a3, h3⟩ := opn_f Tryz.underlying93 h hw 3 rfl (opn_s Tryz.underlying9)
  obtain ⟨a4, h4⟩ := opn_f Tryz.underlying93 h hw 4 rfl (opn_s Tryz.underlying9)
  clear h hw
  match cs, hl with
  | [u0, u1, u2, u3, u4, u5, u6, u7, u8, u9, u10], _ =>
    simp only [cl_Gu, cl_Li, cl_iKind, cl_s, List.getElem_toArray, List.getElem_cons_zero, List.getElem_cons_succ, List.drop_zero, List.drop_succ_cons, List.take_succ_cons, List.take_zero] at h0 h1 h2 h3 h4
    cases h0
    obtain ⟨e3, m3⟩ := h3
    cases e3
    obtain ⟨e4, m4⟩ := h4
    cases e4
    exact ⟨⟨a0, a1, a2, a3, a4⟩, _, _, rfl, h1, h2, m3, m4⟩
theorem opn_lPr : Opn enc W 82 (cL W.heap.size 11 (cPrem W.heap.size)) := opn_l Tryz.underlying82 cl_Pr (by decide) by_Pr opn_Pr
theorem cl_R : Tryz.prog.cellsOf 86 = 11 := by kernel_rfl
theorem by_R : 1 ≤ Tryz.prog.bytesOf 86 := of_decide_eq_true (by kernel_rfl)
set_option maxRecDepth 100000 in
theorem opn_R : Opn enc W 86 (cRule W.heap.size) := by
  intro fuel cs d p h hw
  have hl := opn_len Tryz.underlying86 h
  rw [cl_R] at hl
  obtain ⟨a0, h0⟩ := opn_f Tryz.underlying86 h hw 0 rfl (opn_s Tryz.underlying9)
  obtain ⟨a1, h1⟩ := opn_f Tryz.underlying86 h hw 1 rfl (opn_s Tryz.underlying9)
  obtain ⟨a2, h2⟩ := opn_f Tryz.underlying86 h hw 2 rfl (opn_i Tryz.underlying83)
  obtain ⟨a3, h3⟩ := opn_f Tryz.underlying86 h hw 3 rfl (opn_i Tryz.underlying83)
  obtain ⟨a4, h4⟩ := opn_f Tryz.underlying86 h hw 4 rfl opn_lPr
  obtain ⟨a5, h5⟩ := opn_f Tryz.underlying86 h hw 5 rfl (opn_i Tryz.underlying84)
  obtain ⟨a6, h6⟩ := opn_f Tryz.underlying86 h hw 6 rfl opn_Li
  clear h hw
  match cs, hl with
  | [u0, u1, u2, u3, u4, u5, u6, u7, u8, u9, u10], _ =>
    simp only [cl_Li, cl_iArrow, cl_iDate, cl_lPr, cl_s, List.getElem_toArray, List.getElem_cons_zero, List.getElem_cons_succ, List.drop_zero, List.drop_succ_cons, List.take_succ_cons, List.take_zero] at h0 h1 h2 h3 h4 h5 h6
    obtain ⟨e0, m0⟩ := h0
    cases e0
    obtain ⟨e1, m1⟩ := h1
    cases e1
    cases h2
    cases h3
    obtain ⟨v4, e4, m4⟩ := h4
    cases e4
    cases h5
    exact ⟨⟨a0, a1, a2, a3, a4, a5, a6⟩, u4, _, rfl, m0, m1, m4, h6⟩
theorem cl_P : Tryz.prog.cellsOf 115 = 4 := by kernel_rfl
theorem by_P : 1 ≤ Tryz.prog.bytesOf 115 := of_decide_eq_true (by kernel_rfl)
set_option maxRecDepth 100000 in
theorem opn_P : Opn enc W 115 (cPred W.heap.size) := by
  intro fuel cs d p h hw
  have hl := opn_len Tryz.underlying115 h
  rw [cl_P] at hl
  obtain ⟨a0, h0⟩ := opn_f Tryz.underlying115 h hw 0 rfl (opn_s Tryz.underlying9)
  obtain ⟨a1, h1⟩ := opn_f Tryz.underlying115 h hw 1 rfl (opn_i Tryz.underlying112)
  obtain ⟨a2, h2⟩ := opn_f Tryz.underlying115 h hw 2 rfl opn_S
  obtain ⟨a3, h3⟩ := opn_f Tryz.underlying115 h hw 3 rfl opn_V
  clear h hw
  match cs, hl with
  | [u0, u1, u2, u3], _ =>
    simp only [cl_iSort, cl_lS, cl_lV, cl_s, List.getElem_toArray, List.getElem_cons_zero, List.getElem_cons_succ, List.drop_zero, List.drop_succ_cons, List.take_succ_cons, List.take_zero] at h0 h1 h2 h3
    obtain ⟨e0, m0⟩ := h0
    cases e0
    cases h1
    obtain ⟨v2, e2, m2⟩ := h2
    cases e2
    obtain ⟨v3, e3, m3⟩ := h3
    cases e3
    exact ⟨⟨a0, a1, a2, a3⟩, u2, u3, rfl, m0, m2, m3⟩
theorem cl_T : Tryz.prog.cellsOf 192 = 5 := by kernel_rfl
theorem by_T : 1 ≤ Tryz.prog.bytesOf 192 := of_decide_eq_true (by kernel_rfl)
set_option maxRecDepth 100000 in
theorem opn_T : Opn enc W 192 (cTotal W.heap.size) := by
  intro fuel cs d p h hw
  have hl := opn_len Tryz.underlying192 h
  rw [cl_T] at hl
  obtain ⟨a0, h0⟩ := opn_f Tryz.underlying192 h hw 0 rfl (opn_s Tryz.underlying9)
  obtain ⟨a1, h1⟩ := opn_f Tryz.underlying192 h hw 1 rfl (opn_s Tryz.underlying9)
  obtain ⟨a2, h2⟩ := opn_f Tryz.underlying192 h hw 2 rfl opn_S
  obtain ⟨a3, h3⟩ := opn_f Tryz.underlying192 h hw 3 rfl (opn_b Tryz.underlying4)
  obtain ⟨a4, h4⟩ := opn_f Tryz.underlying192 h hw 4 rfl (opn_i Tryz.underlying32)
  clear h hw
  match cs, hl with
  | [u0, u1, u2, u3, u4], _ =>
    simp only [cl_b, cl_iMoney, cl_lS, cl_s, List.getElem_toArray, List.getElem_cons_zero, List.getElem_cons_succ, List.drop_zero, List.drop_succ_cons, List.take_succ_cons, List.take_zero] at h0 h1 h2 h3 h4
    obtain ⟨e0, m0⟩ := h0
    cases e0
    obtain ⟨e1, m1⟩ := h1
    cases e1
    obtain ⟨v2, e2, m2⟩ := h2
    cases e2
    cases h3
    cases h4
    exact ⟨⟨a0, a1, a2, a3, a4⟩, u2, rfl, m0, m1, m2⟩
theorem opn_C : Opn enc W 22 (cClass W.heap.size) := fun f cs d p h hw => opn_S f cs d p h hw
theorem opn_lM : Opn enc W 23 (cL W.heap.size 2 cM) := opn_l Tryz.underlying23 cl_M (by decide) by_M opn_M
theorem opn_lE : Opn enc W 28 (cL W.heap.size 2 cM) := opn_l Tryz.underlying28 cl_E (by decide) by_E opn_E
theorem opn_lSr : Opn enc W 26 (cL W.heap.size 2 cSrc) := opn_l Tryz.underlying26 cl_Sr (by decide) by_Sr opn_Sr
theorem opn_lR : Opn enc W 27 (cL W.heap.size 11 (cRule W.heap.size)) := opn_l Tryz.underlying27 cl_R (by decide) by_R opn_R
theorem opn_lP : Opn enc W 24 (cL W.heap.size 4 (cPred W.heap.size)) := opn_l Tryz.underlying24 cl_P (by decide) by_P opn_P
theorem opn_lT : Opn enc W 29 (cL W.heap.size 5 (cTotal W.heap.size)) := opn_l Tryz.underlying29 cl_T (by decide) by_T opn_T
theorem opn_lC : Opn enc W 25 (cL W.heap.size 1 (cClass W.heap.size)) := opn_l Tryz.underlying25 cl_lS (by decide) by_lS opn_C
theorem cl_St : Tryz.prog.cellsOf 31 = 9 := by kernel_rfl
set_option maxRecDepth 100000 in
theorem arg_statute {base : Nat} {ts : List TypeId} {ds : List (DataW H)} {j : Nat} {v : Value} {d : DataW H} {p : List MemPlace} (hv : Value.okWide Tryz.prog W .any base 31 v) (h : DataW.Trod enc Tryz.prog W 0 (fun _ => true) true 31 v d p) (hsz : (DataW.weightsEach Tryz.prog ts ds).all (· ≤ reachBytes) = true) (ht : ts[j]? = some 31) (hd : ds[j]? = some d) : ∃ S st, v = St9.agg st ∧ SR W.heap.size W S st := by
  obtain ⟨cs, rfl, hl⟩ := okWide_struct Tryz.underlying31 hv
  obtain ⟨fuel, h⟩ := h
  have hw : ∀ n ∈ d.weights Tryz.prog 31, n ≤ reachBytes := fun n hn => of_decide_eq_true (List.all_eq_true.1 hsz _ (DataW.weights_mem_each ht hd n hn))
  rw [cl_St] at hl
  obtain ⟨a0, h0⟩ := opn_f Tryz.underlying31 h hw 0 rfl (opn_s Tryz.underlying9)
  obtain ⟨a1, h1⟩ := opn_f Tryz.underlying31 h hw 1 rfl opn_S
  obtain ⟨a2, h2⟩ := opn_f Tryz.underlying31 h hw 2 rfl opn_lM
  obtain ⟨a3, h3⟩ := opn_f Tryz.underlying31 h hw 3 rfl opn_lP
  obtain ⟨a4, h4⟩ := opn_f Tryz.underlying31 h hw 4 rfl opn_lC
  obtain ⟨a5, h5⟩ := opn_f Tryz.underlying31 h hw 5 rfl opn_lSr
  obtain ⟨a6, h6⟩ := opn_f Tryz.underlying31 h hw 6 rfl opn_lR
  obtain ⟨a7, h7⟩ := opn_f Tryz.underlying31 h hw 7 rfl opn_lE
  obtain ⟨a8, h8⟩ := opn_f Tryz.underlying31 h hw 8 rfl opn_lT
  clear h hw hsz
  obtain ⟨cs⟩ := cs
  match cs, hl with
  | [u0, u1, u2, u3, u4, u5, u6, u7, u8], _ =>
    simp only [Value.cells, cl_lC, cl_lE, cl_lM, cl_lP, cl_lR, cl_lS, cl_lSr, cl_lT, cl_s, List.getElem_toArray, List.getElem_cons_zero, List.getElem_cons_succ, List.drop_zero, List.drop_succ_cons, List.take_succ_cons, List.take_zero] at h0 h1 h2 h3 h4 h5 h6 h7 h8
    obtain ⟨e0, m0⟩ := h0
    cases e0
    obtain ⟨v1, e1, m1⟩ := h1
    cases e1
    obtain ⟨v2, e2, m2⟩ := h2
    cases e2
    obtain ⟨v3, e3, m3⟩ := h3
    cases e3
    obtain ⟨v4, e4, m4⟩ := h4
    cases e4
    obtain ⟨v5, e5, m5⟩ := h5
    cases e5
    obtain ⟨v6, e6, m6⟩ := h6
    cases e6
    obtain ⟨v7, e7, m7⟩ := h7
    cases e7
    obtain ⟨v8, e8, m8⟩ := h8
    cases e8
    exact ⟨⟨a0, a1, a2, a3, a4, a5, a6, a7, a8⟩, ⟨str a0, u1, u2, u3, u4, u5, u6, u7, u8⟩, rfl, ⟨_, rfl⟩, m1, m2, m3, m4, m5, m6, m7, m8⟩
end
end Go.Proofs.YtfnobccminhjpabGreat
/- How long a statute's lists may be. -/
namespace Go.Proofs.YtfnobccminhjpabGreat
open Go.ChangeShapes Go.WideShapes Go.RowKit Go.Deep

/-- A list's length: its things have 24 bytes and more. -/
def cLn (_ : World) (n : Nat) (xs : List Value) : Prop := ∃ a c, xs = [.slice a n c] ∧ n * 24 ≤ 140737488351232
structure Lens (S : StatM) : Prop where
  members : S.members.length * 24 ≤ 140737488351232
  preds : S.preds.length * 24 ≤ 140737488351232
  classes : S.classes.length * 24 ≤ 140737488351232
  sources : S.sources.length * 24 ≤ 140737488351232
  rules : S.rules.length * 24 ≤ 140737488351232
  totals : S.totals.length * 24 ≤ 140737488351232
section
variable {H : Type} {enc : TypeId × Value → H} {W : World}
theorem opn_n {t e : TypeId} (ht : Tryz.prog.underlying t = some (.slice e)) (hb : 24 ≤ Tryz.prog.bytesOf e) : Opn enc W t cLn := by
  intro fuel cs d p h hw
  rcases open_slice ht h with ⟨rfl, _⟩ | ⟨x, len, cap, m, n, D, Pl, rfl, _, hl, hm, hmm, hx, hel⟩
  · exact ⟨0, _, _, rfl, by omega⟩
  · simp only [Prod.mk.injEq] at hx
    obtain ⟨rfl, _⟩ := hx
    have hm2 : m = cap := by simpa using hmm
    simp only [DataW.weights, ht, List.mem_cons, List.mem_append] at hw
    have hs := hw _ (.inl rfl)
    simp only [List.length_map, List.length_range, reachBytes] at hs
    have hlen : len * 24 ≤ (len + (m - len)) * Tryz.prog.bytesOf e := Nat.mul_le_mul (by omega) hb
    exact ⟨len, _, _, rfl, by omega⟩
theorem bz_M : 24 ≤ Tryz.prog.bytesOf 119 := of_decide_eq_true (by kernel_rfl)
theorem bz_P : 24 ≤ Tryz.prog.bytesOf 115 := of_decide_eq_true (by kernel_rfl)
theorem bz_C : 24 ≤ Tryz.prog.bytesOf 22 := of_decide_eq_true (by kernel_rfl)
theorem bz_Sr : 24 ≤ Tryz.prog.bytesOf 121 := of_decide_eq_true (by kernel_rfl)
theorem bz_R : 24 ≤ Tryz.prog.bytesOf 86 := of_decide_eq_true (by kernel_rfl)
theorem bz_T : 24 ≤ Tryz.prog.bytesOf 192 := of_decide_eq_true (by kernel_rfl)
theorem len_of {α : Type} {N k : Nat} {c : World → α → List Value → Prop} {w : World} {l : List α} {v : Value} {n : Nat} (h : RR N k c w l v) (hn : cLn w n [v]) : l.length * 24 ≤ 140737488351232 := by
  obtain ⟨a, cap, e, _⟩ := h
  obtain ⟨a', c', e', hb⟩ := hn
  rw [e] at e'
  cases e'
  exact hb
set_option maxRecDepth 100000 in
theorem arg_lens {base : Nat} {ts : List TypeId} {ds : List (DataW H)} {j : Nat} {st : St9} {S : StatM} {d : DataW H} {p : List MemPlace} (hv : Value.okWide Tryz.prog W .any base 31 st.agg) (h : DataW.Trod enc Tryz.prog W 0 (fun _ => true) true 31 st.agg d p) (hsz : (DataW.weightsEach Tryz.prog ts ds).all (· ≤ reachBytes) = true) (ht : ts[j]? = some 31) (hd : ds[j]? = some d) (hS : SR W.heap.size W S st) : Lens S := by
  obtain ⟨cs, hcs, hl⟩ := okWide_struct Tryz.underlying31 hv
  cases hcs
  obtain ⟨fuel, h⟩ := h
  have hw : ∀ n ∈ d.weights Tryz.prog 31, n ≤ reachBytes := fun n hn => of_decide_eq_true (List.all_eq_true.1 hsz _ (DataW.weights_mem_each ht hd n hn))
  obtain ⟨a2, h2⟩ := opn_f Tryz.underlying31 h hw 2 rfl (opn_n Tryz.underlying23 bz_M)
  obtain ⟨a3, h3⟩ := opn_f Tryz.underlying31 h hw 3 rfl (opn_n Tryz.underlying24 bz_P)
  obtain ⟨a4, h4⟩ := opn_f Tryz.underlying31 h hw 4 rfl (opn_n Tryz.underlying25 bz_C)
  obtain ⟨a5, h5⟩ := opn_f Tryz.underlying31 h hw 5 rfl (opn_n Tryz.underlying26 bz_Sr)
  obtain ⟨a6, h6⟩ := opn_f Tryz.underlying31 h hw 6 rfl (opn_n Tryz.underlying27 bz_R)
  obtain ⟨a8, h8⟩ := opn_f Tryz.underlying31 h hw 8 rfl (opn_n Tryz.underlying29 bz_T)
  clear h hw hsz
  simp only [Value.cells, cl_lC, cl_lM, cl_lP, cl_lR, cl_lSr, cl_lT, List.getElem_toArray, List.getElem_cons_zero, List.getElem_cons_succ, List.drop_zero, List.drop_succ_cons, List.take_succ_cons, List.take_zero] at h2 h3 h4 h5 h6 h8
  exact ⟨len_of hS.members h2, len_of hS.preds h3, len_of hS.classes h4, len_of hS.sources h5, len_of hS.rules h6, len_of hS.totals h8⟩
end
end Go.Proofs.YtfnobccminhjpabGreat
