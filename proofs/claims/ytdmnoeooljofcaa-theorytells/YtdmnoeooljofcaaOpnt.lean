/- A theory among the arguments, opened. -/
import Derived.Test.YtdmnoeooljofcaaCheck
import Derived.OpenShut
import Derived.SizedLaws
import Derived.Deep.Strs
import Derived.Deep.Slices
namespace Go.Proofs.Ytdmnoeooljofcaa
open Go.ChangeShapes Go.WideShapes Go.RowKit Go.Deep

theorem weightsAll_mem {H : Type} {P : Program} {e : TypeId} : ∀ {ds : List (DataW H)} {d : DataW H} {n : Nat}, d ∈ ds → n ∈ d.weights P e → n ∈ DataW.weightsAll P e ds := by
  intro ds
  induction ds with
  | nil => intro d n h; simp at h
  | cons x r ih =>
    intro d n h hn
    simp only [DataW.weightsAll, List.mem_append]
    rcases List.mem_cons.1 h with e1 | e1
    · subst e1; exact .inl hn
    · exact .inr (ih e1 hn)

section
variable {H : Type} {enc : TypeId × Value → H} {W : World}
/-- What of this type is read within reach has this form. -/
def Opn {α : Type} (enc : TypeId × Value → H) (W : World) (t : TypeId) (c : World → α → List Value → Prop) : Prop :=
  ∀ fuel cs d p, DataW.trod enc Try.prog W 0 (fun _ => true) true fuel t cs = some (d, p) → (∀ n ∈ d.weights Try.prog t, n ≤ reachBytes) → ∃ a, c W a cs
/-- A list in one cell. -/
def cQ {α : Type} (N k : Nat) (c : World → α → List Value → Prop) (w : World) (l : List α) (xs : List Value) : Prop := ∃ v, xs = [v] ∧ RR N k c w l v
theorem opn_i {t : TypeId} (ht : Try.prog.underlying t = some (.int .i64)) : Opn enc W t cI := by
  intro fuel cs d p h _
  obtain ⟨k, rfl, _, _⟩ := DataW.trod_int ht h
  exact ⟨k, rfl⟩
theorem opn_l {α : Type} {t e : TypeId} {k : Nat} {c : World → α → List Value → Prop} (ht : Try.prog.underlying t = some (.slice e)) (hk : Try.prog.cellsOf e = k) (hk1 : 0 < k) (hb : 1 ≤ Try.prog.bytesOf e) (ho : Opn enc W e c) : Opn enc W t (cQ W.heap.size k c) := by
  intro fuel cs d p h hw
  rcases open_slice ht h with ⟨rfl, _⟩ | ⟨x, len, cap, m, n, D, Pl, rfl, _, hl, hm, hmm, hx, hel⟩
  · exact ⟨[], _, rfl, none, 0, rfl, Nat.zero_le _, Nat.zero_le _, fun i x hi => by simp at hi⟩
  · simp only [Prod.mk.injEq] at hx
    obtain ⟨rfl, _⟩ := hx
    have hm2 : m = cap := by simpa using hmm
    simp only [DataW.weights, ht, List.mem_cons, List.mem_append] at hw
    have hs := hw _ (.inl rfl)
    simp only [List.length_map, List.length_range, reachBytes] at hs
    have hlen : len ≤ 140737488351232 := by
      have : len * 1 ≤ (len + (m - len)) * Try.prog.bytesOf e := Nat.mul_le_mul (by omega) hb
      omega
    rw [hk] at hel
    have each : ∀ i : _root_.Fin len, ∃ (a : α) (xs : List Value), xs.length = k ∧ (∀ j, j < k → W.cell? ((x.add (i.1 * k)).add j) = xs[j]?) ∧ c W a xs := by
      intro i
      obtain ⟨cs', h1, h2⟩ := hel i.1 (by omega)
      obtain ⟨_, hlen, hcell⟩ := World.cells?_some h1
      obtain ⟨a, ha⟩ := ho _ _ _ _ h2 fun q hq => hw q (.inr (.inl (weightsAll_mem (List.mem_map.2 ⟨i.1, by simp, rfl⟩) hq)))
      exact ⟨a, cs', hlen, hcell, ha⟩
    obtain ⟨b, off, spot⟩ := x
    refine ⟨List.ofFn fun i => Classical.choose (each i), _, rfl, some ⟨b, off, spot⟩, cap, by simp, by simpa using hl, by simpa using hlen, ?_⟩
    intro i a hi
    have hil : i < len := by
      apply Classical.byContradiction
      intro hn
      rw [List.getElem?_eq_none (by simp; omega)] at hi
      cases hi
    have ha : Classical.choose (each ⟨i, hil⟩) = a := by
      rw [List.getElem?_eq_getElem (by simp; exact hil)] at hi
      simpa using hi
    obtain ⟨xs, h1, h2, h3⟩ := Classical.choose_spec (each ⟨i, hil⟩)
    rw [ha] at h3
    have h0 := h2 0 hk1
    rw [List.getElem?_eq_getElem (by omega)] at h0
    have hspot : spot = none := by
      obtain ⟨_, ys, y1, y2, _⟩ := each ⟨0, by omega⟩
      have z0 := y2 0 hk1
      rw [List.getElem?_eq_getElem (by omega)] at z0
      have := World.cell?_spot z0
      simpa [Addr.add] using this
    subst hspot
    rw [Addr.add_lit, Addr.add_lit] at h0
    refine ⟨b, off, xs, rfl, World.block_lt_of_cell? W _ h0, h1, fun j u hu => ?_, h3⟩
    have hj : j < k := by
      apply Classical.byContradiction
      intro hn
      rw [List.getElem?_eq_none (by omega)] at hu
      cases hu
    have := h2 j hj
    rw [Addr.add_lit, Addr.add_lit, hu] at this
    exact this
/-- One field of a struct. -/
theorem opn_f {t : TypeId} {fs : Array Field} (ht : Try.prog.underlying t = some (.struct fs)) {fuel : Nat} {cs : List Value} {d : DataW H} {p : List MemPlace} (h : DataW.trod enc Try.prog W 0 (fun _ => true) true fuel t cs = some (d, p)) (hw : ∀ n ∈ d.weights Try.prog t, n ≤ reachBytes) (i : Nat) {f : Field} (hf : fs[i]? = some f) {α : Type} {c : World → α → List Value → Prop} (ho : Opn enc W f.type c) : ∃ a, c W a ((cs.drop f.offset).take (Try.prog.cellsOf f.type)) := by
  obtain ⟨xs, n, _, hx, _, hl, hi⟩ := DataW.trod_struct ht h
  simp only [Prod.mk.injEq] at hx
  obtain ⟨rfl, _⟩ := hx
  have hlt : i < fs.size := by
    apply Classical.byContradiction
    intro hn
    rw [Array.getElem?_eq_none (by omega)] at hf
    cases hf
  have h1 := hi i f hf
  have h2 : xs[i]? = some xs[i] := List.getElem?_eq_getElem (by omega)
  rw [h2] at h1
  simp only [DataW.weights, ht] at hw
  refine ho _ _ xs[i].1 xs[i].2 h1 fun q hq => hw q (DataW.weights_mem_each (j := i) (t := f.type) (d := xs[i].1) ?_ ?_ q hq)
  · rw [List.getElem?_map, Array.getElem?_toList, hf]; rfl
  · rw [List.getElem?_map, h2]; rfl
theorem opn_len {t : TypeId} {fs : Array Field} (ht : Try.prog.underlying t = some (.struct fs)) {fuel : Nat} {cs : List Value} {d : DataW H} {p : List MemPlace} (h : DataW.trod enc Try.prog W 0 (fun _ => true) true fuel t cs = some (d, p)) : cs.length = Try.prog.cellsOf t := by
  obtain ⟨xs, n, _, _, hl, _⟩ := DataW.trod_struct ht h
  exact hl
theorem cl_i : Try.prog.cellsOf 3 = 1 := by kernel_rfl
theorem by_i : 1 ≤ Try.prog.bytesOf 3 := of_decide_eq_true (by kernel_rfl)
theorem cl_k : Try.prog.cellsOf 68 = 1 := by kernel_rfl
theorem cl_I : Try.prog.cellsOf 38 = 1 := by kernel_rfl
theorem by_I : 1 ≤ Try.prog.bytesOf 38 := of_decide_eq_true (by kernel_rfl)
theorem cl_L : Try.prog.cellsOf 24 = 1 := by kernel_rfl
theorem cl_lR : Try.prog.cellsOf 25 = 1 := by kernel_rfl
theorem cl_R : Try.prog.cellsOf 70 = 3 := by kernel_rfl
theorem by_R : 1 ≤ Try.prog.bytesOf 70 := of_decide_eq_true (by kernel_rfl)
theorem cl_T : Try.prog.cellsOf 27 = 4 := by kernel_rfl
theorem opn_I : Opn enc W 38 (cQ W.heap.size 1 cI) := opn_l Try.underlying38 cl_i (by decide) by_i (opn_i Try.underlying3)
theorem opn_I2 : Opn enc W 38 (cL W.heap.size) := fun f cs d p h hw => opn_I f cs d p h hw
theorem opn_L : Opn enc W 24 (cQ W.heap.size 1 (cL W.heap.size)) := opn_l Try.underlying24 cl_I (by decide) by_I opn_I2
set_option maxRecDepth 100000 in
theorem opn_R : Opn enc W 70 (cR W.heap.size) := by
  intro fuel cs d p h hw
  have hl := opn_len Try.underlying70 h
  rw [cl_R] at hl
  obtain ⟨a0, h0⟩ := opn_f Try.underlying70 h hw 0 rfl (opn_i Try.underlying68)
  obtain ⟨a1, h1⟩ := opn_f Try.underlying70 h hw 1 rfl (opn_i Try.underlying3)
  obtain ⟨a2, h2⟩ := opn_f Try.underlying70 h hw 2 rfl opn_I
  clear h hw
  match cs, hl with
  | [u0, u1, u2], _ =>
    simp only [cl_k, cl_i, cl_I, List.getElem_toArray, List.getElem_cons_zero, List.getElem_cons_succ, List.drop_zero, List.drop_succ_cons, List.take_succ_cons, List.take_zero] at h0 h1 h2
    cases h0
    cases h1
    obtain ⟨v2, e2, m2⟩ := h2
    cases e2
    exact ⟨⟨a0, a1, a2⟩, u2, rfl, m2⟩
theorem opn_lR : Opn enc W 25 (cQ W.heap.size 3 (cR W.heap.size)) := opn_l Try.underlying25 cl_R (by decide) by_R opn_R
set_option maxRecDepth 100000 in
theorem arg_theory {base : Nat} {ts : List TypeId} {ds : List (DataW H)} {j : Nat} {v : Value} {d : DataW H} {p : List MemPlace} (hv : Value.okWide Try.prog W .any base 27 v) (h : DataW.Trod enc Try.prog W 0 (fun _ => true) true 27 v d p) (hsz : (DataW.weightsEach Try.prog ts ds).all (· ≤ reachBytes) = true) (ht : ts[j]? = some 27) (hd : ds[j]? = some d) : ∃ T fa fc ra rc ba bc, v = tv T fa fc ra rc ba bc ∧ TA W.heap.size W T fa fc ra rc ba bc := by
  obtain ⟨cs, rfl, hl⟩ := okWide_struct Try.underlying27 hv
  obtain ⟨fuel, h⟩ := h
  have hw : ∀ n ∈ d.weights Try.prog 27, n ≤ reachBytes := fun n hn => of_decide_eq_true (List.all_eq_true.1 hsz _ (DataW.weights_mem_each ht hd n hn))
  rw [cl_T] at hl
  obtain ⟨a0, h0⟩ := opn_f Try.underlying27 h hw 0 rfl (opn_i Try.underlying3)
  obtain ⟨a1, h1⟩ := opn_f Try.underlying27 h hw 1 rfl opn_L
  obtain ⟨a2, h2⟩ := opn_f Try.underlying27 h hw 2 rfl opn_lR
  obtain ⟨a3, h3⟩ := opn_f Try.underlying27 h hw 3 rfl opn_L
  clear h hw hsz
  obtain ⟨cs⟩ := cs
  match cs, hl with
  | [u0, u1, u2, u3], _ =>
    simp only [Value.cells, cl_i, cl_L, cl_lR, List.getElem_toArray, List.getElem_cons_zero, List.getElem_cons_succ, List.drop_zero, List.drop_succ_cons, List.take_succ_cons, List.take_zero] at h0 h1 h2 h3
    cases h0
    obtain ⟨v1, e1, m1⟩ := h1
    cases e1
    obtain ⟨v2, e2, m2⟩ := h2
    cases e2
    obtain ⟨v3, e3, m3⟩ := h3
    cases e3
    obtain ⟨b1, c1, rfl, _⟩ := m1.form
    obtain ⟨b2, c2, rfl, _⟩ := m2.form
    obtain ⟨b3, c3, rfl, _⟩ := m3.form
    exact ⟨⟨a0, a1, a2, a3⟩, b1, c1, b2, c2, b3, c3, rfl, m1, m2, m3⟩
set_option maxRecDepth 100000 in
theorem arg_ints {base : Nat} {ts : List TypeId} {ds : List (DataW H)} {j : Nat} {v : Value} {d : DataW H} {p : List MemPlace} (hv : Value.okWide Try.prog W .any base 38 v) (h : DataW.Trod enc Try.prog W 0 (fun _ => true) true 38 v d p) (hsz : (DataW.weightsEach Try.prog ts ds).all (· ≤ reachBytes) = true) (ht : ts[j]? = some 38) (hd : ds[j]? = some d) : ∃ (F : List Int) (ea : Option Addr) (ec : Nat), v = .slice ea F.length ec ∧ Ints W.heap.size W F (.slice ea F.length ec) := by
  have hw : ∀ n ∈ d.weights Try.prog 38, n ≤ reachBytes := fun n hn => of_decide_eq_true (List.all_eq_true.1 hsz _ (DataW.weights_mem_each ht hd n hn))
  obtain ⟨a, n, c, rfl⟩ := okWide_slice Try.underlying38 hv
  obtain ⟨fuel, h⟩ := h
  obtain ⟨F, v', e, hr⟩ := opn_I fuel _ d p h hw
  cases e
  obtain ⟨ea, ec, e2, _⟩ := hr.form
  rw [e2] at hr ⊢
  exact ⟨F, ea, ec, rfl, hr⟩
end
end Go.Proofs.Ytdmnoeooljofcaa
