/- A theory, and a list of numbers, among the arguments, opened by the bound of the second form. -/
import Derived.Test.YtanonjggegibkaaRows
import Derived.Test.YtanonjggegibkaaOpnt
import Derived.JoinedCond
namespace Go.Proofs.Ytanonjggegibkaa
open Go.ChangeShapes Go.WideShapes Go.RowKit Go.Deep

theorem bulk_part {H : Type} {d : DataW H} : ∀ {l : List (DataW H)}, d ∈ l → Rows.uptoBulk d ≤ Rows.uptoBulkAll l
  | x :: r, h => by
    rw [Rows.uptoBulkAll]
    rcases List.mem_cons.1 h with e | e
    · rw [e]; omega
    · have := bulk_part e; omega

theorem bulk_pos {H : Type} (d : DataW H) : 0 < Rows.uptoBulk d := by
  cases d with
  | lit l => cases l <;> (rw [Rows.uptoBulk]; try omega)
             all_goals simp
  | _ => rw [Rows.uptoBulk]; omega

theorem bulk_count {H : Type} : ∀ l : List (DataW H), l.length ≤ Rows.uptoBulkAll l
  | [] => by simp
  | x :: r => by
    have h1 := bulk_count r
    have h2 := bulk_pos x
    rw [Rows.uptoBulkAll, List.length_cons]
    omega

theorem bulk_limit {H : Type} {l : List (DataW H)} (hk : Rows.uptoSmall H l = true) : Rows.uptoBulkAll l ≤ 1048576 := of_decide_eq_true hk

section
variable {H : Type} {enc : TypeId × Value → H} {W : World}
/-- What of this type is read within reach has this form. -/
def Opu {α : Type} (enc : TypeId × Value → H) (W : World) (t : TypeId) (c : World → α → List Value → Prop) : Prop :=
  ∀ fuel cs d p, DataW.trod enc Try.prog W 0 (fun _ => true) true fuel t cs = some (d, p) → Rows.uptoBulk d ≤ 1048576 → ∃ a, c W a cs
theorem opu_i {t : TypeId} (ht : Try.prog.underlying t = some (.int .i64)) : Opu enc W t cI := by
  intro fuel cs d p h _
  obtain ⟨k, rfl, _, _⟩ := DataW.trod_int ht h
  exact ⟨k, rfl⟩
/-- A list in one cell, not too long. -/
def cU {α : Type} (N k : Nat) (c : World → α → List Value → Prop) (w : World) (l : List α) (xs : List Value) : Prop := cQ N k c w l xs ∧ l.length ≤ 1048576
theorem opu_u {α : Type} {t e : TypeId} {k : Nat} {c : World → α → List Value → Prop} (ht : Try.prog.underlying t = some (.slice e)) (hk : Try.prog.cellsOf e = k) (hk1 : 0 < k) (ho : Opu enc W e c) : Opu enc W t (cU W.heap.size k c) := by
  intro fuel cs d p h hw
  rcases open_slice ht h with ⟨rfl, _⟩ | ⟨x, len, cap, m, n, D, Pl, rfl, _, hl, hm, hmm, hx, hel⟩
  · exact ⟨[], ⟨_, rfl, none, 0, rfl, Nat.zero_le _, Nat.zero_le _, fun i x hi => by simp at hi⟩, Nat.zero_le _⟩
  · simp only [Prod.mk.injEq] at hx
    obtain ⟨rfl, _⟩ := hx
    have hm2 : m = cap := by simpa using hmm
    rw [Rows.uptoBulk] at hw
    have hs := bulk_count ((List.range len).map D)
    simp only [List.length_map, List.length_range] at hs
    have hlen : len ≤ 1048576 := by omega
    rw [hk] at hel
    have each : ∀ i : Fin len, ∃ (a : α) (xs : List Value), xs.length = k ∧ (∀ j, j < k → W.cell? ((x.add (i.1 * k)).add j) = xs[j]?) ∧ c W a xs := by
      intro i
      obtain ⟨cs', h1, h2⟩ := hel i.1 (by omega)
      obtain ⟨_, hlen, hcell⟩ := World.cells?_some h1
      have hb := bulk_part (d := D i.1) (l := (List.range len).map D) (List.mem_map.2 ⟨i.1, by simp, rfl⟩)
      obtain ⟨a, ha⟩ := ho _ _ _ _ h2 (by omega)
      exact ⟨a, cs', hlen, hcell, ha⟩
    obtain ⟨b, off, spot⟩ := x
    refine ⟨List.ofFn fun i => Classical.choose (each i), ⟨_, rfl, some ⟨b, off, spot⟩, cap, by simp, by simpa using hl, by simp; omega, ?_⟩, by simpa using hlen⟩
    intro i a hi
    have hil : i < len := by
      apply Classical.byContradiction
      intro hn
      rw [List.getElem?_eq_none (by simp; omega)] at hi
      cases hi
    have ha : Classical.choose (each ⟨i, hil⟩) = a := by
      rw [List.getElem?_eq_getElem (by simp; exact hil)] at hi
      simpa using hi
    obtain ⟨xs, h1, h2, h3⟩ := Classical.choose_spec (each ⟨i, hil⟩)
    rw [ha] at h3
    have h0 := h2 0 hk1
    rw [List.getElem?_eq_getElem (by omega)] at h0
    have hspot : spot = none := by
      obtain ⟨_, ys, y1, y2, _⟩ := each ⟨0, by omega⟩
      have z0 := y2 0 hk1
      rw [List.getElem?_eq_getElem (by omega)] at z0
      have := World.cell?_spot z0
      simpa [Addr.add] using this
    subst hspot
    rw [Addr.add_lit, Addr.add_lit] at h0
    refine ⟨b, off, xs, rfl, World.block_lt_of_cell? W _ h0, h1, fun j u hu => ?_, h3⟩
    have hj : j < k := by
      apply Classical.byContradiction
      intro hn
      rw [List.getElem?_eq_none (by omega)] at hu
      cases hu
    have := h2 j hj
    rw [Addr.add_lit, Addr.add_lit, hu] at this
    exact this
theorem opu_l {α : Type} {t e : TypeId} {k : Nat} {c : World → α → List Value → Prop} (ht : Try.prog.underlying t = some (.slice e)) (hk : Try.prog.cellsOf e = k) (hk1 : 0 < k) (ho : Opu enc W e c) : Opu enc W t (cQ W.heap.size k c) := fun f cs d p h hw => by
  obtain ⟨l, hl, _⟩ := opu_u ht hk hk1 ho f cs d p h hw
  exact ⟨l, hl⟩
/-- One field of a struct. -/
theorem opu_f {t : TypeId} {fs : Array Field} (ht : Try.prog.underlying t = some (.struct fs)) {fuel : Nat} {cs : List Value} {d : DataW H} {p : List MemPlace} (h : DataW.trod enc Try.prog W 0 (fun _ => true) true fuel t cs = some (d, p)) (hw : Rows.uptoBulk d ≤ 1048576) (i : Nat) {f : Field} (hf : fs[i]? = some f) {α : Type} {c : World → α → List Value → Prop} (ho : Opu enc W f.type c) : ∃ a, c W a ((cs.drop f.offset).take (Try.prog.cellsOf f.type)) := by
  obtain ⟨xs, n, _, hx, _, hl, hi⟩ := DataW.trod_struct ht h
  simp only [Prod.mk.injEq] at hx
  obtain ⟨rfl, _⟩ := hx
  have hlt : i < fs.size := by
    apply Classical.byContradiction
    intro hn
    rw [Array.getElem?_eq_none (by omega)] at hf
    cases hf
  have h1 := hi i f hf
  have h2 : xs[i]? = some xs[i] := List.getElem?_eq_getElem (by omega)
  rw [h2] at h1
  rw [Rows.uptoBulk] at hw
  have hb := bulk_part (d := xs[i].1) (l := xs.map fun x => x.fst) (List.mem_map.2 ⟨xs[i], List.getElem_mem _, rfl⟩)
  exact ho _ _ xs[i].1 xs[i].2 h1 (by omega)
theorem opu_I : Opu enc W 26 (cQ W.heap.size 1 cI) := opu_l Try.underlying26 cl_i (by decide) (opu_i Try.underlying3)
theorem opu_I2 : Opu enc W 26 (cL W.heap.size) := fun f cs d p h hw => opu_I f cs d p h hw
theorem opu_L : Opu enc W 22 (cQ W.heap.size 1 (cL W.heap.size)) := opu_l Try.underlying22 cl_I (by decide) opu_I2
set_option maxRecDepth 100000 in
theorem opu_R : Opu enc W 79 (cR W.heap.size) := by
  intro fuel cs d p h hw
  have hl := opn_len Try.underlying79 h
  rw [cl_R] at hl
  obtain ⟨a0, h0⟩ := opu_f Try.underlying79 h hw 0 rfl (opu_i Try.underlying77)
  obtain ⟨a1, h1⟩ := opu_f Try.underlying79 h hw 1 rfl (opu_i Try.underlying3)
  obtain ⟨a2, h2⟩ := opu_f Try.underlying79 h hw 2 rfl opu_I
  clear h hw
  match cs, hl with
  | [u0, u1, u2], _ =>
    simp only [cl_k, cl_i, cl_I, List.getElem_toArray, List.getElem_cons_zero, List.getElem_cons_succ, List.drop_zero, List.drop_succ_cons, List.take_succ_cons, List.take_zero] at h0 h1 h2
    cases h0
    cases h1
    obtain ⟨v2, e2, m2⟩ := h2
    cases e2
    exact ⟨⟨a0, a1, a2⟩, u2, rfl, m2⟩
theorem opu_lR : Opu enc W 23 (cQ W.heap.size 3 (cR W.heap.size)) := opu_l Try.underlying23 cl_R (by decide) opu_R
set_option maxRecDepth 100000 in
theorem arg_theory_u {base : Nat} {ds : List (DataW H)} {v : Value} {d : DataW H} {p : List MemPlace} (hv : Value.okWide Try.prog W .any base 25 v) (h : DataW.Trod enc Try.prog W 0 (fun _ => true) true 25 v d p) (hsz : Rows.uptoSmall H ds = true) (hd : d ∈ ds) : ∃ T fa fc ra rc ba bc, v = tv T fa fc ra rc ba bc ∧ TA W.heap.size W T fa fc ra rc ba bc := by
  obtain ⟨cs, rfl, hl⟩ := okWide_struct Try.underlying25 hv
  obtain ⟨fuel, h⟩ := h
  have hw : Rows.uptoBulk d ≤ 1048576 := Nat.le_trans (bulk_part hd) (bulk_limit hsz)
  rw [cl_T] at hl
  obtain ⟨a0, h0⟩ := opu_f Try.underlying25 h hw 0 rfl (opu_i Try.underlying3)
  obtain ⟨a1, h1⟩ := opu_f Try.underlying25 h hw 1 rfl opu_L
  obtain ⟨a2, h2⟩ := opu_f Try.underlying25 h hw 2 rfl opu_lR
  obtain ⟨a3, h3⟩ := opu_f Try.underlying25 h hw 3 rfl opu_L
  clear h hw hsz
  obtain ⟨cs⟩ := cs
  match cs, hl with
  | [u0, u1, u2, u3], _ =>
    simp only [Value.cells, cl_i, cl_L, cl_lR, List.getElem_toArray, List.getElem_cons_zero, List.getElem_cons_succ, List.drop_zero, List.drop_succ_cons, List.take_succ_cons, List.take_zero] at h0 h1 h2 h3
    cases h0
    obtain ⟨v1, e1, m1⟩ := h1
    cases e1
    obtain ⟨v2, e2, m2⟩ := h2
    cases e2
    obtain ⟨v3, e3, m3⟩ := h3
    cases e3
    obtain ⟨b1, c1, rfl, _⟩ := m1.form
    obtain ⟨b2, c2, rfl, _⟩ := m2.form
    obtain ⟨b3, c3, rfl, _⟩ := m3.form
    exact ⟨⟨a0, a1, a2, a3⟩, b1, c1, b2, c2, b3, c3, rfl, m1, m2, m3⟩
set_option maxRecDepth 100000 in
/-- A list of numbers among the arguments. -/
theorem arg_ints_u {base : Nat} {ds : List (DataW H)} {v : Value} {d : DataW H} {p : List MemPlace} (hv : Value.okWide Try.prog W .any base 26 v) (h : DataW.Trod enc Try.prog W 0 (fun _ => true) true 26 v d p) (hsz : Rows.uptoSmall H ds = true) (hd : d ∈ ds) : ∃ l a c, v = .slice a l.length c ∧ Ints W.heap.size W l (.slice a l.length c) ∧ l.length ≤ 1048576 := by
  obtain ⟨a, len, cap, rfl⟩ := okWide_slice Try.underlying26 hv
  obtain ⟨fuel, h⟩ := h
  obtain ⟨l, ⟨v, e, m⟩, hl⟩ := opu_u Try.underlying26 cl_i (by decide) (opu_i Try.underlying3) fuel _ d p h (Nat.le_trans (bulk_part hd) (bulk_limit hsz))
  simp only [Value.cells, List.cons.injEq, and_true] at e
  subst e
  obtain ⟨b1, c1, e1, _⟩ := m.form
  cases e1
  exact ⟨l, a, cap, rfl, m, hl⟩
end
end Go.Proofs.Ytanonjggegibkaa
