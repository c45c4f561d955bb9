/- A theory's superiority among the arguments. -/
import Derived.Test.YtjaffhajehcnpaaOpw
namespace Go.Proofs.Ytjaffhajehcnpaa
open Go.ChangeShapes Go.WideShapes Go.RowKit Go.Deep

section
variable {H : Type} {enc : TypeId × Value → H} {W : World}
theorem opw_f {t : TypeId} {fs : Array Field} (ht : Try.prog.underlying t = some (.struct fs)) {fuel : Nat} {cs : List Value} {d : DataW H} {p : List MemPlace} (h : DataW.trod enc Try.prog W 0 (fun _ => true) true fuel t cs = some (d, p)) (hw : Rows.uptoBulk d ≤ 1048576) (i : Nat) {f : Field} (hf : fs[i]? = some f) {α : Type} {c : World → α → List Value → Prop} {mu : α → Nat} (ho : Opw enc W f.type c mu) : ∃ a, c W a ((cs.drop f.offset).take (Try.prog.cellsOf f.type)) := by
  obtain ⟨xs, n, _, hx, _, hl, hi⟩ := DataW.trod_struct ht h
  simp only [Prod.mk.injEq] at hx
  obtain ⟨rfl, _⟩ := hx
  have hlt : i < fs.size := by
    apply Classical.byContradiction
    intro hn
    rw [Array.getElem?_eq_none (by omega)] at hf
    cases hf
  have h1 := hi i f hf
  have h2 : xs[i]? = some xs[i] := List.getElem?_eq_getElem (by omega)
  rw [h2] at h1
  rw [Rows.uptoBulk] at hw
  have hb := bulk_part (d := xs[i].1) (l := xs.map fun x => x.fst) (List.mem_map.2 ⟨xs[i], List.getElem_mem _, rfl⟩)
  obtain ⟨a, ha, _⟩ := ho _ _ xs[i].1 xs[i].2 h1 (by omega)
  exact ⟨a, ha⟩
theorem cl_L : Try.prog.cellsOf 22 = 1 := by kernel_rfl
theorem cl_T : Try.prog.cellsOf 25 = 4 := by kernel_rfl
set_option maxRecDepth 100000 in
theorem arg_beats {base : Nat} {ds : List (DataW H)} {v : Value} {d : DataW H} {p : List MemPlace} (hv : Value.okWide Try.prog W .any base 25 v) (h : DataW.Trod enc Try.prog W 0 (fun _ => true) true 25 v d p) (hsz : Rows.uptoSmall H ds = true) (hd : d ∈ ds) : ∃ u0 u1 u2 B ba bc, v = .agg #[u0, u1, u2, .slice ba B.length bc] ∧ Lists W.heap.size W B (.slice ba B.length bc) := by
  obtain ⟨cs, rfl, hl⟩ := okWide_struct Try.underlying25 hv
  obtain ⟨fuel, h⟩ := h
  have hw : Rows.uptoBulk d ≤ 1048576 := Nat.le_trans (bulk_part hd) (bulk_limit hsz)
  rw [cl_T] at hl
  obtain ⟨a3, h3⟩ := opw_f Try.underlying25 h hw 3 rfl opw_L
  clear h hw hsz
  obtain ⟨cs⟩ := cs
  match cs, hl with
  | [u0, u1, u2, u3], _ =>
    simp only [Value.cells] at h3
    obtain ⟨v3, e3, m3⟩ := h3
    cases e3
    obtain ⟨b3, c3, rfl, _⟩ := m3.form
    exact ⟨u0, u1, u2, a3, b3, c3, rfl, m3⟩
end
end Go.Proofs.Ytjaffhajehcnpaa
