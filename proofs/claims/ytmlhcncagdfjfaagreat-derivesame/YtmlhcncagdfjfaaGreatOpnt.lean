import Derived.Test.YtmlhcncagdfjfaaGreatVisit
import Derived.OpenShut
import Derived.SizedLaws
import Derived.Deep.Strs
import Derived.Deep.Slices
namespace Go.Proofs.YtmlhcncagdfjfaaGreat
open Go.ChangeShapes Go.WideShapes Go.RowKit Go.Deep
theorem oE {H : Type} {P : Program} {e : TypeId} : ∀ {ds : List (DataW H)} {d : DataW H} {n : Nat}, d ∈ ds → n ∈ d.weights P e → n ∈ DataW.weightsAll P e ds := by
 intro ds
 induction ds with
 | nil => intro d n h; simp at h
 | cons x r ih =>
  intro d n h hn
  simp only [DataW.weightsAll, List.mem_append]
  rcases List.mem_cons.1 h with e1 | e1
  · subst e1; exact .inl hn
  · exact .inr (ih e1 hn)
section
variable {H : Type} {enc : TypeId × Value → H} {W : World}
def oV {α : Type} (enc : TypeId × Value → H) (W : World) (t : TypeId) (c : World → α → List Value → Prop) : Prop :=
 ∀ fuel cs d p, DataW.trod enc Tryz.prog W 0 (fun _ => true) true fuel t cs = some (d, p) → (∀ n ∈ d.weights Tryz.prog t, n ≤ reachBytes) → ∃ a, c W a cs
def cQ {α : Type} (N k : Nat) (c : World → α → List Value → Prop) (w : World) (l : List α) (xs : List Value) : Prop := ∃ v, xs = [v] ∧ RR N k c w l v
theorem ps {t : TypeId} (ht : Tryz.prog.underlying t = some (.int .i64)) : oV enc W t cI := by
 intro Aa cs d p h _
 obtain ⟨k, rfl, _, _⟩ := DataW.trod_int ht h
 exact ⟨k, rfl⟩
theorem zL {α : Type} {t e : TypeId} {k : Nat} {c : World → α → List Value → Prop} (ht : Tryz.prog.underlying t = some (.slice e)) (hk : Tryz.prog.cellsOf e = k) (hk1 : 0 < k) (hb : 1 ≤ Tryz.prog.bytesOf e) (ho : oV enc W e c) : oV enc W t (cQ W.heap.size k c) := by
 intro Aj cs d p h hw
 rcases open_slice ht h with ⟨rfl, _⟩ | ⟨x, len, cap, m, n, D, Pl, rfl, _, hl, hm, Ai, hx, Ah⟩
 · exact ⟨[], _, rfl, none, 0, rfl, Nat.zero_le _, Nat.zero_le _, fun i x hi => by simp at hi⟩
 · simp only [Prod.mk.injEq] at hx
   obtain ⟨rfl, _⟩ := hx
   have Ak : m = cap := by simpa using Ai
   simp only [DataW.weights, ht, List.mem_cons, List.mem_append] at hw
   have hs := hw _ (.inl rfl)
   simp only [List.length_map, List.length_range, reachBytes] at hs
   have Ab : len ≤ 140737488351232 := by
    have : len * 1 ≤ (len + (m - len)) * Tryz.prog.bytesOf e := Nat.mul_le_mul (by omega) hb
    omega
   rw [hk] at Ah
   have Aa : ∀ i : _root_.Fin len, ∃ (a : α) (xs : List Value), xs.length = k ∧ (∀ j, j < k → W.cell? ((x.add (i.1 * k)).add j) = xs[j]?) ∧ c W a xs := by
    intro i
    obtain ⟨cs', h1, h2⟩ := Ah i.1 (by omega)
    obtain ⟨_, Ab, Ae⟩ := World.cells?_some h1
    obtain ⟨a, ha⟩ := ho _ _ _ _ h2 fun q hq => hw q (.inr (.inl (oE (List.mem_map.2 ⟨i.1, by simp, rfl⟩) hq)))
    exact ⟨a, cs', Ab, Ae, ha⟩
   obtain ⟨b, Ag, Ad⟩ := x
   refine ⟨List.ofFn fun i => Classical.choose (Aa i), _, rfl, some ⟨b, Ag, Ad⟩, cap, by simp, by simpa using hl, by simpa using Ab, ?_⟩
   intro i a hi
   have Ac : i < len := by
    apply Classical.byContradiction
    intro hn
    rw [List.getElem?_eq_none (by simp; omega)] at hi
    cases hi
   have ha : Classical.choose (Aa ⟨i, Ac⟩) = a := by
    rw [List.getElem?_eq_getElem (by simp; exact Ac)] at hi
    simpa using hi
   obtain ⟨xs, h1, h2, h3⟩ := Classical.choose_spec (Aa ⟨i, Ac⟩)
   rw [ha] at h3
   have h0 := h2 0 hk1
   rw [List.getElem?_eq_getElem (by omega)] at h0
   have Af : Ad = none := by
    obtain ⟨_, ys, y1, y2, _⟩ := Aa ⟨0, by omega⟩
    have z0 := y2 0 hk1
    rw [List.getElem?_eq_getElem (by omega)] at z0
    have := World.cell?_spot z0
    simpa [Addr.add] using this
   subst Af
   rw [Addr.add_lit, Addr.add_lit] at h0
   refine ⟨b, Ag, xs, rfl, World.block_lt_of_cell? W _ h0, h1, fun j u hu => ?_, h3⟩
   have hj : j < k := by
    apply Classical.byContradiction
    intro hn
    rw [List.getElem?_eq_none (by omega)] at hu
    cases hu
   have := h2 j hj
   rw [Addr.add_lit, Addr.add_lit, hu] at this
   exact this
theorem kt {t : TypeId} {fs : Array Field} (ht : Tryz.prog.underlying t = some (.struct fs)) {fuel : Nat} {cs : List Value} {d : DataW H} {p : List MemPlace} (h : DataW.trod enc Tryz.prog W 0 (fun _ => true) true fuel t cs = some (d, p)) (hw : ∀ n ∈ d.weights Tryz.prog t, n ≤ reachBytes) (i : Nat) {f : Field} (hf : fs[i]? = some f) {α : Type} {c : World → α → List Value → Prop} (ho : oV enc W f.type c) : ∃ a, c W a ((cs.drop f.offset).take (Tryz.prog.cellsOf f.type)) := by
 obtain ⟨xs, n, _, hx, _, hl, hi⟩ := DataW.trod_struct ht h
 simp only [Prod.mk.injEq] at hx
 obtain ⟨rfl, _⟩ := hx
 have Aa : i < fs.size := by
  apply Classical.byContradiction
  intro hn
  rw [Array.getElem?_eq_none (by omega)] at hf
  cases hf
 have h1 := hi i f hf
 have h2 : xs[i]? = some xs[i] := List.getElem?_eq_getElem (by omega)
 rw [h2] at h1
 simp only [DataW.weights, ht] at hw
 refine ho _ _ xs[i].1 xs[i].2 h1 fun q hq => hw q (DataW.weights_mem_each (j := i) (t := f.type) (d := xs[i].1) ?_ ?_ q hq)
 · rw [List.getElem?_map, Array.getElem?_toList, hf]; rfl
 · rw [List.getElem?_map, h2]; rfl
theorem rX {t : TypeId} {fs : Array Field} (ht : Tryz.prog.underlying t = some (.struct fs)) {fuel : Nat} {cs : List Value} {d : DataW H} {p : List MemPlace} (h : DataW.trod enc Tryz.prog W 0 (fun _ => true) true fuel t cs = some (d, p)) : cs.length = Tryz.prog.cellsOf t := by
 obtain ⟨xs, n, _, _, hl, _⟩ := DataW.trod_struct ht h
 exact hl
theorem yH : Tryz.prog.cellsOf 3 = 1 := by kernel_rfl
end
end Go.Proofs.YtmlhcncagdfjfaaGreat
