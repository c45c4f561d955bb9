import Derived.Test.YtmlhcncagdfjfaaGreatVisit
import Derived.OpenShut
import Derived.SizedLaws
import Derived.Deep.Strs
import Derived.Deep.Slices
set_option maxRecDepth 100000
namespace Go.Proofs.YtmlhcncagdfjfaaGreat
open Go.ChangeShapes Go.WideShapes Go.RowKit Go.Deep
theorem oG {H : Type} {P : Program} {e : TypeId} : ∀ {ds : List (DataW H)} {d : DataW H} {n : Nat}, d ∈ ds → n ∈ d.weights P e → n ∈ DataW.weightsAll P e ds := by
 intro ds
 induction ds with
 | nil => intro d n h; simp at h
 | cons x r ih =>
  intro d n h hn
  simp only [DataW.weightsAll, List.mem_append]
  rcases List.mem_cons.1 h with e1 | e1
  ·subst e1; exact .inl hn
  exact .inr (ih e1 hn)
section
variable {H : Type} {enc : TypeId × Value → H} {W : World}
def i8 {α : Type} (enc : TypeId × Value → H) (W : World) (t : TypeId) (c : World → α → List Value → Prop) : Prop :=
 ∀ fuel cs d p, DataW.trod enc Tryz.prog W 0 (fun _ => true) true fuel t cs = some (d, p) → (∀ n ∈ d.weights Tryz.prog t, n ≤ reachBytes) → ∃ a, c W a cs
def cQ {α : Type} (N k : Nat) (c : World → α → List Value → Prop) (w : World) (l : List α) (xs : List Value) : Prop := ∃ v, xs = [v] ∧ RR N k c w l v
theorem iU {t : TypeId} (ht : Tryz.prog.underlying t = some (.int .i64)) : i8 enc W t cI := by
 intro Aa cs d p h _
 obtain ⟨k, rfl, _, _⟩ := DataW.trod_int ht h
 exact ⟨k, rfl⟩
theorem nF {α : Type} {t e : TypeId} {k : Nat} {c : World → α → List Value → Prop} (ht : Tryz.prog.underlying t = some (.slice e)) (hk : Tryz.prog.cellsOf e = k) (hk1 : 0 < k) (hb : 1 ≤ Tryz.prog.bytesOf e) (ho : i8 enc W e c) : i8 enc W t (cQ W.heap.size k c) := by
 intro Aj cs d p h hw
 rcases open_slice ht h with ⟨rfl, _⟩ | ⟨x, len, cap, m, n, D, Pl, rfl, _, hl, hm, Ai, hx, Ag⟩
 ·exact ⟨[], _, rfl, none, 0, rfl, Nat.zero_le _, Nat.zero_le _, fun i x hi => by simp at hi⟩
 simp only [Prod.mk.injEq] at hx
 obtain ⟨rfl, _⟩ := hx
 have Ak : m = cap := by simpa using Ai
 simp only [DataW.weights, ht, List.mem_cons, List.mem_append] at hw
 have hs := hw _ (.inl rfl)
 simp only [List.length_map, List.length_range, reachBytes] at hs
 have Ab : len ≤ 140737488351232 := by
  have : len * 1 ≤ (len + (m - len)) * Tryz.prog.bytesOf e := Nat.mul_le_mul (by omega) hb
  omega
 rw [hk] at Ag
 have Aa : ∀ i : _root_.Fin len, ∃ (a : α) (xs : List Value), xs.length = k ∧ (∀ j, j < k → W.cell? ((x.add (i.1 * k)).add j) = xs[j]?) ∧ c W a xs := by
  intro i
  obtain ⟨cs', h1, h2⟩ := Ag i.1 (by omega)
  obtain ⟨_, Ab, Ae⟩ := World.cells?_some h1
  obtain ⟨a, ha⟩ := ho _ _ _ _ h2 fun q hq => hw q (.inr (.inl (oG (List.mem_map.2 ⟨i.1, by simp, rfl⟩) hq)))
  exact ⟨a, cs', Ab, Ae, ha⟩
 obtain ⟨b, Ah, Ad⟩ := x
 refine ⟨List.ofFn fun i => Classical.choose (Aa i), _, rfl, some ⟨b, Ah, Ad⟩, cap, by simp, by simpa using hl, by simpa using Ab, ?_⟩
 intro i a hi
 have Ac : i < len := by
  apply Classical.byContradiction
  intro hn
  rw [List.getElem?_eq_none (by simp; omega)] at hi
  cases hi
 have ha : Classical.choose (Aa ⟨i, Ac⟩) = a := by
  rw [List.getElem?_eq_getElem (by simp; exact Ac)] at hi
  simpa using hi
 obtain ⟨xs, h1, h2, h3⟩ := Classical.choose_spec (Aa ⟨i, Ac⟩)
 rw [ha] at h3
 have h0 := h2 0 hk1
 rw [List.getElem?_eq_getElem (by omega)] at h0
 have Af : Ad = none := by
  obtain ⟨_, ys, y1, y2, _⟩ := Aa ⟨0, by omega⟩
  have z0 := y2 0 hk1
  rw [List.getElem?_eq_getElem (by omega)] at z0
  have := World.cell?_spot z0
  simpa [Addr.add] using this
 subst Af
 rw [Addr.add_lit, Addr.add_lit] at h0
 refine ⟨b, Ah, xs, rfl, World.block_lt_of_cell? W _ h0, h1, fun j u hu => ?_, h3⟩
 have hj : j < k := by
  apply Classical.byContradiction
  intro hn
  rw [List.getElem?_eq_none (by omega)] at hu
  cases hu
 have := h2 j hj
 rw [Addr.add_lit, Addr.add_lit, hu] at this
 exact this
theorem ey {t : TypeId} {fs : Array Field} (ht : Tryz.prog.underlying t = some (.struct fs)) {fuel : Nat} {cs : List Value} {d : DataW H} {p : List MemPlace} (h : DataW.trod enc Tryz.prog W 0 (fun _ => true) true fuel t cs = some (d, p)) (hw : ∀ n ∈ d.weights Tryz.prog t, n ≤ reachBytes) (i : Nat) {f : Field} (hf : fs[i]? = some f) {α : Type} {c : World → α → List Value → Prop} (ho : i8 enc W f.type c) : ∃ a, c W a ((cs.drop f.offset).take (Tryz.prog.cellsOf f.type)) := by
 obtain ⟨xs, n, _, hx, _, hl, hi⟩ := DataW.trod_struct ht h
 simp only [Prod.mk.injEq] at hx
 obtain ⟨rfl, _⟩ := hx
 have Aa : i < fs.size := by
  apply Classical.byContradiction
  intro hn
  rw [Array.getElem?_eq_none (by omega)] at hf
  cases hf
 have h1 := hi i f hf
 have h2 : xs[i]? = some xs[i] := List.getElem?_eq_getElem (by omega)
 rw [h2] at h1
 simp only [DataW.weights, ht] at hw
 refine ho _ _ xs[i].1 xs[i].2 h1 fun q hq => hw q (DataW.weights_mem_each (j := i) (t := f.type) (d := xs[i].1) ?_ ?_ q hq)
 ·rw [List.getElem?_map, Array.getElem?_toList, hf]; rfl
 rw [List.getElem?_map, h2]; rfl
theorem oy {t : TypeId} {fs : Array Field} (ht : Tryz.prog.underlying t = some (.struct fs)) {fuel : Nat} {cs : List Value} {d : DataW H} {p : List MemPlace} (h : DataW.trod enc Tryz.prog W 0 (fun _ => true) true fuel t cs = some (d, p)) : cs.length = Tryz.prog.cellsOf t := by
 obtain ⟨xs, n, _, _, hl, _⟩ := DataW.trod_struct ht h
 exact hl
theorem qf : Tryz.prog.cellsOf 3 = 1 := by kernel_rfl
theorem zW : 1 ≤ Tryz.prog.bytesOf 3 := of_decide_eq_true (by kernel_rfl)
theorem zZ : Tryz.prog.cellsOf 112 = 1 := by kernel_rfl
theorem yN : Tryz.prog.cellsOf 26 = 1 := by kernel_rfl
theorem zX : 1 ≤ Tryz.prog.bytesOf 26 := of_decide_eq_true (by kernel_rfl)
theorem zY : Tryz.prog.cellsOf 22 = 1 := by kernel_rfl
theorem zH : Tryz.prog.cellsOf 23 = 1 := by kernel_rfl
theorem yG : Tryz.prog.cellsOf 114 = 3 := by kernel_rfl
theorem zV : 1 ≤ Tryz.prog.bytesOf 114 := of_decide_eq_true (by kernel_rfl)
theorem A2 : Tryz.prog.cellsOf 25 = 4 := by kernel_rfl
theorem sJ : i8 enc W 26 (cQ W.heap.size 1 cI) := nF Tryz.underlying26 qf (by decide) zW (iU Tryz.underlying3)
theorem yQ : i8 enc W 26 (cL W.heap.size) := fun f cs d p h hw => sJ f cs d p h hw
theorem wS : i8 enc W 22 (cQ W.heap.size 1 (cL W.heap.size)) := nF Tryz.underlying22 yN (by decide) zX yQ
theorem zD : i8 enc W 114 (cR W.heap.size) := by
 intro Aa cs d p h hw
 have hl := oy Tryz.underlying114 h
 rw [yG] at hl
 obtain ⟨a0, h0⟩ := ey Tryz.underlying114 h hw 0 rfl (iU Tryz.underlying112)
 obtain ⟨a1, h1⟩ := ey Tryz.underlying114 h hw 1 rfl (iU Tryz.underlying3)
 obtain ⟨a2, h2⟩ := ey Tryz.underlying114 h hw 2 rfl sJ
 clear h hw
 match cs, hl with
 | [u0, u1, u2], _ =>
  simp only [zZ, qf, yN, List.getElem_toArray, List.getElem_cons_zero, List.getElem_cons_succ, List.drop_zero, List.drop_succ_cons, List.take_succ_cons, List.take_zero] at h0 h1 h2
  cases h0
  cases h1
  obtain ⟨v2, e2, m2⟩ := h2
  cases e2
  exact ⟨⟨a0, a1, a2⟩, u2, rfl, m2⟩
theorem yK : i8 enc W 23 (cQ W.heap.size 3 (cR W.heap.size)) := nF Tryz.underlying23 yG (by decide) zV zD
theorem sP {base : Nat} {ts : List TypeId} {ds : List (DataW H)} {j : Nat} {v : Value} {d : DataW H} {p : List MemPlace} (hv : Value.okWide Tryz.prog W .any base 25 v) (h : DataW.Trod enc Tryz.prog W 0 (fun _ => true) true 25 v d p) (hsz : (DataW.weightsEach Tryz.prog ts ds).all (· ≤ reachBytes) = true) (ht : ts[j]? = some 25) (hd : ds[j]? = some d) : ∃ T fa fc ra rc ba bc, v = tv T fa fc ra rc ba bc ∧ TA W.heap.size W T fa fc ra rc ba bc := by
 obtain ⟨cs, rfl, hl⟩ := okWide_struct Tryz.underlying25 hv
 obtain ⟨Aa, h⟩ := h
 have hw : ∀ n ∈ d.weights Tryz.prog 25, n ≤ reachBytes := fun n hn => of_decide_eq_true (List.all_eq_true.1 hsz _ (DataW.weights_mem_each ht hd n hn))
 rw [A2] at hl
 obtain ⟨a0, h0⟩ := ey Tryz.underlying25 h hw 0 rfl (iU Tryz.underlying3)
 obtain ⟨a1, h1⟩ := ey Tryz.underlying25 h hw 1 rfl wS
 obtain ⟨a2, h2⟩ := ey Tryz.underlying25 h hw 2 rfl yK
 obtain ⟨a3, h3⟩ := ey Tryz.underlying25 h hw 3 rfl wS
 clear h hw hsz
 obtain ⟨cs⟩ := cs
 match cs, hl with
 | [u0, u1, u2, u3], _ =>
  simp only [Value.cells, qf, zY, zH, List.getElem_toArray, List.getElem_cons_zero, List.getElem_cons_succ, List.drop_zero, List.drop_succ_cons, List.take_succ_cons, List.take_zero] at h0 h1 h2 h3
  cases h0
  obtain ⟨v1, e1, m1⟩ := h1
  cases e1
  obtain ⟨v2, e2, m2⟩ := h2
  cases e2
  obtain ⟨v3, e3, m3⟩ := h3
  cases e3
  obtain ⟨b1, c1, rfl, _⟩ := m1.form
  obtain ⟨b2, c2, rfl, _⟩ := m2.form
  obtain ⟨b3, c3, rfl, _⟩ := m3.form
  exact ⟨⟨a0, a1, a2, a3⟩, b1, c1, b2, c2, b3, c3, rfl, m1, m2, m3⟩
theorem vB {base : Nat} {ts : List TypeId} {ds : List (DataW H)} {j : Nat} {v : Value} {d : DataW H} {p : List MemPlace} (hv : Value.okWide Tryz.prog W .any base 26 v) (h : DataW.Trod enc Tryz.prog W 0 (fun _ => true) true 26 v d p) (hsz : (DataW.weightsEach Tryz.prog ts ds).all (· ≤ reachBytes) = true) (ht : ts[j]? = some 26) (hd : ds[j]? = some d) : ∃ (F : List Int) (ea : Option Addr) (ec : Nat), v = .slice ea F.length ec ∧ Ints W.heap.size W F (.slice ea F.length ec) := by
 have hw : ∀ n ∈ d.weights Tryz.prog 26, n ≤ reachBytes := fun n hn => of_decide_eq_true (List.all_eq_true.1 hsz _ (DataW.weights_mem_each ht hd n hn))
 obtain ⟨a, n, c, rfl⟩ := okWide_slice Tryz.underlying26 hv
 obtain ⟨Aa, h⟩ := h
 obtain ⟨F, v', e, hr⟩ := sJ Aa _ d p h hw
 cases e
 obtain ⟨ea, ec, e2, _⟩ := hr.form
 rw [e2] at hr ⊢
 exact ⟨F, ea, ec, rfl, hr⟩
end
end Go.Proofs.YtmlhcncagdfjfaaGreat
