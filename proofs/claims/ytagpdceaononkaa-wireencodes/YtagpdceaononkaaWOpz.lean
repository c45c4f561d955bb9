/- Steps among the arguments, opened, with their sizes. -/
import Derived.Test.YtagpdceaononkaaWOpn
namespace Go.Proofs.Ytagpdceaononkaa
open Go.ChangeShapes Go.WideShapes Go.ChangeAt Go.RowKit Go.Deep

section
variable {H : Type} {enc : TypeId × Value → H} {W : World}
/-- A list in one cell, of so many bytes. -/
def cQz {α : Type} (N b k : Nat) (c : World → α → List Value → Prop) (w : World) (l : List α) (xs : List Value) : Prop := ∃ v, xs = [v] ∧ RR N k c w l v ∧ l.length * b ≤ 140737488351232
def cStz (N : Nat) (w : World) (s : StM) (xs : List Value) : Prop := ∃ v, xs = [.int .i64 s.tag, .int .i64 s.lit, .int .i64 s.how, .int .i64 s.rule, v] ∧ RR N 2 cP2 w s.ch v ∧ s.ch.length * 16 ≤ 140737488351232
theorem opn_lz {α : Type} {t e : TypeId} {k : Nat} {c : World → α → List Value → Prop} (ht : Try.prog.underlying t = some (.slice e)) (hk : Try.prog.cellsOf e = k) (hk1 : 0 < k) (hb : 1 ≤ Try.prog.bytesOf e) (ho : Opn enc W e c) : Opn enc W t (cQz W.heap.size (Try.prog.bytesOf e) k c) := by
  intro fuel cs d p h hw
  rcases open_slice ht h with ⟨rfl, _⟩ | ⟨x, len, cap, m, n, D, Pl, rfl, _, hl, hm, hmm, hx, hel⟩
  · exact ⟨[], _, rfl, ⟨none, 0, rfl, Nat.zero_le _, Nat.zero_le _, fun i x hi => by simp at hi⟩, by simp⟩
  · simp only [Prod.mk.injEq] at hx
    obtain ⟨rfl, _⟩ := hx
    have hm2 : m = cap := by simpa using hmm
    simp only [DataW.weights, ht, List.mem_cons, List.mem_append] at hw
    have hs := hw _ (.inl rfl)
    simp only [List.length_map, List.length_range, reachBytes] at hs
    have hlen : len ≤ 140737488351232 := by
      have : len * 1 ≤ (len + (m - len)) * Try.prog.bytesOf e := Nat.mul_le_mul (by omega) hb
      omega
    have hsz : len * Try.prog.bytesOf e ≤ 140737488351232 := by
      have : len * Try.prog.bytesOf e ≤ (len + (m - len)) * Try.prog.bytesOf e := Nat.mul_le_mul_right _ (by omega)
      omega
    rw [hk] at hel
    have each : ∀ i : _root_.Fin len, ∃ (a : α) (xs : List Value), xs.length = k ∧ (∀ j, j < k → W.cell? ((x.add (i.1 * k)).add j) = xs[j]?) ∧ c W a xs := by
      intro i
      obtain ⟨cs', h1, h2⟩ := hel i.1 (by omega)
      obtain ⟨_, hlen, hcell⟩ := World.cells?_some h1
      obtain ⟨a, ha⟩ := ho _ _ _ _ h2 fun q hq => hw q (.inr (.inl (weightsAll_mem (List.mem_map.2 ⟨i.1, by simp, rfl⟩) hq)))
      exact ⟨a, cs', hlen, hcell, ha⟩
    obtain ⟨b, off, spot⟩ := x
    refine ⟨List.ofFn fun i => Classical.choose (each i), _, rfl, ⟨some ⟨b, off, spot⟩, cap, by simp, by simpa using hl, by simpa using hlen, ?_⟩, by simpa using hsz⟩
    intro i a hi
    have hil : i < len := by
      apply Classical.byContradiction
      intro hn
      rw [List.getElem?_eq_none (by simp; omega)] at hi
      cases hi
    have ha : Classical.choose (each ⟨i, hil⟩) = a := by
      rw [List.getElem?_eq_getElem (by simp; exact hil)] at hi
      simpa using hi
    obtain ⟨xs, h1, h2, h3⟩ := Classical.choose_spec (each ⟨i, hil⟩)
    rw [ha] at h3
    have h0 := h2 0 hk1
    rw [List.getElem?_eq_getElem (by omega)] at h0
    have hspot : spot = none := by
      obtain ⟨_, ys, y1, y2, _⟩ := each ⟨0, by omega⟩
      have z0 := y2 0 hk1
      rw [List.getElem?_eq_getElem (by omega)] at z0
      have := World.cell?_spot z0
      simpa [Addr.add] using this
    subst hspot
    rw [Addr.add_lit, Addr.add_lit] at h0
    refine ⟨b, off, xs, rfl, World.block_lt_of_cell? W _ h0, h1, fun j u hu => ?_, h3⟩
    have hj : j < k := by
      apply Classical.byContradiction
      intro hn
      rw [List.getElem?_eq_none (by omega)] at hu
      cases hu
    have := h2 j hj
    rw [Addr.add_lit, Addr.add_lit, hu] at this
    exact this
theorem by_Chz : Try.prog.bytesOf 54 = 16 := by kernel_rfl
theorem by_Stz : Try.prog.bytesOf 52 = 56 := by kernel_rfl
theorem opn_lChz : Opn enc W 50 (cQz W.heap.size (Try.prog.bytesOf 54) 2 cP2) := opn_lz Try.underlying50 cl_Ch (by decide) by_Ch opn_Ch
set_option maxRecDepth 100000 in
theorem opn_Stz : Opn enc W 52 (cStz W.heap.size) := by
  intro fuel cs d p h hw
  have hl := opn_len Try.underlying52 h
  rw [cl_St] at hl
  obtain ⟨a0, h0⟩ := opn_f Try.underlying52 h hw 0 rfl (opn_i Try.underlying48)
  obtain ⟨a1, h1⟩ := opn_f Try.underlying52 h hw 1 rfl (opn_i Try.underlying3)
  obtain ⟨a2, h2⟩ := opn_f Try.underlying52 h hw 2 rfl (opn_i Try.underlying49)
  obtain ⟨a3, h3⟩ := opn_f Try.underlying52 h hw 3 rfl (opn_i Try.underlying3)
  obtain ⟨a4, h4⟩ := opn_f Try.underlying52 h hw 4 rfl opn_lChz
  clear h hw
  match cs, hl with
  | [u0, u1, u2, u3, u4], _ =>
    simp only [cl_i, cl_tg, cl_hw, cl_lCh, List.getElem_toArray, List.getElem_cons_zero, List.getElem_cons_succ, List.drop_zero, List.drop_succ_cons, List.take_succ_cons, List.take_zero] at h0 h1 h2 h3 h4
    cases h0
    cases h1
    cases h2
    cases h3
    obtain ⟨v4, e4, m4, z4⟩ := h4
    cases e4
    exact ⟨⟨a0, a1, a2, a3, a4⟩, u4, rfl, m4, by rwa [by_Chz] at z4⟩
theorem opn_lStz : Opn enc W 22 (cQz W.heap.size (Try.prog.bytesOf 52) 5 (cStz W.heap.size)) := opn_lz Try.underlying22 cl_St (by decide) by_St opn_Stz
set_option maxRecDepth 100000 in
theorem arg_stepsz {base : Nat} {ts : List TypeId} {ds : List (DataW H)} {j : Nat} {v : Value} {d : DataW H} {p : List MemPlace} (hv : Value.okWide Try.prog W .any base 22 v) (h : DataW.Trod enc Try.prog W 0 (fun _ => true) true 22 v d p) (hsz : (DataW.weightsEach Try.prog ts ds).all (· ≤ reachBytes) = true) (ht : ts[j]? = some 22) (hd : ds[j]? = some d) : ∃ (l : List StM) (la : Option Addr) (lc : Nat), v = .slice la l.length lc ∧ Sts W.heap.size W l la ∧ l.length ≤ 2513169434843 ∧ ∀ s ∈ l, s.ch.length ≤ 8796093021952 := by
  have hw : ∀ n ∈ d.weights Try.prog 22, n ≤ reachBytes := fun n hn => of_decide_eq_true (List.all_eq_true.1 hsz _ (DataW.weights_mem_each ht hd n hn))
  obtain ⟨a, n, c, rfl⟩ := okWide_slice Try.underlying22 hv
  obtain ⟨fuel, h⟩ := h
  obtain ⟨l, v', e, hr, hz⟩ := opn_lStz fuel _ d p h hw
  cases e
  obtain ⟨ea, ec, e2, _⟩ := hr.form
  rw [by_Stz] at hz
  rw [e2] at hr ⊢
  have hr2 := RR.mono (Nat.le_refl _) hr (c' := cStA W.heap.size) fun s xs ⟨v, e, m, _⟩ => ⟨v, e, m⟩
  refine ⟨l, ea, ec, rfl, sts_rr hr2, by omega, fun s hs => ?_⟩
  obtain ⟨i, hi, rfl⟩ := List.mem_iff_getElem.1 hs
  obtain ⟨xs, v, _, _, hzz⟩ := RR.mem hr (List.getElem?_eq_getElem hi)
  omega
end
end Go.Proofs.Ytagpdceaononkaa
