/- Steps and bytes among the arguments, opened. -/
import Derived.Test.YtagpdceaononkaaWOwn
import Derived.OpenShut
import Derived.SizedLaws
import Derived.Deep.Strs
import Derived.Deep.Slices
import Derived.ProofKit
import Derived.ShutString
import Derived.ChangeOld
namespace Go.Proofs.Ytagpdceaononkaa
open Go.ChangeShapes Go.WideShapes Go.ChangeAt Go.RowKit Go.Deep

def cI (_ : World) (a : Int) (xs : List Value) : Prop := xs = [.int .i64 a]
def cP2 (_ : World) (x : Int × Int) (xs : List Value) : Prop := xs = [.int .i64 x.1, .int .i64 x.2]
theorem weightsAll_mem {H : Type} {P : Program} {e : TypeId} : ∀ {ds : List (DataW H)} {d : DataW H} {n : Nat}, d ∈ ds → n ∈ d.weights P e → n ∈ DataW.weightsAll P e ds := by
  intro ds
  induction ds with
  | nil => intro d n h; simp at h
  | cons x r ih =>
    intro d n h hn
    simp only [DataW.weightsAll, List.mem_append]
    rcases List.mem_cons.1 h with e1 | e1
    · subst e1; exact .inl hn
    · exact .inr (ih e1 hn)

section
variable {H : Type} {enc : TypeId × Value → H} {W : World}
/-- What of this type is read within reach has this form. -/
def Opn {α : Type} (enc : TypeId × Value → H) (W : World) (t : TypeId) (c : World → α → List Value → Prop) : Prop :=
  ∀ fuel cs d p, DataW.trod enc Try.prog W 0 (fun _ => true) true fuel t cs = some (d, p) → (∀ n ∈ d.weights Try.prog t, n ≤ reachBytes) → ∃ a, c W a cs
/-- A list in one cell. -/
def cQ {α : Type} (N k : Nat) (c : World → α → List Value → Prop) (w : World) (l : List α) (xs : List Value) : Prop := ∃ v, xs = [v] ∧ RR N k c w l v
theorem opn_i {t : TypeId} (ht : Try.prog.underlying t = some (.int .i64)) : Opn enc W t cI := by
  intro fuel cs d p h _
  obtain ⟨k, rfl, _, _⟩ := DataW.trod_int ht h
  exact ⟨k, rfl⟩
theorem opn_l {α : Type} {t e : TypeId} {k : Nat} {c : World → α → List Value → Prop} (ht : Try.prog.underlying t = some (.slice e)) (hk : Try.prog.cellsOf e = k) (hk1 : 0 < k) (hb : 1 ≤ Try.prog.bytesOf e) (ho : Opn enc W e c) : Opn enc W t (cQ W.heap.size k c) := by
  intro fuel cs d p h hw
  rcases open_slice ht h with ⟨rfl, _⟩ | ⟨x, len, cap, m, n, D, Pl, rfl, _, hl, hm, hmm, hx, hel⟩
  · exact ⟨[], _, rfl, none, 0, rfl, Nat.zero_le _, Nat.zero_le _, fun i x hi => by simp at hi⟩
  · simp only [Prod.mk.injEq] at hx
    obtain ⟨rfl, _⟩ := hx
    have hm2 : m = cap := by simpa using hmm
    simp only [DataW.weights, ht, List.mem_cons, List.mem_append] at hw
    have hs := hw _ (.inl rfl)
    simp only [List.length_map, List.length_range, reachBytes] at hs
    have hlen : len ≤ 140737488351232 := by
      have : len * 1 ≤ (len + (m - len)) * Try.prog.bytesOf e := Nat.mul_le_mul (by omega) hb
      omega
    rw [hk] at hel
    have each : ∀ i : _root_.Fin len, ∃ (a : α) (xs : List Value), xs.length = k ∧ (∀ j, j < k → W.cell? ((x.add (i.1 * k)).add j) = xs[j]?) ∧ c W a xs := by
      intro i
      obtain ⟨cs', h1, h2⟩ := hel i.1 (by omega)
      obtain ⟨_, hlen, hcell⟩ := World.cells?_some h1
      obtain ⟨a, ha⟩ := ho _ _ _ _ h2 fun q hq => hw q (.inr (.inl (weightsAll_mem (List.mem_map.2 ⟨i.1, by simp, rfl⟩) hq)))
      exact ⟨a, cs', hlen, hcell, ha⟩
    obtain ⟨b, off, spot⟩ := x
    refine ⟨List.ofFn fun i => Classical.choose (each i), _, rfl, some ⟨b, off, spot⟩, cap, by simp, by simpa using hl, by simpa using hlen, ?_⟩
    intro i a hi
    have hil : i < len := by
      apply Classical.byContradiction
      intro hn
      rw [List.getElem?_eq_none (by simp; omega)] at hi
      cases hi
    have ha : Classical.choose (each ⟨i, hil⟩) = a := by
      rw [List.getElem?_eq_getElem (by simp; exact hil)] at hi
      simpa using hi
    obtain ⟨xs, h1, h2, h3⟩ := Classical.choose_spec (each ⟨i, hil⟩)
    rw [ha] at h3
    have h0 := h2 0 hk1
    rw [List.getElem?_eq_getElem (by omega)] at h0
    have hspot : spot = none := by
      obtain ⟨_, ys, y1, y2, _⟩ := each ⟨0, by omega⟩
      have z0 := y2 0 hk1
      rw [List.getElem?_eq_getElem (by omega)] at z0
      have := World.cell?_spot z0
      simpa [Addr.add] using this
    subst hspot
    rw [Addr.add_lit, Addr.add_lit] at h0
    refine ⟨b, off, xs, rfl, World.block_lt_of_cell? W _ h0, h1, fun j u hu => ?_, h3⟩
    have hj : j < k := by
      apply Classical.byContradiction
      intro hn
      rw [List.getElem?_eq_none (by omega)] at hu
      cases hu
    have := h2 j hj
    rw [Addr.add_lit, Addr.add_lit, hu] at this
    exact this
/-- One field of a struct. -/
theorem opn_f {t : TypeId} {fs : Array Field} (ht : Try.prog.underlying t = some (.struct fs)) {fuel : Nat} {cs : List Value} {d : DataW H} {p : List MemPlace} (h : DataW.trod enc Try.prog W 0 (fun _ => true) true fuel t cs = some (d, p)) (hw : ∀ n ∈ d.weights Try.prog t, n ≤ reachBytes) (i : Nat) {f : Field} (hf : fs[i]? = some f) {α : Type} {c : World → α → List Value → Prop} (ho : Opn enc W f.type c) : ∃ a, c W a ((cs.drop f.offset).take (Try.prog.cellsOf f.type)) := by
  obtain ⟨xs, n, _, hx, _, hl, hi⟩ := DataW.trod_struct ht h
  simp only [Prod.mk.injEq] at hx
  obtain ⟨rfl, _⟩ := hx
  have hlt : i < fs.size := by
    apply Classical.byContradiction
    intro hn
    rw [Array.getElem?_eq_none (by omega)] at hf
    cases hf
  have h1 := hi i f hf
  have h2 : xs[i]? = some xs[i] := List.getElem?_eq_getElem (by omega)
  rw [h2] at h1
  simp only [DataW.weights, ht] at hw
  refine ho _ _ xs[i].1 xs[i].2 h1 fun q hq => hw q (DataW.weights_mem_each (j := i) (t := f.type) (d := xs[i].1) ?_ ?_ q hq)
  · rw [List.getElem?_map, Array.getElem?_toList, hf]; rfl
  · rw [List.getElem?_map, h2]; rfl
theorem opn_len {t : TypeId} {fs : Array Field} (ht : Try.prog.underlying t = some (.struct fs)) {fuel : Nat} {cs : List Value} {d : DataW H} {p : List MemPlace} (h : DataW.trod enc Try.prog W 0 (fun _ => true) true fuel t cs = some (d, p)) : cs.length = Try.prog.cellsOf t := by
  obtain ⟨xs, n, _, _, hl, _⟩ := DataW.trod_struct ht h
  exact hl
theorem cl_i : Try.prog.cellsOf 3 = 1 := by kernel_rfl
theorem by_i : 1 ≤ Try.prog.bytesOf 3 := of_decide_eq_true (by kernel_rfl)

def cStA (N : Nat) (w : World) (s : StM) (xs : List Value) : Prop := ∃ v, xs = [.int .i64 s.tag, .int .i64 s.lit, .int .i64 s.how, .int .i64 s.rule, v] ∧ RR N 2 cP2 w s.ch v
theorem cl_tg : Try.prog.cellsOf 48 = 1 := by kernel_rfl
theorem cl_hw : Try.prog.cellsOf 49 = 1 := by kernel_rfl
theorem cl_Ch : Try.prog.cellsOf 54 = 2 := by kernel_rfl
theorem cl_lCh : Try.prog.cellsOf 50 = 1 := by kernel_rfl
theorem cl_St : Try.prog.cellsOf 52 = 5 := by kernel_rfl
theorem by_Ch : 1 ≤ Try.prog.bytesOf 54 := of_decide_eq_true (by kernel_rfl)
theorem by_St : 1 ≤ Try.prog.bytesOf 52 := of_decide_eq_true (by kernel_rfl)
set_option maxRecDepth 100000 in
theorem opn_Ch : Opn enc W 54 cP2 := by
  intro fuel cs d p h hw
  have hl := opn_len Try.underlying54 h
  rw [cl_Ch] at hl
  obtain ⟨a0, h0⟩ := opn_f Try.underlying54 h hw 0 rfl (opn_i Try.underlying3)
  obtain ⟨a1, h1⟩ := opn_f Try.underlying54 h hw 1 rfl (opn_i Try.underlying3)
  clear h hw
  match cs, hl with
  | [u0, u1], _ =>
    simp only [cl_i, List.getElem_toArray, List.getElem_cons_zero, List.getElem_cons_succ, List.drop_zero, List.drop_succ_cons, List.take_succ_cons, List.take_zero] at h0 h1
    cases h0
    cases h1
    exact ⟨(a0, a1), rfl⟩
theorem opn_lCh : Opn enc W 50 (cQ W.heap.size 2 cP2) := opn_l Try.underlying50 cl_Ch (by decide) by_Ch opn_Ch
set_option maxRecDepth 100000 in
theorem opn_St : Opn enc W 52 (cStA W.heap.size) := by
  intro fuel cs d p h hw
  have hl := opn_len Try.underlying52 h
  rw [cl_St] at hl
  obtain ⟨a0, h0⟩ := opn_f Try.underlying52 h hw 0 rfl (opn_i Try.underlying48)
  obtain ⟨a1, h1⟩ := opn_f Try.underlying52 h hw 1 rfl (opn_i Try.underlying3)
  obtain ⟨a2, h2⟩ := opn_f Try.underlying52 h hw 2 rfl (opn_i Try.underlying49)
  obtain ⟨a3, h3⟩ := opn_f Try.underlying52 h hw 3 rfl (opn_i Try.underlying3)
  obtain ⟨a4, h4⟩ := opn_f Try.underlying52 h hw 4 rfl opn_lCh
  clear h hw
  match cs, hl with
  | [u0, u1, u2, u3, u4], _ =>
    simp only [cl_i, cl_tg, cl_hw, cl_lCh, List.getElem_toArray, List.getElem_cons_zero, List.getElem_cons_succ, List.drop_zero, List.drop_succ_cons, List.take_succ_cons, List.take_zero] at h0 h1 h2 h3 h4
    cases h0
    cases h1
    cases h2
    cases h3
    obtain ⟨v4, e4, m4⟩ := h4
    cases e4
    exact ⟨⟨a0, a1, a2, a3, a4⟩, u4, rfl, m4⟩
theorem opn_lSt : Opn enc W 22 (cQ W.heap.size 5 (cStA W.heap.size)) := opn_l Try.underlying22 cl_St (by decide) by_St opn_St
theorem chn_rr {N : Nat} {w : World} {l : List (Int × Int)} {a : Option Addr} {n c : Nat} (h : RR N 2 cP2 w l (.slice a n c)) : ChN N w a l := by
  intro i x hi
  obtain ⟨g, o, xs, ea, hg, _, hc, hx⟩ := RR.open h hi
  unfold cP2 at hx
  subst hx
  exact ⟨g, o, ea, hg, by have := hc 0 _ rfl; simpa using this, by have := hc 1 _ rfl; simpa using this⟩
theorem rr_lim {α : Type} {N k : Nat} {c : World → α → List Value → Prop} {w : World} {l : List α} {v : Value} (h : RR N k c w l v) : l.length ≤ 140737488351232 := by
  obtain ⟨_, _, _, _, h, _⟩ := h
  exact h
theorem sts_rr {N : Nat} {w : World} {l : List StM} {a : Option Addr} {n c : Nat} (h : RR N 5 (cStA N) w l (.slice a n c)) : Sts N w l a := by
  intro i s hi
  obtain ⟨g, o, xs, ea, hg, _, hc, ⟨v, hx, hv⟩⟩ := RR.open h hi
  subst hx
  obtain ⟨ca, cc, rfl, _⟩ := hv.form
  exact ⟨g, o, ca, cc, ea, hg, by have := hc 0 _ rfl; simpa using this, by have := hc 1 _ rfl; simpa using this, by have := hc 2 _ rfl; simpa using this, by have := hc 3 _ rfl; simpa using this, by have := hc 4 _ rfl; simpa using this, rr_lim hv, chn_rr hv⟩
set_option maxRecDepth 100000 in
theorem arg_steps {base : Nat} {ts : List TypeId} {ds : List (DataW H)} {j : Nat} {v : Value} {d : DataW H} {p : List MemPlace} (hv : Value.okWide Try.prog W .any base 22 v) (h : DataW.Trod enc Try.prog W 0 (fun _ => true) true 22 v d p) (hsz : (DataW.weightsEach Try.prog ts ds).all (· ≤ reachBytes) = true) (ht : ts[j]? = some 22) (hd : ds[j]? = some d) : ∃ (l : List StM) (la : Option Addr) (lc : Nat), v = .slice la l.length lc ∧ Sts W.heap.size W l la ∧ l.length ≤ 140737488351232 := by
  have hw : ∀ n ∈ d.weights Try.prog 22, n ≤ reachBytes := fun n hn => of_decide_eq_true (List.all_eq_true.1 hsz _ (DataW.weights_mem_each ht hd n hn))
  obtain ⟨a, n, c, rfl⟩ := okWide_slice Try.underlying22 hv
  obtain ⟨fuel, h⟩ := h
  obtain ⟨l, v', e, hr⟩ := opn_lSt fuel _ d p h hw
  cases e
  obtain ⟨ea, ec, e2, _⟩ := hr.form
  have hlim := rr_lim hr
  rw [e2] at hr ⊢
  exact ⟨l, ea, ec, rfl, sts_rr hr, hlim⟩
end
theorem bytes5 : Try.prog.bytesOf 5 = 1 := by kernel_rfl
theorem cells5 : Try.prog.cellsOf 5 = 1 := by kernel_rfl

theorem row_of_cells {w : World} {x : Addr} {len cap : Nat} {zs : List Int} (_hl : len ≤ cap) (hz : zs.length = cap) (hcell : ∀ i, i < zs.length → w.cell? (x.add i) = some (.int .u8 (zs.getD i 0))) (hwz : ∀ n ∈ zs, (Lit.int .u8 n).wf = true) :
    Row w (some x) (zs.take len) := by
  refine ⟨fun hne => ?_, bytes_getD fun z hz => bounds_u8 (hwz z (List.mem_of_mem_take hz))⟩
  have hpos : 0 < len ∧ 0 < zs.length := by
    constructor
    · rcases Nat.eq_zero_or_pos len with h | h
      · subst h; simp at hne
      · exact h
    · rcases Nat.eq_zero_or_pos zs.length with h | h
      · have := List.eq_nil_of_length_eq_zero h; subst this; simp at hne
      · exact h
  obtain ⟨b, off, spot⟩ := x
  have hc := hcell 0 hpos.2
  have hspot : spot = none := by simpa [Addr.add] using World.cell?_spot hc
  subst hspot
  refine ⟨b, off, rfl, fun i hi => ?_⟩
  have hi' : i < len ∧ i < zs.length := by rw [List.length_take] at hi; omega
  have := hcell i hi'.2
  rw [Addr.add_lit] at this
  rw [this]
  simp [List.getD, hi'.1]

set_option maxRecDepth 100000 in
/-- A slice of bytes among the arguments. -/
theorem arg_bytes {H : Type} {enc : TypeId × Value → H} {W : World} {base : Nat} {ts : List TypeId} {ds : List (DataW H)} {j : Nat} {v : Value} {d : DataW H} {p : List MemPlace}
    (hv : Value.okWide Try.prog W .any base 29 v) (h : DataW.Trod enc Try.prog W 0 (fun _ => true) true 29 v d p) (hsz : (DataW.weightsEach Try.prog ts ds).all (· ≤ reachBytes) = true) (ht : ts[j]? = some 29) (hd : ds[j]? = some d) :
    ∃ a len cap zs, v = .slice a len cap ∧ zs.length = len ∧ len ≤ cap ∧ len ≤ 140737488351232 ∧ (a = none → cap = 0) ∧ Row W a zs := by
  obtain ⟨a, len, cap, rfl⟩ := okWide_slice Try.underlying29 hv
  obtain ⟨fuel, hf⟩ := h
  rcases open_ints Try.underlying29 Try.underlying5 cells5 hf with ⟨hcs, _⟩ | ⟨x, l, c, zs, hcs, _, hl, hm, hz, hx, hcell, hwz⟩
  · simp [Value.cells] at hcs
    obtain ⟨rfl, rfl, rfl⟩ := hcs
    exact ⟨none, 0, 0, [], rfl, rfl, Nat.le_refl _, Nat.zero_le _, fun _ => rfl, ⟨fun h => absurd rfl h, by simp⟩⟩
  · simp [Value.cells] at hcs
    obtain ⟨rfl, rfl, rfl⟩ := hcs
    have hz' : zs.length = cap := by simpa using hz
    simp only [Prod.mk.injEq] at hx
    obtain ⟨rfl, rfl⟩ := hx
    have hs := sized_slice hsz ht hd Try.underlying29
    rw [bytes5] at hs
    simp only [lits, List.length_map, List.length_take, List.length_drop, reachBytes] at hs
    refine ⟨some x, len, cap, zs.take len, rfl, by simp; omega, hl, by omega, by simp, row_of_cells hl hz' hcell hwz⟩

end Go.Proofs.Ytagpdceaononkaa
