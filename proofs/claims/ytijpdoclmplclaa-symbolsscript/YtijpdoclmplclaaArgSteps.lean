/- A slice of steps among the arguments. -/
import Derived.Test.YtijpdoclmplclaaArgs
import Derived.Deep.Strs
import Derived.Deep.Slices
namespace Go.Proofs.Ytijpdoclmplclaa
open Go.ChangeShapes Go.WideShapes Go.ChangeAt Go.RowKit Go.Deep

theorem bytesStep : Try.prog.bytesOf 37 = 32 := by kernel_rfl
theorem cellsStep : Try.prog.cellsOf 37 = 3 := by kernel_rfl
theorem cellsI : Try.prog.cellsOf 3 = 1 := by kernel_rfl

/-- The steps of a slice. -/
def Steps (w : World) (a : Option Addr) (n : Nat) : Prop := ∀ i, i < n → ∃ g o what s m, a = some ⟨g, o, none⟩ ∧ w.cell? ⟨g, o + i * 3, none⟩ = some (.int .i64 what) ∧ w.cell? ⟨g, o + i * 3 + 1, none⟩ = some (.string s) ∧ w.cell? ⟨g, o + i * 3 + 2, none⟩ = some (.int .i64 m) ∧ g < w.heap.size ∧ s.size ≤ maxLen

theorem mem_weightsAll {H : Type} {P : Program} {e : TypeId} : ∀ {ds : List (DataW H)} {d : DataW H} {n : Nat}, d ∈ ds → n ∈ d.weights P e → n ∈ DataW.weightsAll P e ds := by
  intro ds
  induction ds with
  | nil => intro d n h; simp at h
  | cons x r ih =>
    intro d n h hn
    simp only [DataW.weightsAll, List.mem_append]
    rcases List.mem_cons.1 h with e1 | e1
    · subst e1; exact .inl hn
    · exact .inr (ih e1 hn)

set_option maxRecDepth 100000 in
theorem arg_steps {H : Type} {enc : TypeId × Value → H} {W : World} {base : Nat} {ts : List TypeId} {ds : List (DataW H)} {j : Nat} {v : Value} {d : DataW H} {p : List MemPlace}
    (hv : Value.okWide Try.prog W .any base 33 v) (h : DataW.Trod enc Try.prog W 0 (fun _ => true) true 33 v d p) (hsz : (DataW.weightsEach Try.prog ts ds).all (· ≤ reachBytes) = true) (ht : ts[j]? = some 33) (hd : ds[j]? = some d) :
    ∃ a len cap, v = .slice a len cap ∧ len ≤ 140737488351232 ∧ Steps W a len := by
  obtain ⟨a, len, cap, rfl⟩ := okWide_slice Try.underlying33 hv
  obtain ⟨fuel, hf⟩ := h
  rcases open_slice Try.underlying33 hf with ⟨hcs, _⟩ | ⟨x, l, c, m, n, D, Pl, hcs, _, hl, hm, hmm, hx, hel⟩
  · simp [Value.cells] at hcs
    obtain ⟨rfl, rfl, rfl⟩ := hcs
    exact ⟨none, 0, 0, rfl, Nat.zero_le _, fun i hi => by omega⟩
  · simp [Value.cells] at hcs
    obtain ⟨rfl, rfl, rfl⟩ := hcs
    simp only [Prod.mk.injEq] at hx
    obtain ⟨hx1, _⟩ := hx
    have hm2 : m = cap := by simpa using hmm
    have hs := sized_slice hsz ht (by rw [hd, hx1]) Try.underlying33
    rw [bytesStep] at hs
    simp only [List.length_map, List.length_range, reachBytes] at hs
    have each : ∀ i, i < len → ∃ k s q, D i = .agg [.lit (.int .i64 k), .lit (.string s.data.toList), .lit (.int .i64 q)] ∧ (∀ t, t < 3 → W.cell? ((x.add (i * 3)).add t) = ([Value.int .i64 k, .string s, .int .i64 q] : List Value)[t]?) := by
      intro i hi
      obtain ⟨cs', h1, h2⟩ := hel i (by omega)
      rw [cellsStep] at h1
      obtain ⟨_, hlen, hcell⟩ := World.cells?_some h1
      obtain ⟨y0, y1, y2, n', e0, _, t0, t1, t2⟩ := trod_struct3 Try.underlying37 h2
      match cs', hlen with
      | [u0, u1, u2], _ =>
        simp only [cellsI, cellsS, List.drop_zero, List.drop_succ_cons, List.take_succ_cons, List.take_zero] at t0 t1 t2
        obtain ⟨k, hk1, hk2, _⟩ := DataW.trod_int Try.underlying3 t0
        obtain ⟨s, hs1, hs2, _⟩ := DataW.trod_string Try.underlying9 t1
        obtain ⟨q, hq1, hq2, _⟩ := DataW.trod_int Try.underlying3 t2
        simp only [List.cons.injEq, and_true] at hk1 hs1 hq1
        subst hk1
        subst hs1
        subst hq1
        refine ⟨k, s, q, ?_, hcell⟩
        have := (Prod.mk.injEq _ _ _ _ ▸ e0).1
        rw [this, hk2, hs2, hq2]
    refine ⟨some x, len, cap, rfl, by omega, fun i hi => ?_⟩
    obtain ⟨k, s, q, hD, hc⟩ := each i hi
    have c0 := hc 0 (by omega)
    have c1 := hc 1 (by omega)
    have c2 := hc 2 (by omega)
    obtain ⟨b, off, spot⟩ := x
    have hspot : spot = none := by
      obtain ⟨_, _, _, _, hc0⟩ := each 0 (by omega)
      have := World.cell?_spot (hc0 0 (by omega))
      simpa [Addr.add] using this
    subst hspot
    rw [Addr.add_lit, Addr.add_lit] at c0 c1 c2
    have c0' : W.cell? ⟨b, off + i * 3, none⟩ = some (.int .i64 k) := by simpa using c0
    refine ⟨b, off, k, s, q, rfl, c0', by simpa using c1, by simpa using c2, World.block_lt_of_cell? W _ c0', ?_⟩
    have hw : s.data.toList.length ∈ DataW.weightsEach Try.prog ts ds := by
      refine DataW.weights_mem_each ht hd _ ?_
      rw [hx1]
      simp only [DataW.weights, Try.underlying33, List.mem_cons, List.mem_append]
      refine .inr (.inl (mem_weightsAll (d := D i) (List.mem_map.2 ⟨i, by simpa using hi, rfl⟩) ?_))
      rw [hD]
      simp [DataW.weights, Try.underlying37, DataW.weightsEach]
    have h3 := of_decide_eq_true (List.all_eq_true.1 hsz _ hw)
    rw [Array.length_toList] at h3
    have h4 : s.size ≤ reachBytes := h3
    unfold maxLen
    simp only [reachBytes] at h4
    omega
end Go.Proofs.Ytijpdoclmplclaa
