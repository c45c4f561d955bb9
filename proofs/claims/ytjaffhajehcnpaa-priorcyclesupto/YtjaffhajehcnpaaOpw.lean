/- Lists of lists among the arguments, opened by the bound of the second form. -/
import Derived.Test.YtjaffhajehcnpaaRows
import Derived.Test.YtjaffhajehcnpaaMem
import Derived.Test.YtjaffhajehcnpaaGrf
import Derived.JoinedCond
import Derived.OpenShut
import Derived.SizedLaws
import Derived.Deep.Strs
import Derived.Deep.Slices
namespace Go.Proofs.Ytjaffhajehcnpaa
open Go.ChangeShapes Go.WideShapes Go.RowKit Go.Deep

theorem bulk_sum {H : Type} : ∀ l : List (DataW H), Rows.uptoBulkAll l = (l.map Rows.uptoBulk).sum
  | [] => by rw [Rows.uptoBulkAll]; rfl
  | x :: r => by rw [Rows.uptoBulkAll, bulk_sum r, List.map_cons, List.sum_cons]
theorem bulk_part {H : Type} {d : DataW H} : ∀ {l : List (DataW H)}, d ∈ l → Rows.uptoBulk d ≤ Rows.uptoBulkAll l
  | x :: r, h => by
    rw [Rows.uptoBulkAll]
    rcases List.mem_cons.1 h with e | e
    · rw [e]; omega
    · have := bulk_part e; omega
theorem bulk_limit {H : Type} {l : List (DataW H)} (hk : Rows.uptoSmall H l = true) : Rows.uptoBulkAll l ≤ 1048576 := of_decide_eq_true hk
theorem bulk_one {H : Type} (d : DataW H) : 1 ≤ Rows.uptoBulk d := by
  cases d with
  | lit l => cases l <;> (rw [Rows.uptoBulk]; try omega)
             all_goals simp
  | _ => rw [Rows.uptoBulk]; omega
theorem sum_mono {f g : Nat → Nat} : ∀ {l : List Nat}, (∀ i ∈ l, f i ≤ g i) → (l.map f).sum ≤ (l.map g).sum
  | [], _ => by simp
  | x :: r, h => by
    rw [List.map_cons, List.map_cons, List.sum_cons, List.sum_cons]
    have := h x (by simp)
    have := sum_mono (l := r) fun i hi => h i (by simp [hi])
    omega
theorem sum_one {α : Type} : ∀ l : List α, (l.map fun _ => 1).sum = l.length
  | [] => rfl
  | x :: r => by rw [List.map_cons, List.sum_cons, sum_one r, List.length_cons]; omega
section
variable {H : Type} {enc : TypeId × Value → H} {W : World}
/-- What of this type is read has this form, and this many things at most. -/
def Opw {α : Type} (enc : TypeId × Value → H) (W : World) (t : TypeId) (c : World → α → List Value → Prop) (mu : α → Nat) : Prop :=
  ∀ fuel cs d p, DataW.trod enc Try.prog W 0 (fun _ => true) true fuel t cs = some (d, p) → Rows.uptoBulk d ≤ 1048576 → ∃ a, c W a cs ∧ mu a ≤ Rows.uptoBulk d
def cQ {α : Type} (N k : Nat) (c : World → α → List Value → Prop) (w : World) (l : List α) (xs : List Value) : Prop := ∃ v, xs = [v] ∧ RR N k c w l v
theorem opw_i {t : TypeId} (ht : Try.prog.underlying t = some (.int .i64)) : Opw enc W t cI (fun _ => 1) := by
  intro fuel cs d p h _
  obtain ⟨k, rfl, hd, _⟩ := DataW.trod_int ht h
  refine ⟨k, rfl, ?_⟩
  simp only [Prod.mk.injEq] at hd
  obtain ⟨rfl, _⟩ := hd
  exact bulk_one _
theorem opw_l {α : Type} [Inhabited α] {t e : TypeId} {c : World → α → List Value → Prop} {mu : α → Nat} (ht : Try.prog.underlying t = some (.slice e)) (hk : Try.prog.cellsOf e = 1) (ho : Opw enc W e c mu) : Opw enc W t (cQ W.heap.size 1 c) (fun l => (l.map mu).sum + 1) := by
  intro fuel cs d p h hw
  rcases open_slice1 ht hk h with ⟨rfl, e⟩ | ⟨x, len, cap, m, n, V, D, Pl, rfl, _, hl, hm, hmm, hx, hel⟩
  · simp only [Prod.mk.injEq] at e
    obtain ⟨rfl, _⟩ := e
    exact ⟨[], ⟨_, rfl, none, 0, rfl, Nat.zero_le _, Nat.zero_le _, fun i x hi => by simp at hi⟩, by show ([].map mu).sum + 1 ≤ _; exact bulk_one _⟩
  · simp only [Prod.mk.injEq] at hx
    obtain ⟨rfl, _⟩ := hx
    have hm2 : m = cap := by simpa using hmm
    rw [Rows.uptoBulk] at hw ⊢
    have hs := bulk_sum ((List.range len).map D)
    rw [List.map_map] at hs
    obtain ⟨A, hA⟩ := choose_lt (α := α) (n := len) (p := fun i a => c W a [V i] ∧ mu a ≤ Rows.uptoBulk (D i)) fun i hi => by
      have hb := bulk_part (d := D i) (l := (List.range len).map D) (List.mem_map.2 ⟨i, by simpa using hi, rfl⟩)
      exact ho _ _ _ _ (hel i (by omega)).2 (by omega)
    refine ⟨(List.range len).map A, ⟨_, rfl, some x, cap, by simp, by simpa using hl, ?_, fun i a hi => ?_⟩, ?_⟩
    · simp
      unfold maxLen at hm
      have h1 : ((List.range len).map (fun _ : Nat => 1)).sum ≤ ((List.range len).map (Rows.uptoBulk ∘ D)).sum := sum_mono fun i _ => bulk_one (D i)
      have h2 : ((List.range len).map (fun _ : Nat => 1)).sum = len := by rw [sum_one]; simp
      omega
    · rw [List.getElem?_map] at hi
      obtain ⟨j, hj, rfl⟩ := Option.map_eq_some_iff.1 hi
      have hjl := (List.getElem?_eq_some_iff.1 hj).1
      simp at hjl
      rw [List.getElem?_range hjl] at hj
      cases hj
      obtain ⟨h1, h2⟩ := hel i (by omega)
      obtain ⟨b, off, spot⟩ := x
      have hspot : spot = none := by
        have h0 := (hel 0 (by omega)).1
        simpa [Addr.add] using World.cell?_spot h0
      subst hspot
      rw [Addr.add_lit] at h1
      refine ⟨b, off, [V i], rfl, World.block_lt_of_cell? W _ h1, rfl, fun j u hu => ?_, (hA i hjl).1⟩
      match j, hu with
      | 0, hu => simp at hu; subst hu; rw [Nat.mul_one]; exact h1
    · show (((List.range len).map A).map mu).sum + 1 ≤ _
      rw [List.map_map]
      have h1 := sum_mono (l := List.range len) (f := mu ∘ A) (g := Rows.uptoBulk ∘ D) fun i hi => (hA i (by simpa using hi)).2
      rw [hs]
      omega
theorem cl_i : Try.prog.cellsOf 3 = 1 := by kernel_rfl
theorem cl_I : Try.prog.cellsOf 27 = 1 := by kernel_rfl
theorem opw_I : Opw enc W 27 (cL W.heap.size) (fun l => l.length + 1) := fun f cs d p h hw => by
  obtain ⟨l, h1, h2⟩ := opw_l Try.underlying27 cl_i (opw_i Try.underlying3) f cs d p h hw
  have h3 : (l.map fun _ => 1).sum + 1 ≤ Rows.uptoBulk d := h2
  rw [sum_one] at h3
  exact ⟨l, h1, h3⟩
theorem opw_L : Opw enc W 22 (cQ W.heap.size 1 (cL W.heap.size)) (fun l => total l + l.length + 1) := fun f cs d p h hw => by
  obtain ⟨l, h1, h2⟩ := opw_l Try.underlying22 cl_I opw_I f cs d p h hw
  have e : ∀ l : List (List Int), (l.map fun x => x.length + 1).sum = total l + l.length := by
    intro l
    unfold total
    induction l with
    | nil => rfl
    | cons x r ih => rw [List.map_cons, List.sum_cons, List.map_cons, List.sum_cons, ih, List.length_cons]; omega
  have h3 : (l.map fun x => x.length + 1).sum + 1 ≤ Rows.uptoBulk d := h2
  rw [e] at h3
  exact ⟨l, h1, h3⟩
set_option maxRecDepth 100000 in
/-- Lists of numbers among the arguments. -/
theorem arg_lists {base : Nat} {ds : List (DataW H)} {v : Value} {d : DataW H} {p : List MemPlace} (hv : Value.okWide Try.prog W .any base 22 v) (h : DataW.Trod enc Try.prog W 0 (fun _ => true) true 22 v d p) (hsz : Rows.uptoSmall H ds = true) (hd : d ∈ ds) : ∃ l a c, v = .slice a l.length c ∧ Lists W.heap.size W l (.slice a l.length c) ∧ l.length ≤ 1048576 ∧ total l ≤ 1048576 := by
  obtain ⟨a, len, cap, rfl⟩ := okWide_slice Try.underlying22 hv
  obtain ⟨fuel, h⟩ := h
  have hb := Nat.le_trans (bulk_part hd) (bulk_limit hsz)
  obtain ⟨l, ⟨v, e, m⟩, hl0⟩ := opw_L fuel _ d p h hb
  have hl : total l + l.length + 1 ≤ Rows.uptoBulk d := hl0
  simp only [Value.cells, List.cons.injEq, and_true] at e
  subst e
  obtain ⟨b1, c1, e1, _⟩ := m.form
  cases e1
  exact ⟨l, a, cap, rfl, m, by omega, by omega⟩
end
end Go.Proofs.Ytjaffhajehcnpaa
