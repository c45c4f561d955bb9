/- Places that name others: circles, orders; no Go in sight. -/
import Derived.KernelRfl
namespace Go.Proofs.YtbdlgglbcaoakaaGreat.Pr

/-- There is an edge. -/
def Ed (next : List (List Int)) (a b : Nat) : Prop := b < next.length ∧ (b : Int) ∈ next.getD a []
theorem Ed.lt {next : List (List Int)} {a b : Nat} (h : Ed next a b) : a < next.length := by
  apply Classical.byContradiction
  intro hn
  have := h.2
  rw [List.getD_eq_getElem?_getD, List.getElem?_eq_none (by omega)] at this
  simp at this
/-- A circle. -/
structure IsCyc (next : List (List Int)) (l : List Nat) : Prop where
  ne : l ≠ []
  nd : l.Nodup
  lt : ∀ a ∈ l, a < next.length
  ed : ∀ i a b, l[i]? = some a → l[(i + 1) % l.length]? = some b → Ed next a b
/-- What falls along every edge. -/
def Acy (next : List (List Int)) : Prop := ∃ rk : Nat → Nat, ∀ a b, Ed next a b → rk b < rk a
theorem min_of (rk : Nat → Nat) : ∀ {l : List Nat}, l ≠ [] → ∃ a ∈ l, ∀ b ∈ l, rk a ≤ rk b
  | [x], _ => ⟨x, by simp, by simp⟩
  | x :: y :: r, _ => by
    obtain ⟨a, ha, h⟩ := min_of rk (l := y :: r) (by simp)
    by_cases hx : rk x ≤ rk a
    · refine ⟨x, by simp, fun b hb => ?_⟩
      rcases List.mem_cons.1 hb with e | e
      · rw [e]; exact Nat.le_refl _
      · exact Nat.le_trans hx (h b e)
    · refine ⟨a, List.mem_cons_of_mem _ ha, fun b hb => ?_⟩
      rcases List.mem_cons.1 hb with e | e
      · rw [e]; omega
      · exact h b e
theorem acy_cyc {next : List (List Int)} {l : List Nat} (h : Acy next) (hc : IsCyc next l) : False := by
  obtain ⟨rk, hr⟩ := h
  obtain ⟨a, ha, hm⟩ := min_of rk hc.ne
  obtain ⟨i, hi⟩ := List.getElem?_of_mem ha
  have hl : 0 < l.length := by cases l with | nil => exact absurd rfl hc.ne | cons _ _ => simp
  have hj : (i + 1) % l.length < l.length := Nat.mod_lt _ hl
  have h1 := hc.ed i a _ hi (List.getElem?_eq_getElem hj)
  have h2 := hr _ _ h1
  have h3 := hm _ (List.getElem_mem hj)
  omega
/-- A way that closes. -/
theorem cyc_of {next : List (List Int)} {l : List Nat} {a z : Nat} (nd : l.Nodup) (lt : ∀ a ∈ l, a < next.length) (hd : l[0]? = some a) (hz : l[l.length - 1]? = some z) (hc : ∀ i a b, l[i]? = some a → l[i + 1]? = some b → Ed next a b) (he : Ed next z a) : IsCyc next l := by
  have hl : 0 < l.length := (List.getElem?_eq_some_iff.1 hd).1
  refine ⟨fun e => by subst e; simp at hl, nd, lt, fun i x y hx hy => ?_⟩
  have hi := (List.getElem?_eq_some_iff.1 hx).1
  by_cases h : i + 1 < l.length
  · rw [Nat.mod_eq_of_lt h] at hy
    exact hc i x y hx hy
  · have e : i = l.length - 1 := by omega
    have e2 : i + 1 = l.length := by omega
    rw [e2, Nat.mod_self, hd] at hy
    rw [e, hz] at hx
    cases hx; cases hy
    exact he

/-! How many can there be. -/
theorem nodup_le : ∀ {n : Nat} {l : List Nat}, l.Nodup → (∀ a ∈ l, a < n) → l.length ≤ n
  | 0, l, _, h => by
    cases l with
    | nil => simp
    | cons x r => have := h x (by simp); omega
  | n + 1, l, nd, h => by
    have h1 : (l.erase n).Nodup := nd.erase n
    have h2 : ∀ a ∈ l.erase n, a < n := fun a ha => by
      have h3 := h a (List.mem_of_mem_erase ha)
      have h4 : a ≠ n := fun e => by subst e; exact (List.Nodup.not_mem_erase nd) ha
      omega
    have h5 := nodup_le h1 h2
    by_cases hm : n ∈ l
    · rw [List.length_erase_of_mem hm] at h5; omega
    · rw [List.erase_of_not_mem hm] at h5; omega
theorem all_in {n : Nat} {l : List Nat} (nd : l.Nodup) (h : ∀ a ∈ l, a < n) (hl : l.length = n) {k : Nat} (hk : k < n) : k ∈ l := by
  apply Classical.byContradiction
  intro hn
  have := nodup_le (n := n) (l := k :: l) (List.nodup_cons.2 ⟨hn, nd⟩) fun a ha => by
    rcases List.mem_cons.1 ha with e | e
    · omega
    · exact h a e
  simp at this
  omega
theorem some_out : ∀ {n : Nat} {l : List Nat}, l.length < n → ∃ k, k < n ∧ k ∉ l := by
  intro n l hl
  apply Classical.byContradiction
  intro hn
  have hall : ∀ k, k < n → k ∈ l := fun k hk => Classical.byContradiction fun h => hn ⟨k, hk, h⟩
  have key : ∀ (m : Nat) (l : List Nat), (∀ k, k < m → k ∈ l) → m ≤ l.length := by
    intro m
    induction m with
    | zero => intro l _; omega
    | succ m ih =>
      intro l h
      have hm := h m (by omega)
      have := ih (l.erase m) fun k hk => (List.mem_erase_of_ne (by omega)).2 (h k (by omega))
      rw [List.length_erase_of_mem hm] at this
      have hp : 0 < l.length := List.length_pos_of_mem hm
      omega
  have := key n l hall
  omega

/-! Orders. -/
def Free (next : List (List Int)) (out : List Nat) (k : Nat) : Prop := k < next.length ∧ k ∉ out ∧ ∀ a, Ed next a k → a ∈ out
def Kahn (next : List (List Int)) (l : List Nat) : Prop := ∀ j k, l[j]? = some k → Free next (l.take j) k ∧ ∀ i, Free next (l.take j) i → k ≤ i
def KMax (next : List (List Int)) (l : List Nat) : Prop := ∀ k, ¬ Free next l k
theorem kahn_nil {next : List (List Int)} : Kahn next [] := fun j k h => by simp at h
theorem kahn_snoc {next : List (List Int)} {l : List Nat} {p : Nat} (h : Kahn next l) (hp : Free next l p) (hm : ∀ i, Free next l i → p ≤ i) : Kahn next (l ++ [p]) := by
  intro j k hk
  by_cases hj : j < l.length
  · rw [List.getElem?_append_left hj] at hk
    rw [List.take_append_of_le_length (by omega)]
    exact h j k hk
  · have := (List.getElem?_eq_some_iff.1 hk).1
    simp at this
    have e : j = l.length := by omega
    subst e
    simp at hk
    subst hk
    rw [List.take_left]
    exact ⟨hp, hm⟩
theorem kahn_lt {next : List (List Int)} {l : List Nat} (h : Kahn next l) : ∀ a ∈ l, a < next.length := fun a ha => by
  obtain ⟨j, hj⟩ := List.getElem?_of_mem ha
  exact (h j a hj).1.1
theorem kahn_nd {next : List (List Int)} {l : List Nat} (h : Kahn next l) : l.Nodup := by
  refine List.pairwise_iff_getElem.2 fun i j hi hj hij he => ?_
  obtain ⟨x, hx⟩ : ∃ x, l[j]? = some x := ⟨l[j], List.getElem?_eq_getElem hj⟩
  have he : l[i]? = some x := by rw [List.getElem?_eq_getElem hi, he, ← hx, List.getElem?_eq_getElem hj]
  have := (h j x hx).1.2.1
  apply this
  exact List.mem_of_getElem? (i := i) (by rw [List.getElem?_take_of_lt hij]; exact he)
theorem nd_inj {l : List Nat} (h : l.Nodup) {i j a : Nat} (hi : l[i]? = some a) (hj : l[j]? = some a) : i = j := by
  obtain ⟨h1, e1⟩ := List.getElem?_eq_some_iff.1 hi
  obtain ⟨h2, e2⟩ := List.getElem?_eq_some_iff.1 hj
  have h := List.pairwise_iff_getElem.1 h
  rcases Nat.lt_trichotomy i j with e | e | e
  · exact absurd (e1.trans e2.symm) (h i j h1 h2 e)
  · exact e
  · exact absurd (e2.trans e1.symm) (h j i h2 h1 e)
theorem kahn_before {next : List (List Int)} {l : List Nat} (h : Kahn next l) {i j a b : Nat} (hi : l[i]? = some a) (hj : l[j]? = some b) (he : Ed next a b) : i < j := by
  have hm := (h j b hj).1.2.2 a he
  obtain ⟨i2, h2⟩ := List.getElem?_of_mem hm
  have hl := (List.getElem?_eq_some_iff.1 h2).1
  rw [List.length_take] at hl
  rw [List.getElem?_take_of_lt (by omega)] at h2
  have := nd_inj (kahn_nd h) hi h2
  omega
theorem kahn_uniq {next : List (List Int)} {l m : List Nat} (hl : Kahn next l) (hlm : KMax next l) (hm : Kahn next m) (hmm : KMax next m) : l = m := by
  have key : ∀ j, l.take j = m.take j := by
    intro j
    induction j with
    | zero => simp
    | succ j ih =>
      rw [List.take_add_one, List.take_add_one, ih]
      congr 1
      cases hx : l[j]? with
      | none =>
        have e : l.take j = l := List.take_of_length_le (by rw [List.getElem?_eq_none_iff] at hx; exact hx)
        cases hy : m[j]? with
        | none => rfl
        | some y =>
          have := (hm j y hy).1
          rw [← ih, e] at this
          exact absurd this (hlm y)
      | some x =>
        have h1 := hl j x hx
        cases hy : m[j]? with
        | none =>
          have e : m.take j = m := List.take_of_length_le (by rw [List.getElem?_eq_none_iff] at hy; exact hy)
          rw [ih, e] at h1
          exact absurd h1.1 (hmm x)
        | some y =>
          have h2 := hm j y hy
          rw [ih] at h1
          have := h1.2 y h2.1
          have := h2.2 x h1.1
          have : x = y := by omega
          rw [this]
  have := key (l.length + m.length)
  rwa [List.take_of_length_le (by omega), List.take_of_length_le (by omega)] at this
theorem kahn_len {next : List (List Int)} {l : List Nat} (h : Kahn next l) : l.length ≤ next.length := nodup_le (kahn_nd h) (kahn_lt h)
theorem kahn_acy {next : List (List Int)} {l : List Nat} (h : Kahn next l) (hl : l.length = next.length) : Acy next := by
  refine ⟨fun a => next.length - l.idxOf a, fun a b he => ?_⟩
  have ha := all_in (kahn_nd h) (kahn_lt h) hl he.lt
  have hb := all_in (kahn_nd h) (kahn_lt h) hl he.1
  have ia := List.idxOf_lt_length_of_mem ha
  have ib := List.idxOf_lt_length_of_mem hb
  have ea : l[l.idxOf a]? = some a := by rw [List.getElem?_eq_getElem ia, List.getElem_idxOf ia]
  have eb : l[l.idxOf b]? = some b := by rw [List.getElem?_eq_getElem ib, List.getElem_idxOf ib]
  have := kahn_before h ea eb he
  show next.length - l.idxOf b < next.length - l.idxOf a
  omega
theorem bound_of (rk : Nat → Nat) : ∀ n, ∃ M, ∀ k, k < n → rk k < M
  | 0 => ⟨0, fun k h => by omega⟩
  | n + 1 => by
    obtain ⟨M, h⟩ := bound_of rk n
    refine ⟨M + rk n + 1, fun k hk => ?_⟩
    by_cases e : k = n
    · subst e; omega
    · have := h k (by omega); omega
theorem kahn_cyc {next : List (List Int)} {l : List Nat} (hm : KMax next l) (hl : l.length < next.length) (ha : Acy next) : False := by
  obtain ⟨rk, hr⟩ := ha
  obtain ⟨M, hM⟩ := bound_of rk next.length
  obtain ⟨k, hk, hkl⟩ := some_out hl
  have key : ∀ d k, k < next.length → k ∉ l → M ≤ rk k + d → False := by
    intro d
    induction d with
    | zero => intro k hk _ h; have := hM k hk; omega
    | succ d ih =>
      intro k hk hkl h
      have hf := hm k
      have : ∃ a, Ed next a k ∧ a ∉ l := by
        apply Classical.byContradiction
        intro hn
        exact hf ⟨hk, hkl, fun a he => Classical.byContradiction fun h => hn ⟨a, he, h⟩⟩
      obtain ⟨a, he, hal⟩ := this
      have := hr _ _ he
      exact ih a he.lt hal (by omega)
  exact key M k hk hkl (by omega)

/-! How many times places that are not out name one. -/
def cnt (next : List (List Int)) (out : List Nat) (k : Nat) : Nat := ((List.range next.length).map fun a => if a ∈ out then 0 else (next.getD a []).count (k : Int)).sum
theorem sum_swap {f g : Nat → Nat} {p d : Nat} : ∀ {l : List Nat}, p ∈ l → l.Nodup → (∀ a ∈ l, a ≠ p → f a = g a) → f p = g p + d → (l.map f).sum = (l.map g).sum + d
  | [], h, _, _, _ => by simp at h
  | x :: r, h, nd, he, hp => by
    rw [List.map_cons, List.map_cons, List.sum_cons, List.sum_cons]
    obtain ⟨n1, n2⟩ := List.nodup_cons.1 nd
    by_cases e : x = p
    · subst e
      have : r.map f = r.map g := List.map_congr_left fun a ha => he a (by simp [ha]) fun e => n1 (e ▸ ha)
      rw [this, hp]
      omega
    · rw [he x (by simp) e, sum_swap (l := r) (by rcases List.mem_cons.1 h with h | h; exact absurd h.symm e; exact h) n2 (fun a ha => he a (by simp [ha])) hp]
      omega
theorem cnt_snoc {next : List (List Int)} {out : List Nat} {p k : Nat} (hp : p < next.length) (ho : p ∉ out) : cnt next out k = cnt next (out ++ [p]) k + (next.getD p []).count (k : Int) := by
  unfold cnt
  refine sum_swap (p := p) (by simpa using hp) List.nodup_range (fun a _ ha => ?_) ?_
  · simp [ha]
  · simp [ho]
theorem sum_zero {f : Nat → Nat} : ∀ {l : List Nat}, (l.map f).sum = 0 ↔ ∀ a ∈ l, f a = 0
  | [] => by simp
  | x :: r => by rw [List.map_cons, List.sum_cons, Nat.add_eq_zero_iff, sum_zero (l := r)]; simp
theorem free_iff {next : List (List Int)} {out : List Nat} {k : Nat} : Free next out k ↔ k < next.length ∧ k ∉ out ∧ cnt next out k = 0 := by
  unfold Free cnt
  rw [sum_zero]
  constructor
  · rintro ⟨h1, h2, h3⟩
    refine ⟨h1, h2, fun a ha => ?_⟩
    by_cases ho : a ∈ out
    · rw [if_pos ho]
    · rw [if_neg ho, List.count_eq_zero]
      intro hm
      exact ho (h3 a ⟨h1, hm⟩)
  · rintro ⟨h1, h2, h3⟩
    refine ⟨h1, h2, fun a he => ?_⟩
    apply Classical.byContradiction
    intro ho
    have := h3 a (by simpa using he.lt)
    rw [if_neg ho, List.count_eq_zero] at this
    exact this he.2
theorem map_getD {α β : Type} {l : List α} {d : α} {f : α → β} : ((List.range l.length).map fun a => f (l.getD a d)) = l.map f := by
  apply List.ext_getElem?
  intro i
  rw [List.getElem?_map, List.getElem?_map]
  by_cases h : i < l.length
  · rw [List.getElem?_range h, List.getElem?_eq_getElem h]
    simp [List.getD, h]
  · rw [List.getElem?_eq_none (by simp; omega), List.getElem?_eq_none (by omega)]
    rfl
theorem cnt_nil {next : List (List Int)} {k : Nat} : cnt next [] k = (next.map fun l => l.count (k : Int)).sum := by
  unfold cnt
  simp only [List.not_mem_nil, if_false]
  rw [map_getD (f := fun l : List Int => l.count (k : Int))]
def total (next : List (List Int)) : Nat := (next.map List.length).sum
theorem sum_le {α : Type} {f g : α → Nat} (h : ∀ a, f a ≤ g a) : ∀ {l : List α}, (l.map f).sum ≤ (l.map g).sum
  | [] => by simp
  | x :: r => by rw [List.map_cons, List.map_cons, List.sum_cons, List.sum_cons]; have := h x; have := sum_le h (l := r); omega
theorem cnt_le {next : List (List Int)} {k : Nat} : (next.map fun l => l.count (k : Int)).sum ≤ total next := sum_le fun _ => List.count_le_length
theorem row_le {next : List (List Int)} {i : Nat} {l : List Int} (h : next[i]? = some l) : l.length ≤ total next := by
  induction next generalizing i with
  | nil => simp at h
  | cons x r ih =>
    unfold total at *
    rw [List.map_cons, List.sum_cons]
    cases i with
    | zero => simp at h; subst h; omega
    | succ i => have := ih (i := i) (by simpa using h); omega
/-- What is last beats none that is out. -/
theorem kahn_last {next : List (List Int)} {l : List Nat} {p o : Nat} (h : Kahn next (l ++ [p])) (he : Ed next p o) : o ∉ l ++ [p] := by
  intro hm
  obtain ⟨j, hj⟩ := List.getElem?_of_mem hm
  have hp : (l ++ [p])[l.length]? = some p := by simp
  have := kahn_before h hp hj he
  have := (List.getElem?_eq_some_iff.1 hj).1
  simp at this
  omega
end Go.Proofs.YtbdlgglbcaoakaaGreat.Pr
