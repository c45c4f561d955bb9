/- Places that name others: circles, orders; no Go in sight. -/
import Derived.KernelRfl
import Derived.Test.YtbdlgglbcaoakaaGreatPrMem
import Derived.Test.YtbdlgglbcaoakaaGreatPrLast
namespace Go.Proofs.YtbdlgglbcaoakaaGreat.Pr

/-- There is an edge. -/
def Ed (next : List (List Int)) (a b : Nat) : Prop := b < next.length ∧ (b : Int) ∈ next.getD a []
theorem Ed.lt {next : List (List Int)} {a b : Nat} (h : Ed next a b) : a < next.length := by
  apply Classical.byContradiction
  intro hn
  have := h.2
  rw [List.getD_eq_getElem?_getD, List.getElem?_eq_none (by omega)] at this
  simp at this
/-- A circle. -/
structure IsCyc (next : List (List Int)) (l : List Nat) : Prop where
  ne : l ≠ []
  nd : l.Nodup
  lt : ∀ a ∈ l, a < next.length
  ed : ∀ i a b, l[i]? = some a → l[(i + 1) % l.length]? = some b → Ed next a b
/-- What falls along every edge. -/
def Acy (next : List (List Int)) : Prop := ∃ rk : Nat → Nat, ∀ a b, Ed next a b → rk b < rk a
theorem min_of (rk : Nat → Nat) : ∀ {l : List Nat}, l ≠ [] → ∃ a ∈ l, ∀ b ∈ l, rk a ≤ rk b
  | [x], _ => ⟨x, by simp, by simp⟩
  | x :: y :: r, _ => by
    obtain ⟨a, ha, h⟩ := min_of rk (l := y :: r) (by simp)
    by_cases hx : rk x ≤ rk a
    · refine ⟨x, by simp, fun b hb => ?_⟩
      rcases List.mem_cons.1 hb with e | e
      · rw [e]; exact Nat.le_refl _
      · exact Nat.le_trans hx (h b e)
    · refine ⟨a, List.mem_cons_of_mem _ ha, fun b hb => ?_⟩
      rcases List.mem_cons.1 hb with e | e
      · rw [e]; omega
      · exact h b e
theorem acy_cyc {next : List (List Int)} {l : List Nat} (h : Acy next) (hc : IsCyc next l) : False := by
  obtain ⟨rk, hr⟩ := h
  obtain ⟨a, ha, hm⟩ := min_of rk hc.ne
  obtain ⟨i, hi⟩ := List.getElem?_of_mem ha
  have hl : 0 < l.length := by cases l with | nil => exact absurd rfl hc.ne | cons _ _ => simp
  have hj : (i + 1) % l.length < l.length := Nat.mod_lt _ hl
  have h1 := hc.ed i a _ hi (List.getElem?_eq_getElem hj)
  have h2 := hr _ _ h1
  have h3 := hm _ (List.getElem_mem hj)
  omega
/-- A way that closes. -/
theorem cyc_of {next : List (List Int)} {l : List Nat} {a z : Nat} (nd : l.Nodup) (lt : ∀ a ∈ l, a < next.length) (hd : l[0]? = some a) (hz : l[l.length - 1]? = some z) (hc : ∀ i a b, l[i]? = some a → l[i + 1]? = some b → Ed next a b) (he : Ed next z a) : IsCyc next l := by
  have hl : 0 < l.length := (List.getElem?_eq_some_iff.1 hd).1
  refine ⟨fun e => by subst e; simp at hl, nd, lt, fun i x y hx hy => ?_⟩
  have hi := (List.getElem?_eq_some_iff.1 hx).1
  by_cases h : i + 1 < l.length
  · rw [Nat.mod_eq_of_lt h] at hy
    exact hc i x y hx hy
  · have e : i = l.length - 1 := by omega
    have e2 : i + 1 = l.length := by omega
    rw [e2, Nat.mod_self, hd] at hy
    rw [e, hz] at hx
    cases hx; cases hy
    exact he

/-! How many can there be. -/
theorem nodup_le : ∀ {n : Nat} {l : List Nat}, l.Nodup → (∀ a ∈ l, a < n) → l.length ≤ n
  | 0, l, _, h => by
    cases l with
    | nil => simp
    | cons x r => have := h x (by simp); omega
  | n + 1, l, nd, h => by
    have h1 : (l.erase n).Nodup := nd.erase n
    have h2 : ∀ a ∈ l.erase n, a < n := fun a ha => by
      have h3 := h a (List.mem_of_mem_erase ha)
      have h4 : a ≠ n := fun e => by subst e; exact (List.Nodup.not_mem_erase nd) ha
      omega
    have h5 := nodup_le h1 h2
    by_cases hm : n ∈ l
    · rw [List.length_erase_of_mem hm] at h5; omega
    · rw [List.erase_of_not_mem hm] at h5; omega
theorem all_in {n : Nat} {l : List Nat} (nd : l.Nodup) (h : ∀ a ∈ l, a < n) (hl : l.length = n) {k : Nat} (hk : k < n) : k ∈ l := by
  apply Classical.byContradiction
  intro hn
  have := nodup_le (n := n) (l := k :: l) (List.nodup_cons.2 ⟨hn, nd⟩) fun a ha => by
    rcases List.mem_cons.1 ha with e | e
    · omega
    · exact h a e
  simp at this
  omega
theorem some_out : ∀ {n : Nat} {l : List Nat}, l.length < n → ∃ k, k < n ∧ k ∉ l := by
  intro n l hl
  apply Classical.byContradiction
  intro hn
  have hall : ∀ k, k < n → k ∈ l := fun k hk => Classical.byContradiction fun h => hn ⟨k, hk, h⟩
  have key : ∀ (m : Nat) (l : List Nat), (∀ k, k < m → k ∈ l) → m ≤ l.length := by
    intro m
    induction m with
    | zero => intro l _; omega
    | succ m ih =>
      intro l h
      have hm := h m (by omega)
      have := ih (l.erase m) fun k hk => (List.mem_erase_of_ne (by omega)).2 (h k (by omega))
      rw [List.length_erase_of_mem hm] at this
      have hp : 0 < l.length := List.length_pos_of_mem hm
      omega
  have := key n l hall
  omega

/-! Orders. -/
def Free (next : List (List Int)) (out : List Nat) (k : Nat) : Prop := k < next.length ∧ k ∉ out ∧ ∀ a, Ed next a k → a ∈ out
def Kahn (next : List (List Int)) (l : List Nat) : Prop := ∀ j k, l[j]? = some k → Free next (l.take j) k ∧ ∀ i, Free next (l.take j) i → k ≤ i
def KMax (next : List (List Int)) (l : List Nat) : Prop := ∀ k, ¬ Free next l k
theorem kahn_nil {next : List (List Int)} : Kahn next [] := fun j k h => by simp at h
theorem kahn_snoc {next : List (List Int)} {l : List Nat} {p : Nat} (h : Kahn next l) (hp : Free next l p) (hm : ∀ i, Free next l i → p ≤ i) : Kahn next (l ++ [p]) := by
  intro j k hk
  by_cases hj : j < l.length
  · rw [List.getElem?_append_left hj] at hk
    rw [List.take_append_of_le_length (by omega)]
    exact h j k hk
  · have := (List.getElem?_eq_some_iff.1 hk).1
    simp at this
    have e : j = l.length := by omega
    subst e
    simp at hk
    subst hk
    rw [List.take_left]
    exact ⟨hp, hm⟩
theorem kahn_lt {next : List (List Int)} {l : List Nat} (h : Kahn next l) : ∀ a ∈ l, a < next.length := fun a ha => by
  obtain ⟨j, hj⟩ := List.getElem?_of_mem ha
  exact (h j a hj).1.1
theorem kahn_nd {next : List (List Int)} {l : List Nat} (h : Kahn next l) : l.Nodup := by
  refine List.pairwise_iff_getElem.2 fun i j hi hj hij he => ?_
  obtain ⟨x, hx⟩ : ∃ x, l[j]? = some x := ⟨l[j], List.getElem?_eq_getElem hj⟩
  have he : l[i]? = some x := by rw [List.getElem?_eq_getElem hi, he, ← hx, List.getElem?_eq_getElem hj]
  have := (h j x hx).1.2.1
  apply this
  exact List.mem_of_getElem? (i := i) (by rw [List.getElem?_take_of_lt hij]; exact he)
theorem nd_inj {l : List Nat} (h : l.Nodup) {i j a : Nat} (hi : l[i]? = some a) (hj : l[j]? = some a) : i = j := by
  obtain ⟨h1, e1⟩ := List.getElem?_eq_some_iff.1 hi
  obtain ⟨h2, e2⟩ := List.getElem?_eq_some_iff.1 hj
  have h := List.pairwise_iff_getElem.1 h
  rcases Nat.lt_trichotomy i j with e | e | e
  · exact absurd (e1.trans e2.symm) (h i j h1 h2 e)
  · exact e
  · exact absurd (e2.trans e1.symm) (h j i h2 h1 e)
theorem kahn_before {next : List (List Int)} {l : List Nat} (h : Kahn next l) {i j a b : Nat} (hi : l[i]? = some a) (hj : l[j]? = some b) (he : Ed next a b) : i < j := by
  have hm := (h j b hj).1.2.2 a he
  obtain ⟨i2, h2⟩ := List.getElem?_of_mem hm
  have hl := (List.getElem?_eq_some_iff.1 h2).1
  rw [List.length_take] at hl
  rw [List.getElem?_take_of_lt (by omega)] at h2
  have := nd_inj (kahn_nd h) hi h2
  omega
theorem kahn_uniq {next : List (List Int)} {l m : List Nat} (hl : Kahn next l) (hlm : KMax next l) (hm : Kahn next m) (hmm : KMax next m) : l = m := by
  have key : ∀ j, l.take j = m.take j := by
    intro j
    induction j with
    | zero => simp
    | succ j ih =>
      rw [List.take_add_one, List.take_add_one, ih]
      congr 1
      cases hx : l[j]? with
      | none =>
        have e : l.take j = l := List.take_of_length_le (by rw [List.getElem?_eq_none_iff] at hx; exact hx)
        cases hy : m[j]? with
        | none => rfl
        | some y =>
          have := (hm j y hy).1
          rw [← ih, e] at this
          exact absurd this (hlm y)
      | some x =>
        have h1 := hl j x hx
        cases hy : m[j]? with
        | none =>
          have e : m.take j = m := List.take_of_length_le (by rw [List.getElem?_eq_none_iff] at hy; exact hy)
          rw [ih, e] at h1
          exact absurd h1.1 (hmm x)
        | some y =>
          have h2 := hm j y hy
          rw [ih] at h1
          have := h1.2 y h2.1
          have := h2.2 x h1.1
          have : x = y := by omega
          rw [this]
  have := key (l.length + m.length)
  rwa [List.take_of_length_le (by omega), List.take_of_length_le (by omega)] at this
theorem kahn_len {next : List (List Int)} {l : List Nat} (h : Kahn next l) : l.length ≤ next.length := nodup_le (kahn_nd h) (kahn_lt h)
theorem kahn_acy {next : List (List Int)} {l : List Nat} (h : Kahn next l) (hl : l.length = next.length) : Acy next := by
  refine ⟨fun a => next.length - l.idxOf a, fun a b he => ?_⟩
  have ha := all_in (kahn_nd h) (kahn_lt h) hl he.lt
  have hb := all_in (kahn_nd h) (kahn_lt h) hl he.1
  have ia := List.idxOf_lt_length_of_mem ha
  have ib := List.idxOf_lt_length_of_mem hb
  have ea : l[l.idxOf a]? = some a := by rw [List.getElem?_eq_getElem ia, List.getElem_idxOf ia]
  have eb : l[l.idxOf b]? = some b := by rw [List.getElem?_eq_getElem ib, List.getElem_idxOf ib]
  have := kahn_before h ea eb he
  show next.length - l.idxOf b < next.length - l.idxOf a
  omega
theorem bound_of (rk : Nat → Nat) : ∀ n, ∃ M, ∀ k, k < n → rk k < M
  | 0 => ⟨0, fun k h => by omega⟩
  | n + 1 => by
    obtain ⟨M, h⟩ := bound_of rk n
    refine ⟨M + rk n + 1, fun k hk => ?_⟩
    by_cases e : k = n
    · subst e; omega
    · have := h k (by omega); omega
theorem kahn_cyc {next : List (List Int)} {l : List Nat} (hm : KMax next l) (hl : l.length < next.length) (ha : Acy next) : False := by
  obtain ⟨rk, hr⟩ := ha
  obtain ⟨M, hM⟩ := bound_of rk next.length
  obtain ⟨k, hk, hkl⟩ := some_out hl
  have key : ∀ d k, k < next.length → k ∉ l → M ≤ rk k + d → False := by
    intro d
    induction d with
    | zero => intro k hk _ h; have := hM k hk; omega
    | succ d ih =>
      intro k hk hkl h
      have hf := hm k
      have : ∃ a, Ed next a k ∧ a ∉ l := by
        apply Classical.byContradiction
        intro hn
        exact hf ⟨hk, hkl, fun a he => Classical.byContradiction fun h => hn ⟨a, he, h⟩⟩
      obtain ⟨a, he, hal⟩ := this
      have := hr _ _ he
      exact ih a he.lt hal (by omega)
  exact key M k hk hkl (by omega)

/-! How many times places that are not out name one. -/
def cnt (next : List (List Int)) (out : List Nat) (k : Nat) : Nat := ((List.range next.length).map fun a => if a ∈ out then 0 else (next.getD a []).count (k : Int)).sum
theorem sum_swap {f g : Nat → Nat} {p d : Nat} : ∀ {l : List Nat}, p ∈ l → l.Nodup → (∀ a ∈ l, a ≠ p → f a = g a) → f p = g p + d → (l.map f).sum = (l.map g).sum + d
  | [], h, _, _, _ => by simp at h
  | x :: r, h, nd, he, hp => by
    rw [List.map_cons, List.map_cons, List.sum_cons, List.sum_cons]
    obtain ⟨n1, n2⟩ := List.nodup_cons.1 nd
    by_cases e : x = p
    · subst e
      have : r.map f = r.map g := List.map_congr_left fun a ha => he a (by simp [ha]) fun e => n1 (e ▸ ha)
      rw [this, hp]
      omega
    · rw [he x (by simp) e, sum_swap (l := r) (by rcases List.mem_cons.1 h with h | h; exact absurd h.symm e; exact h) n2 (fun a ha => he a (by simp [ha])) hp]
      omega
theorem cnt_snoc {next : List (List Int)} {out : List Nat} {p k : Nat} (hp : p < next.length) (ho : p ∉ out) : cnt next out k = cnt next (out ++ [p]) k + (next.getD p []).count (k : Int) := by
  unfold cnt
  refine sum_swap (p := p) (by simpa using hp) List.nodup_range (fun a _ ha => ?_) ?_
  · simp [ha]
  · simp [ho]
theorem sum_zero {f : Nat → Nat} : ∀ {l : List Nat}, (l.map f).sum = 0 ↔ ∀ a ∈ l, f a = 0
  | [] => by simp
  | x :: r => by rw [List.map_cons, List.sum_cons, Nat.add_eq_zero_iff, sum_zero (l := r)]; simp
theorem free_iff {next : List (List Int)} {out : List Nat} {k : Nat} : Free next out k ↔ k < next.length ∧ k ∉ out ∧ cnt next out k = 0 := by
  unfold Free cnt
  rw [sum_zero]
  constructor
  · rintro ⟨h1, h2, h3⟩
    refine ⟨h1, h2, fun a ha => ?_⟩
    by_cases ho : a ∈ out
    · rw [if_pos ho]
    · rw [if_neg ho, List.count_eq_zero]
      intro hm
      exact ho (h3 a ⟨h1, hm⟩)
  · rintro ⟨h1, h2, h3⟩
    refine ⟨h1, h2, fun a he => ?_⟩
    apply Classical.byContradiction
    intro ho
    have := h3 a (by simpa using he.lt)
    rw [if_neg ho, List.count_eq_zero] at this
    exact this he.2
theorem map_getD {α β : Type} {l : List α} {d : α} {f : α → β} : ((List.range l.length).map fun a => f (l.getD a d)) = l.map f := by
  apply List.ext_getElem?
  intro i
  rw [List.getElem?_map, List.getElem?_map]
  by_cases h : i < l.length
  · rw [List.getElem?_range h, List.getElem?_eq_getElem h]
    simp [List.getD, h]
  · rw [List.getElem?_eq_none (by simp; omega), List.getElem?_eq_none (by omega)]
    rfl
theorem cnt_nil {next : List (List Int)} {k : Nat} : cnt next [] k = (next.map fun l => l.count (k : Int)).sum := by
  unfold cnt
  simp only [List.not_mem_nil, if_false]
  rw [map_getD (f := fun l : List Int => l.count (k : Int))]
def total (next : List (List Int)) : Nat := (next.map List.length).sum
theorem sum_le {α : Type} {f g : α → Nat} (h : ∀ a, f a ≤ g a) : ∀ {l : List α}, (l.map f).sum ≤ (l.map g).sum
  | [] => by simp
  | x :: r => by rw [List.map_cons, List.map_cons, List.sum_cons, List.sum_cons]; have := h x; have := sum_le h (l := r); omega
theorem cnt_le {next : List (List Int)} {k : Nat} : (next.map fun l => l.count (k : Int)).sum ≤ total next := sum_le fun _ => List.count_le_length
theorem row_le {next : List (List Int)} {i : Nat} {l : List Int} (h : next[i]? = some l) : l.length ≤ total next := by
  induction next generalizing i with
  | nil => simp at h
  | cons x r ih =>
    unfold total at *
    rw [List.map_cons, List.sum_cons]
    cases i with
    | zero => simp at h; subst h; omega
    | succ i => have := ih (i := i) (by simpa using h); omega
/-- What is last beats none that is out. -/
theorem kahn_last {next : List (List Int)} {l : List Nat} {p o : Nat} (h : Kahn next (l ++ [p])) (he : Ed next p o) : o ∉ l ++ [p] := by
  intro hm
  obtain ⟨j, hj⟩ := List.getElem?_of_mem hm
  have hp : (l ++ [p])[l.length]? = some p := by simp
  have := kahn_before h hp hj he
  have := (List.getElem?_eq_some_iff.1 hj).1
  simp at this
  omega
end Go.Proofs.YtbdlgglbcaoakaaGreat.Pr
/- A heap in a list; no Go in sight. -/
namespace Go.Proofs.YtbdlgglbcaoakaaGreat.Pr

/-- Two places exchanged. -/
def swp (l : List Int) (i j : Nat) : List Int := (l.set i (l.getD j 0)).set j (l.getD i 0)
theorem swp_len {l : List Int} {i j : Nat} : (swp l i j).length = l.length := by unfold swp; simp
theorem swp_at {l : List Int} {i j k : Nat} (hi : i < l.length) (hj : j < l.length) : (swp l i j).getD k 0 = if k = j then l.getD i 0 else if k = i then l.getD j 0 else l.getD k 0 := by
  unfold swp
  rw [List.getD_eq_getElem?_getD]
  by_cases e1 : k = j
  · subst e1; rw [if_pos rfl, List.getElem?_set_self (by simpa using hj)]; rfl
  · rw [if_neg e1, List.getElem?_set_ne (fun e => e1 e.symm)]
    by_cases e2 : k = i
    · subst e2; rw [if_pos rfl, List.getElem?_set_self hi]; rfl
    · rw [if_neg e2, List.getElem?_set_ne (fun e => e2 e.symm), List.getD_eq_getElem?_getD]
theorem swp_perm {l : List Int} {i j : Nat} (hi : i < l.length) (hj : j < l.length) : (swp l i j).Perm l := by
  have h := Array.swap_perm (xs := l.toArray) (i := i) (j := j) (by simpa using hi) (by simpa using hj)
  have e : (l.toArray.swap i j (by simpa using hi) (by simpa using hj)).toList = swp l i j := by
    unfold swp
    simp [Array.swap, List.getD, hi, hj]
  have h2 := Array.perm_iff_toList_perm.1 h
  rwa [e] at h2
/-- The first m places are a heap. -/
def Hpl (l : List Int) (m : Nat) : Prop := ∀ i, 0 < i → i < m → l.getD ((i - 1) / 2) 0 ≤ l.getD i 0
theorem hpl_min {l : List Int} {m : Nat} (h : Hpl l m) : ∀ i, i < m → l.getD 0 0 ≤ l.getD i 0 := by
  intro i
  induction i using Nat.strongRecOn with
  | ind i ih =>
    intro hi
    by_cases e : i = 0
    · subst e; exact Int.le_refl _
    · have h1 := h i (by omega) hi
      have h2 := ih ((i - 1) / 2) (by omega) (by omega)
      omega
/-- A heap but for what stands at j, which may be too low. -/
def UpI (l : List Int) (j : Nat) : Prop := j < l.length ∧ (∀ i, 0 < i → i < l.length → i ≠ j → l.getD ((i - 1) / 2) 0 ≤ l.getD i 0) ∧ (0 < j → ∀ c, 0 < c → c < l.length → (c - 1) / 2 = j → l.getD ((j - 1) / 2) 0 ≤ l.getD c 0)
theorem up_start {l : List Int} {x : Int} (h : Hpl l l.length) : UpI (l ++ [x]) l.length := by
  have hg : ∀ i, i < l.length → (l ++ [x]).getD i 0 = l.getD i 0 := fun i hi => by rw [List.getD_eq_getElem?_getD, List.getElem?_append_left hi, List.getD_eq_getElem?_getD]
  refine ⟨by simp, fun i h0 hi hn => ?_, fun h0 c hc0 hc e => ?_⟩
  · simp at hi
    rw [hg i (by omega), hg _ (by omega)]
    exact h i h0 (by omega)
  · simp at hc
    omega
theorem up_done {l : List Int} {j : Nat} (h : UpI l j) (hd : j = 0 ∨ l.getD ((j - 1) / 2) 0 ≤ l.getD j 0) : Hpl l l.length := by
  intro i h0 hi
  by_cases e : i = j
  · subst e
    rcases hd with hd | hd
    · omega
    · exact hd
  · exact h.2.1 i h0 hi e
theorem up_step {l : List Int} {j : Nat} (h : UpI l j) (h0 : 0 < j) (hlt : l.getD j 0 < l.getD ((j - 1) / 2) 0) : UpI (swp l ((j - 1) / 2) j) ((j - 1) / 2) := by
  obtain ⟨hj, h1, h2⟩ := h
  have hp : (j - 1) / 2 < l.length := by omega
  have key := fun k => swp_at (k := k) hp hj
  refine ⟨by rw [swp_len]; exact hp, fun i hi0 hi hn => ?_, fun hp0 c hc0 hc e => ?_⟩
  · rw [swp_len] at hi
    rw [key, key]
    by_cases e1 : i = j
    · subst e1
      rw [if_neg (by omega), if_pos rfl, if_pos rfl]
      omega
    · rw [if_neg e1, if_neg hn]
      by_cases e2 : (i - 1) / 2 = j
      · rw [if_pos e2]
        exact h2 h0 i hi0 hi e2
      · rw [if_neg e2]
        by_cases e3 : (i - 1) / 2 = (j - 1) / 2
        · rw [if_pos e3]
          have := h1 i hi0 hi e1
          rw [e3] at this
          omega
        · rw [if_neg e3]
          exact h1 i hi0 hi e1
  · rw [swp_len] at hc
    rw [key, key]
    have hpp := h1 ((j - 1) / 2) hp0 hp (by omega)
    rw [if_neg (by omega), if_neg (by omega)]
    by_cases e1 : c = j
    · subst e1
      rw [if_pos rfl]
      exact hpp
    · rw [if_neg e1, if_neg (by omega)]
      have := h1 c hc0 hc e1
      rw [e] at this
      omega
/-- The first m are a heap but for what stands at i, which may be too high. -/
def DnI (l : List Int) (i m : Nat) : Prop := m ≤ l.length ∧ (∀ k, 0 < k → k < m → (k - 1) / 2 ≠ i → l.getD ((k - 1) / 2) 0 ≤ l.getD k 0) ∧ (0 < i → ∀ c, 0 < c → c < m → (c - 1) / 2 = i → l.getD ((i - 1) / 2) 0 ≤ l.getD c 0)
theorem dn_start {l : List Int} {m : Nat} (h : Hpl l l.length) (hm : l.length = m + 1) : DnI (swp l 0 m) 0 m := by
  have key := fun k => swp_at (l := l) (i := 0) (j := m) (k := k) (by omega) (by omega)
  refine ⟨by rw [swp_len]; omega, fun k h0 hk hn => ?_, fun h => by omega⟩
  rw [key, key, if_neg (by omega), if_neg hn, if_neg (by omega), if_neg (by omega)]
  exact h k h0 (by omega)
theorem dn_none {l : List Int} {i m : Nat} (h : DnI l i m) (hd : m ≤ 2 * i + 1) : Hpl l m := by
  intro k h0 hk
  exact h.2.1 k h0 hk (by omega)
theorem dn_done {l : List Int} {i j m : Nat} (h : DnI l i m) (hj : ∀ c, c < m → c = 2 * i + 1 ∨ c = 2 * i + 2 → l.getD j 0 ≤ l.getD c 0) (hd : l.getD i 0 ≤ l.getD j 0) : Hpl l m := by
  intro k h0 hk
  by_cases e : (k - 1) / 2 = i
  · have := hj k hk (by omega)
    rw [e]
    omega
  · exact h.2.1 k h0 hk e
theorem dn_step {l : List Int} {i j m : Nat} (h : DnI l i m) (hjm : j < m) (hji : j = 2 * i + 1 ∨ j = 2 * i + 2) (hj : ∀ c, c < m → c = 2 * i + 1 ∨ c = 2 * i + 2 → l.getD j 0 ≤ l.getD c 0) (hd : l.getD j 0 < l.getD i 0) : DnI (swp l i j) j m := by
  obtain ⟨hm, h1, h2⟩ := h
  have key := fun k => swp_at (l := l) (i := i) (j := j) (k := k) (by omega) (by omega)
  refine ⟨by rw [swp_len]; exact hm, fun k h0 hk hn => ?_, fun _ c hc0 hc e => ?_⟩
  · rw [key, key, if_neg hn]
    by_cases e1 : k = j
    · subst e1
      rw [if_pos rfl, if_pos (by omega)]
      omega
    · rw [if_neg e1]
      by_cases e2 : k = i
      · subst e2
        rw [if_pos rfl, if_neg (by omega)]
        exact h2 h0 j (by omega) hjm (by omega)
      · rw [if_neg e2]
        by_cases e3 : (k - 1) / 2 = i
        · rw [if_pos e3]
          exact hj k hk (by omega)
        · rw [if_neg e3]
          exact h1 k h0 hk e3
  · rw [key, key, if_neg (by omega), if_pos (by omega), if_neg (by omega), if_neg (by omega)]
    have := h1 c hc0 hc (by omega)
    rw [e] at this
    exact this
theorem hpl_take {l : List Int} {m : Nat} (h : Hpl l m) (hm : m ≤ l.length) : Hpl (l.take m) (l.take m).length := by
  have hl : (l.take m).length = m := by simp; omega
  have hg : ∀ i, i < m → (l.take m).getD i 0 = l.getD i 0 := fun i hi => by rw [List.getD_eq_getElem?_getD, List.getElem?_take_of_lt hi, List.getD_eq_getElem?_getD]
  intro i h0 hi
  rw [hl] at hi
  rw [hg i hi, hg _ (by omega)]
  exact h i h0 hi
theorem hpl_nil : Hpl [] 0 := fun i _ h => by omega
end Go.Proofs.YtbdlgglbcaoakaaGreat.Pr
/- Words and small laws for what follows. -/
namespace Go.Proofs.YtbdlgglbcaoakaaGreat.Pr
open Go.RowKit

theorem below_new (w : World) (o : Obj) : Below w.heap.size w (w.alloc o) := (Below.refl _ w).alloc (Nat.le_refl _) _
theorem drop_at {α : Type} {l : List α} {k : Nat} {x : α} (h : l[k]? = some x) : l.drop k = x :: l.drop (k + 1) := by
  obtain ⟨hk, e⟩ := List.getElem?_eq_some_iff.1 h
  rw [List.drop_eq_getElem_cons hk, e]
theorem drop_end {α : Type} {l : List α} {k : Nat} (h : l.length ≤ k) : l.drop k = [] := List.drop_eq_nil_of_le h
theorem getD_of {l : List Int} {k : Nat} {x : Int} (h : l[k]? = some x) : l.getD k 0 = x := by rw [List.getD_eq_getElem?_getD, h]; rfl
theorem At1.get {w : World} {a : Option Addr} {l : List Int} (h : At1 w a (ints l)) {i : Nat} {x : Int} (hi : l[i]? = some x) : ∃ g o, a = some ⟨g, o, none⟩ ∧ w.cell? ⟨g, o + i, none⟩ = some (.int .i64 x) := by
  refine h i _ ?_
  unfold ints
  rw [List.getElem?_map, hi]
  rfl
theorem made_one (z : Value) (n : Nat) : madeCells #[z] n = Array.replicate n z := by
  apply Array.ext
  · simp [madeCells]
  · intro i h1 h2
    simp [madeCells, Nat.mod_one]
theorem wpList_make_fix {P : Program} (w : World) {ops : Array Oper} {rest : List Oper} {o : Oper} {a : Act} {Q : Exit → Act → World → Prop}
    (hg : o.guard = none) (l c : Operand) (t : TypeId) (hop : o.op = Op.makeSlice t l c) (e : TypeId) (i : TypeInfo) (z : Value) (h1 : P.underlying t = some (.slice e)) (h2 : P.info? e = some i) (h3 : i.zero = some z) (h4 : i.size = 1) (h5 : z.cells = #[z])
    (L C : Int) (n : Nat) (hl : a.eval l = .int .i64 L) (hc : a.eval c = .int .i64 C) (hL : L = (n : Int)) (hC : C = (n : Int)) (b2 : i.bytes * n ≤ 281474976710656) (b3 : n ≤ maxLen)
    (hK : wpList P ops Q rest (a.put o.dst (.slice (some ⟨w.heap.size, 0, none⟩) n n)) (w.alloc (.cells (Array.replicate n z) e))) :
    wpList P ops Q (o :: rest) a w := by
  refine wpList_plain hg fun K hK' => ?_
  have hb' : (i.bytes : Int) * (n : Int) ≤ 281474976710656 := by
    have h : ((i.bytes * n : Nat) : Int) ≤ 281474976710656 := by omega
    rwa [Int.natCast_mul] at h
  have h63' : (n : Int) ≤ 9223372036854775807 := by
    have h := b3
    simp [maxLen] at h
    omega
  have hrun := run_make (P := P) w t e i z h1 h2 h3 .i64 .i64 n n (by omega) (Int.le_refl _) hb' h63'
  rw [h4, Nat.mul_one, h5, made_one] at hrun
  subst hL
  subst hC
  unfold Oper.wp
  simp [execOp, hop, hl, hc, hrun, Result.andThen]
  exact hK' _ _ hK
def Fx (g T : Nat) (vs : List Value) (w : World) : Prop := w.heap[g]? = some (.cells vs.toArray T (0, 0))
section
variable {g T i : Nat} {vs : List Value} {w w' : World} {v : Value}
theorem Fx.get (h : Fx g T vs w) (hi : vs[i]? = some v) : w.cell? ⟨g, i, none⟩ = some v := by
  rw [cell_of_row w g i _ _ _ h]
  simpa using hi
theorem Fx.frz (h : Fx g T vs w) (i : Nat) : w.frozen? ⟨g, i, none⟩ = false := frozen_of_row w g i _ _ h
theorem Fx.set (h : Fx g T vs w) (i : Nat) (v : Value) : Fx g T (vs.set i v) (w.setCell ⟨g, i, none⟩ v) := by
  unfold Fx
  rw [loc_set h, List.setIfInBounds_toArray]
theorem Fx.keep (h : Fx g T vs w) (hb : w'.heap[g]? = w.heap[g]?) : Fx g T vs w' := hb.trans h
theorem Fx.lt (h : Fx g T vs w) : g < w.heap.size := loc_lt h
end
theorem ints_set {l : List Int} {i : Nat} {z : Int} : (ints l).set i (.int .i64 z) = ints (l.set i z) := by unfold ints; rw [List.map_set]
theorem bools_set {l : List Bool} {i : Nat} {z : Bool} : (bools l).set i (.bool z) = bools (l.set i z) := by unfold bools; rw [List.map_set]
theorem ints_rep {n : Nat} : Array.replicate n (.int .i64 0) = (ints (List.replicate n 0)).toArray := by unfold ints; simp
theorem bools_rep {n : Nat} : Array.replicate n (.bool false) = (bools (List.replicate n false)).toArray := by unfold bools; simp
theorem other_set {w : World} {g i k : Nat} {v : Value} (h : k ≠ g) : (w.setCell ⟨g, i, none⟩ v).heap[k]? = w.heap[k]? := heap_setCell_other w ⟨g, i, none⟩ k v h
theorem fx_ne {g g' T T' : Nat} {vs vs' : List Value} {w : World} (h : Fx g T vs w) (h' : Fx g' T' vs' w) (hT : T ≠ T') : g ≠ g' := by
  intro e
  subst e
  rw [Fx] at h h'
  rw [h] at h'
  cases h'
  exact hT rfl
theorem own_fx {w : World} {b g T e : Nat} {v : Value} {n : Nat} {xs vs : List Value} (h : w.ownsRow b e 1 v n xs) (hg : Fx g T vs w) (hT : e ≠ T) : v.ownBlock ≠ some g := own_ne (owns_down h (Nat.zero_le _)) hg hT
theorem owns_take {w : World} {B e k : Nat} {a : Option Addr} {n c : Nat} {xs : List Value} (h : w.ownsRow B e k (.slice a n c) n xs) {m : Nat} (hm : m ≤ n) (ha : a ≠ none) : w.ownsRow B e k (.slice a m c) m (xs.take (m * k)) := by
  obtain ⟨h1, h2⟩ := h
  rcases h2 with ⟨e1, _⟩ | ⟨g, cap, cur, e1, h3, h4, h5, h6, h7, h8⟩
  · cases e1; exact absurd rfl ha
  · cases e1
    have hmk : m * k ≤ n * k := Nat.mul_le_mul_right k hm
    refine ⟨by rw [List.length_take, h1]; omega, .inr ⟨g, c, cur, rfl, h3, h4, by omega, h6, h7, ?_⟩⟩
    rw [← h8, List.take_take, Nat.min_eq_left hmk]
section
variable {wr w5 : World} {ob : Obj} {v : Value} {hb : Nat}
theorem grown_low (hgrow : (wr.alloc ob).drew.grownBy w5 v.ownBlock) (hv : ∀ g, v.ownBlock = some g → hb < g) (hs : hb ≤ wr.heap.size) : Below hb wr w5 := by
  have h1 : Below hb wr (wr.alloc ob).drew := ((below_new wr ob).mono hs).drew
  refine h1.trans ⟨hgrow.os, hgrow.tape, hgrow.output, hgrow.size, fun k hk => hgrow.block k ?_ fun e => ?_⟩
  · have : (wr.alloc ob).drew.heap.size = wr.heap.size + 1 := by show (wr.alloc ob).heap.size = _; simp
    omega
  · have := hv k e.symm; omega
theorem grown_old2 (hgrow : (wr.alloc ob).drew.grownBy w5 v.ownBlock) {k : Nat} (hk : k < wr.heap.size) (hn : v.ownBlock ≠ some k) : w5.heap[k]? = wr.heap[k]? := by
  refine (hgrow.block k ?_ fun e => hn e.symm).trans ((below_new wr ob).block k hk)
  have : (wr.alloc ob).drew.heap.size = wr.heap.size + 1 := by show (wr.alloc ob).heap.size = _; simp
  omega
end
theorem ints_owns {B b : Nat} {w : World} {l : List Int} {a : Option Addr} {c : Nat} (h : w.ownsRow b 3 1 (.slice a l.length c) l.length (ints l)) (hB : w.heap.size ≤ B) (hl : l.length ≤ 140737488351232) : Ints B w l (.slice a l.length c) := by
  have h1 := owns_at1 h
  have hc : l.length ≤ c := by
    rcases h.2 with ⟨e, h0⟩ | ⟨g, cap, cur, e, _, _, hcap, _⟩
    · omega
    · have := (Value.slice.inj e).2; omega
  refine ⟨a, c, rfl, hc, hl, fun i x hi => ?_⟩
  obtain ⟨g, o, e, hcell⟩ := h1 i (.int .i64 x) (by unfold ints; rw [List.getElem?_map, hi]; rfl)
  refine ⟨g, o, [.int .i64 x], e, Nat.lt_of_lt_of_le (World.block_lt_of_cell? w _ hcell) hB, rfl, fun j u hu => ?_, rfl⟩
  match j, hu with
  | 0, hu => simp at hu; subst hu; rw [Nat.mul_one]; exact hcell
/-- One cell of an own row is written. -/
theorem owns_set {w : World} {B e g n c i : Nat} {xs : List Value} {v : Value} (h : w.ownsRow B e 1 (.slice (some ⟨g, 0, none⟩) n c) n xs) : (w.setCell ⟨g, i, none⟩ v).ownsRow B e 1 (.slice (some ⟨g, 0, none⟩) n c) n (xs.set i v) := by
  obtain ⟨h1, h2⟩ := h
  refine ⟨by rw [List.length_set]; exact h1, ?_⟩
  rcases h2 with ⟨e1, _⟩ | ⟨g', cap, cur, e1, h3, h4, h5, h6, h7, h8⟩
  · cases e1
  · cases e1
    refine .inr ⟨g, c, cur.setIfInBounds i v, rfl, h3, loc_set h4, h5, h6, by simpa using h7, ?_⟩
    rw [← h8, Array.toList_setIfInBounds, List.take_set]
end Go.Proofs.YtbdlgglbcaoakaaGreat.Pr
