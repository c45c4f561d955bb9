/- How an order is made, lowest first; no Go in sight. -/
import Derived.Test.YtjaffhajehcnpaaAwt
namespace Go.Proofs.Ytjaffhajehcnpaa

/-- What was found at first. -/
structure K1 (A l : List Int) (i : Nat) : Prop where
  mem : ∀ x, x ∈ l ↔ ∃ k : Nat, k < i ∧ x = (k : Int) ∧ A.getD k 0 = 0
  nd : l.Nodup
  hp : Hpl l l.length
theorem K1.start {A : List Int} : K1 A [] 0 := ⟨fun x => by simp, List.nodup_nil, hpl_nil⟩
theorem K1.skip {A l : List Int} {i : Nat} (h : K1 A l i) (h0 : ¬ A.getD i 0 = 0) : K1 A l (i + 1) := by
  refine ⟨fun x => ?_, h.nd, h.hp⟩
  rw [h.mem x]
  constructor
  · rintro ⟨k, h1, h2, h3⟩; exact ⟨k, by omega, h2, h3⟩
  · rintro ⟨k, h1, h2, h3⟩
    have : k ≠ i := fun e => h0 (e ▸ h3)
    exact ⟨k, by omega, h2, h3⟩
theorem nd_snoc {l l' : List Int} {x : Int} (hp : l'.Perm (l ++ [x])) (nd : l.Nodup) (hx : x ∉ l) : l'.Nodup := by
  rw [hp.nodup_iff, List.nodup_append]
  refine ⟨nd, by simp, fun a ha b hb e => ?_⟩
  simp at hb
  exact hx (hb ▸ e ▸ ha)
theorem K1.more {A l l' : List Int} {i : Nat} (h : K1 A l i) (h0 : A.getD i 0 = 0) (hp : l'.Perm (l ++ [(i : Int)])) (hh : Hpl l' l'.length) : K1 A l' (i + 1) := by
  have hni : (i : Int) ∉ l := fun hm => by
    obtain ⟨k, h1, h2, _⟩ := (h.mem _).1 hm
    omega
  refine ⟨fun x => ?_, nd_snoc hp h.nd hni, hh⟩
  rw [hp.mem_iff, List.mem_append, h.mem x]
  constructor
  · rintro (⟨k, h1, h2, h3⟩ | hx)
    · exact ⟨k, by omega, h2, h3⟩
    · simp at hx; exact ⟨i, by omega, hx, h0⟩
  · rintro ⟨k, h1, h2, h3⟩
    by_cases e : k = i
    · subst e; exact .inr (by simp [h2])
    · exact .inl ⟨k, by omega, h2, h3⟩
/-- What is kept while an order is made. -/
structure Ki (next : List (List Int)) (out : List Nat) (rest A l : List Int) : Prop where
  la : A.length = next.length
  kh : Kahn next out
  ca : ∀ k, k < next.length → A.getD k 0 = ((cnt next out k + rest.count (k : Int) : Nat) : Int)
  mem : ∀ x, x ∈ l ↔ ∃ k : Nat, k < next.length ∧ x = (k : Int) ∧ k ∉ out ∧ A.getD k 0 = 0
  nd : l.Nodup
  hp : Hpl l l.length
  re : ∀ k : Nat, k < next.length → (k : Int) ∈ rest → k ∉ out
theorem nd_len {n : Nat} {l : List Int} (nd : l.Nodup) (h : ∀ x ∈ l, ∃ k : Nat, k < n ∧ x = (k : Int)) : l.length ≤ n := by
  have h1 : (l.map Int.toNat).Nodup := by
    refine List.pairwise_map.2 (List.Pairwise.imp_of_mem (fun {a b} ha hb hne e => ?_) nd)
    obtain ⟨k, _, rfl⟩ := h a ha
    obtain ⟨j, _, rfl⟩ := h b hb
    simp at e
    exact hne (by rw [e])
  have h2 := nodup_le (n := n) h1 fun a ha => by
    obtain ⟨x, hx, rfl⟩ := List.mem_map.1 ha
    obtain ⟨k, hk, rfl⟩ := h x hx
    simpa using hk
  simpa using h2
theorem K1.len {A l : List Int} {i : Nat} (h : K1 A l i) : l.length ≤ i := nd_len h.nd fun x hx => by
  obtain ⟨k, h1, h2, _⟩ := (h.mem x).1 hx
  exact ⟨k, h1, h2⟩
theorem cnt_le2 {next : List (List Int)} {out : List Nat} {k : Nat} : cnt next out k ≤ total next := by
  have h1 : cnt next out k ≤ cnt next [] k := sum_le fun a => by
    simp only [List.not_mem_nil, if_false]
    split <;> omega
  have h2 := cnt_le (next := next) (k := k)
  rw [← cnt_nil] at h2
  omega
section
variable {next : List (List Int)} {out : List Nat} {rest A l l' : List Int}
theorem Ki.start (h : AwI next next.length [] A) (h1 : K1 A l next.length) : Ki next [] [] A l := by
  obtain ⟨e1, e2⟩ := h.cnt
  refine ⟨e1, kahn_nil, fun k hk => by rw [e2 k hk]; simp, fun x => ?_, h1.nd, h1.hp, fun k _ hm => by simp at hm⟩
  rw [h1.mem x]
  constructor
  · rintro ⟨k, a, b, c⟩; exact ⟨k, a, b, by simp, c⟩
  · rintro ⟨k, a, b, _, c⟩; exact ⟨k, a, b, c⟩
theorem Ki.len (h : Ki next out rest A l) : l.length ≤ next.length := nd_len h.nd fun x hx => by
  obtain ⟨k, h1, h2, _⟩ := (h.mem x).1 hx
  exact ⟨k, h1, h2⟩
theorem Ki.bound (h : Ki next out rest A l) {k : Nat} (hk : k < next.length) : 0 ≤ A.getD k 0 ∧ A.getD k 0 ≤ total next + rest.length := by
  have h1 := cnt_le2 (next := next) (out := out) (k := k)
  have h2 := List.count_le_length (a := (k : Int)) (l := rest)
  rw [h.ca k hk]
  omega
theorem Ki.free (h : Ki next out [] A l) {k : Nat} : (k : Int) ∈ l ↔ Free next out k := by
  rw [h.mem, free_iff]
  constructor
  · rintro ⟨j, h1, h2, h3, h4⟩
    have e : k = j := by omega
    subst e
    rw [h.ca k h1] at h4
    simp at h4
    exact ⟨h1, h3, h4⟩
  · rintro ⟨h1, h2, h3⟩
    exact ⟨k, h1, rfl, h2, by rw [h.ca k h1]; simp [h3]⟩
theorem Ki.done (h : Ki next out [] A []) : KMax next out := fun k hf => by
  have := h.free.2 hf
  simp at this
theorem Ki.top (h : Ki next out [] A l) (hn : l ≠ []) : ∃ k : Nat, l.getD 0 0 = (k : Int) ∧ k < next.length ∧ Free next out k ∧ ∀ i, Free next out i → k ≤ i := by
  have hl : 0 < l.length := by cases l with | nil => exact absurd rfl hn | cons _ _ => simp
  have hm : l.getD 0 0 ∈ l := take_hit (d := 0) hl rfl
  obtain ⟨k, h1, h2, h3⟩ := (h.mem _).1 hm
  refine ⟨k, h2, h1, h.free.1 (h2 ▸ hm), fun i hi => ?_⟩
  obtain ⟨j, hj⟩ := List.getElem?_of_mem (h.free.2 hi)
  have hjl := (List.getElem?_eq_some_iff.1 hj).1
  have := hpl_min h.hp j hjl
  rw [h2, getD_of hj] at this
  omega
theorem Ki.pop (h : Ki next out [] A l) {k : Nat} (hk : k < next.length) (hf : Free next out k) (hm : ∀ i, Free next out i → k ≤ i) (hp : (l' ++ [(k : Int)]).Perm l) (hh : Hpl l' l'.length) : Ki next (out ++ [k]) (next.getD k []) A l' := by
  have hkn := kahn_snoc h.kh hf hm
  have hnd : (l' ++ [(k : Int)]).Nodup := hp.nodup_iff.2 h.nd
  rw [List.nodup_append] at hnd
  have hkl : (k : Int) ∉ l' := fun hm => hnd.2.2 _ hm (k : Int) (by simp) rfl
  refine ⟨h.la, hkn, fun j hj => ?_, fun x => ?_, hnd.1, hh, fun j hj hm => kahn_last hkn ⟨hj, hm⟩⟩
  · rw [h.ca j hj, cnt_snoc (k := j) hk hf.2.1]
    simp
  · have h1 : x ∈ l' ↔ x ∈ l ∧ x ≠ (k : Int) := by
      rw [← hp.mem_iff, List.mem_append]
      constructor
      · intro hx; exact ⟨.inl hx, fun e => hkl (e ▸ hx)⟩
      · rintro ⟨hx | hx, hne⟩
        · exact hx
        · simp at hx; exact absurd hx hne
    rw [h1, h.mem x]
    constructor
    · rintro ⟨⟨j, a, b, c, d⟩, hne⟩
      refine ⟨j, a, b, ?_, d⟩
      rw [List.mem_append]
      rintro (e | e)
      · exact c e
      · simp at e; subst e; exact hne b
    · rintro ⟨j, a, b, c, d⟩
      rw [List.mem_append] at c
      refine ⟨⟨j, a, b, fun e => c (.inl e), d⟩, fun e => c (.inr ?_)⟩
      simp
      omega
theorem Ki.skip {z : Int} {r : List Int} (h : Ki next out (z :: r) A l) (hz : inN z next.length = false) : Ki next out r A l := by
  refine ⟨h.la, h.kh, fun k hk => ?_, h.mem, h.nd, h.hp, fun k hk hm => h.re k hk (by simp [hm])⟩
  have hne : z ≠ (k : Int) := fun e => by
    have : inN z next.length = true := inN_iff.2 (by omega)
    rw [hz] at this; cases this
  rw [h.ca k hk, List.count_cons]
  simp [hne]
theorem set_get {A : List Int} {k j : Nat} {v : Int} (hk : k < A.length) : (A.set k v).getD j 0 = if j = k then v else A.getD j 0 := by
  by_cases e : j = k
  · subst e; rw [if_pos rfl]; simp [List.getD, hk]
  · rw [if_neg e]; simp [List.getD, List.getElem?_set_ne (fun h => e h.symm)]
theorem Ki.caDec {k : Nat} {r : List Int} (h : Ki next out ((k : Int) :: r) A l) (hk : k < next.length) : ∀ j, j < next.length → (A.set k (A.getD k 0 - 1)).getD j 0 = ((cnt next out j + r.count (j : Int) : Nat) : Int) := by
  intro j hj
  rw [set_get (by rw [h.la]; exact hk)]
  have h1 := h.ca j hj
  rw [List.count_cons] at h1
  by_cases e : j = k
  · subst e
    rw [if_pos rfl, h1]
    simp
    omega
  · rw [if_neg e, h1]
    have hne : ((k : Int) == (j : Int)) = false := by simp; omega
    simp [hne]
theorem Ki.pos {k : Nat} {r : List Int} (h : Ki next out ((k : Int) :: r) A l) (hk : k < next.length) : 1 ≤ A.getD k 0 := by
  have h1 := h.ca k hk
  rw [List.count_cons] at h1
  rw [h1]
  simp
  omega
theorem Ki.dec {k : Nat} {r : List Int} (h : Ki next out ((k : Int) :: r) A l) (hk : k < next.length) (h0 : ¬ A.getD k 0 - 1 = 0) : Ki next out r (A.set k (A.getD k 0 - 1)) l := by
  have hp := h.pos hk
  refine ⟨by rw [List.length_set]; exact h.la, h.kh, h.caDec hk, fun x => ?_, h.nd, h.hp, fun j hj hm => h.re j hj (by simp [hm])⟩
  rw [h.mem x]
  constructor
  · rintro ⟨j, a, b, c, d⟩
    refine ⟨j, a, b, c, ?_⟩
    rw [set_get (by rw [h.la]; exact hk), if_neg (fun e => by subst e; omega)]
    exact d
  · rintro ⟨j, a, b, c, d⟩
    rw [set_get (by rw [h.la]; exact hk)] at d
    by_cases e : j = k
    · rw [if_pos e] at d; exact absurd d h0
    · rw [if_neg e] at d; exact ⟨j, a, b, c, d⟩
theorem Ki.last {k : Nat} {r : List Int} (h : Ki next out ((k : Int) :: r) A l) (hk : k < next.length) (h0 : A.getD k 0 - 1 = 0) (hp : l'.Perm (l ++ [(k : Int)])) (hh : Hpl l' l'.length) : Ki next out r (A.set k (A.getD k 0 - 1)) l' := by
  have hpos := h.pos hk
  have hkl : (k : Int) ∉ l := fun hm => by
    obtain ⟨j, _, b, _, d⟩ := (h.mem _).1 hm
    have e : k = j := by omega
    subst e
    omega
  refine ⟨by rw [List.length_set]; exact h.la, h.kh, h.caDec hk, fun x => ?_, nd_snoc hp h.nd hkl, hh, fun j hj hm => h.re j hj (by simp [hm])⟩
  rw [hp.mem_iff, List.mem_append, h.mem x]
  constructor
  · rintro (⟨j, a, b, c, d⟩ | hx)
    · refine ⟨j, a, b, c, ?_⟩
      rw [set_get (by rw [h.la]; exact hk), if_neg (fun e => by subst e; omega)]
      exact d
    · simp at hx
      exact ⟨k, hk, hx, h.re k hk (by simp), by rw [set_get (by rw [h.la]; exact hk), if_pos rfl]; exact h0⟩
  · rintro ⟨j, a, b, c, d⟩
    by_cases e : j = k
    · subst e; exact .inr (by simp [b])
    · rw [set_get (by rw [h.la]; exact hk), if_neg e] at d
      exact .inl ⟨j, a, b, c, d⟩
end
end Go.Proofs.Ytjaffhajehcnpaa
