/- How many are told. PLAIN. -/
import Derived.Test.YthifoamnmhlghaaGreatHf
namespace Go.Proofs.YthifoamnmhlghaaGreat.Fa

theorem nodup_le {α : Type} [DecidableEq α] : ∀ {l L : List α}, l.Nodup → (∀ x ∈ l, x ∈ L) → l.length ≤ L.length
  | [], _, _, _ => Nat.zero_le _
  | x :: l, L, hn, h => by
    obtain ⟨h1, h2⟩ := List.nodup_cons.1 hn
    have hx := h x List.mem_cons_self
    have := nodup_le (L := L.erase x) h2 fun y hy => (List.mem_erase_of_ne (fun e : y = x => h1 (e ▸ hy))).2 (h y (List.mem_cons_of_mem _ hy))
    rw [List.length_erase_of_mem hx] at this
    have := List.length_pos_of_mem hx
    simp only [List.length_cons]
    omega
/-- All tags that there are. -/
def tagL (m : List Int) (q : Nat) : List (Int × Int) := (tags.filter fun t => hs m q t).map fun t => ((q : Int), t)
def tagsL (m : List Int) : Nat → List (Int × Int)
  | 0 => []
  | k + 1 => tagsL m k ++ tagL m k
theorem tagL_len {m : List Int} {q : Nat} : (tagL m q).length = cntT m q := by
  unfold tagL cntT tags b2n
  cases h1 : hs m q 1 <;> cases h2 : hs m q 2 <;> cases h3 : hs m q 3 <;> cases h4 : hs m q 4 <;> simp [List.filter, h1, h2, h3, h4]
theorem tagsL_len {m : List Int} : ∀ {k : Nat}, (tagsL m k).length = cntF m k
  | 0 => rfl
  | k + 1 => by unfold tagsL cntF; rw [List.length_append, tagsL_len, tagL_len]
theorem tagL_mem {m : List Int} {q : Nat} {x : Int × Int} : x ∈ tagL m q ↔ x.1 = (q : Int) ∧ isTag x.2 ∧ hs m q x.2 = true := by
  unfold tagL
  rw [List.mem_map]
  constructor
  · rintro ⟨t, ht, rfl⟩
    obtain ⟨h1, h2⟩ := List.mem_filter.1 ht
    refine ⟨rfl, ?_, h2⟩
    simp [tags] at h1
    exact h1
  · rintro ⟨h1, h2, h3⟩
    exact ⟨x.2, List.mem_filter.2 ⟨isTag_mem h2, h3⟩, Prod.ext h1.symm rfl⟩
theorem tagsL_mem {m : List Int} {x : Int × Int} : ∀ {k : Nat}, x ∈ tagsL m k ↔ ∃ q : Nat, q < k ∧ x.1 = (q : Int) ∧ isTag x.2 ∧ hs m q x.2 = true
  | 0 => by
    constructor
    · intro h; cases h
    · rintro ⟨q, h, -⟩; omega
  | k + 1 => by
    unfold tagsL
    rw [List.mem_append, tagsL_mem, tagL_mem]
    constructor
    · rintro (⟨q, h1, h2⟩ | h2)
      · exact ⟨q, by omega, h2⟩
      · exact ⟨k, by omega, h2⟩
    · rintro ⟨q, h1, h2⟩
      by_cases e : q = k
      · subst e; exact .inr h2
      · exact .inl ⟨q, by omega, h2⟩
theorem tagL_nd {m : List Int} {q : Nat} : (tagL m q).Nodup := by
  unfold tagL tags
  cases h1 : hs m q 1 <;> cases h2 : hs m q 2 <;> cases h3 : hs m q 3 <;> cases h4 : hs m q 4 <;> simp [List.filter, h1, h2, h3, h4]
theorem tagsL_nd {m : List Int} : ∀ {k : Nat}, (tagsL m k).Nodup
  | 0 => List.nodup_nil
  | k + 1 => by
    unfold tagsL
    rw [List.nodup_append]
    refine ⟨tagsL_nd, tagL_nd, fun x hx y hy e => ?_⟩
    subst e
    obtain ⟨q, h1, h2, -⟩ := tagsL_mem.1 hx
    have := (tagL_mem.1 hy).1
    omega
/-- Each tag is told once. -/
theorem told_len {T : Th} {F m : List Int} {n k : Nat} {e : Es} (hp : Pf T F n) (hs_ : Sol T F m k) (h : Alls T F n m e) (htk : e.tk = e.td.length) (htok : Tok n e) : e.td.length = cntF m n := by
  have he := (end_all hp hs_ h htk).1
  rw [← tagsL_len]
  apply Nat.le_antisymm
  · refine nodup_le htok.nd fun x hx => ?_
    obtain ⟨x0, x1, xt, xh⟩ := htok.inn x hx
    obtain ⟨q, hq⟩ := Int.eq_ofNat_of_zero_le x0
    exact tagsL_mem.2 ⟨q, by omega, hq, xt, by rw [← hq, ← he x.1 x.2 x0 x1 xt]; exact xh⟩
  · refine nodup_le tagsL_nd fun x hx => ?_
    obtain ⟨q, h1, h2, h3, h4⟩ := tagsL_mem.1 hx
    have := h.td x.1 x.2 h3 (by rw [he x.1 x.2 (by omega) (by omega) h3, h2]; exact h4)
    exact this
end Go.Proofs.YthifoamnmhlghaaGreat.Fa
