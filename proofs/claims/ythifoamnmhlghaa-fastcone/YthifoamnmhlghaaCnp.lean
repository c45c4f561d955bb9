/- What is not in the cone of the facts that differ is alike by both. PLAIN. -/
import Derived.Test.YthifoamnmhlghaaHd
import Derived.Test.YthifoamnmhlghaaCnmC
namespace Go.Proofs.Ythifoamnmhlghaa.Fa

section
variable {T : Th} {A B : List Int} {n k k2 : Nat} {m m2 o : List Int}
theorem whole_same {r t : Int} (h : ∀ x ∈ bodyM T r, hs m x t = hs m2 x t) : wholeB T m r t = wholeB T m2 r t := by
  rw [Bool.eq_iff_iff, whl_iff, whl_iff]
  exact ⟨fun h1 x hx => by rw [← h x hx]; exact h1 x hx, fun h1 x hx => by rw [h x hx]; exact h1 x hx⟩
theorem part_same {r t : Int} (h : ∀ x ∈ bodyM T r, hs m x t = hs m2 x t) : partB T m r t = partB T m2 r t := by
  rw [Bool.eq_iff_iff, prt_iff, prt_iff]
  exact ⟨fun ⟨x, hx, h1⟩ => ⟨x, hx, by rw [← h x hx]; exact h1⟩, fun ⟨x, hx, h1⟩ => ⟨x, hx, by rw [h x hx]; exact h1⟩⟩
/-- A rule for what is not reached has nothing reached in its body. -/
theorem body_free {p : RuleM → Bool} {q r : Int} (hr : r ∈ rulesL T p q) (hq : ¬ Cz.Rch T o q) : ∀ x ∈ bodyM T r, ¬ Cz.Rch T o x := by
  intro x hx hn
  obtain ⟨a, y, e, hy, -, hh⟩ := mem_rules.1 hr
  subst e
  rw [(kind_at (p := kA) hy).2.2] at hx
  exact hq (.step hn (.inr ⟨y, List.mem_of_getElem? hy, hx, hh.symm⟩))
theorem foe_free (hp : Pf T A n) {q f : Int} (h0 : 0 ≤ q) (h1 : q < (n : Int)) (hf : f ∈ row T.foes q) (hq : ¬ Cz.Rch T o q) : ¬ Cz.Rch T o f := fun hn => hq (.step hn (.inl (foe_sym hp h0 h1 hf)))
/-- Alike outside. -/
def Out (T : Th) (n : Nat) (o m m2 : List Int) : Prop := ∀ q t : Int, 0 ≤ q → q < (n : Int) → isTag t → ¬ Cz.Rch T o q → hs m q t = hs m2 q t
theorem cond_out (hp : Pf T A n) (hAB : ∀ x, ¬ Cz.Rch T o x → (x ∈ A ↔ x ∈ B)) (h : Out T n o m m2) {q t : Int} (h0 : 0 ≤ q) (h1 : q < (n : Int)) (ht : isTag t) (hq : ¬ Cz.Rch T o q) : condM T A m t q = condM T B m2 t q := by
  have bd : ∀ {p : RuleM → Bool} {z r u : Int}, r ∈ rulesL T p z → ¬ Cz.Rch T o z → isTag u → ∀ x ∈ bodyM T r, hs m x u = hs m2 x u := fun {p z r u} hr hz hu x hx => by
    obtain ⟨a, rfl, ha, -, -⟩ := rule_lt hr
    obtain ⟨x0, x1⟩ := body_in hp ha hx
    exact h x u x0 x1 hu (body_free hr hz x hx)
  have fs : ∀ {f u : Int}, f ∈ row T.foes q → isTag u → hs m f u = hs m2 f u := fun {f u} hf hu => by
    obtain ⟨f0, f1⟩ := foe_in hp h0 h1 hf
    exact h f u f0 f1 hu (foe_free hp h0 h1 hf hq)
  have W : ∀ {p : RuleM → Bool} {z r u : Int}, r ∈ rulesL T p z → ¬ Cz.Rch T o z → isTag u → wholeB T m r u = wholeB T m2 r u := fun hr hz hu => whole_same (bd hr hz hu)
  have P : ∀ {p : RuleM → Bool} {z r u : Int}, r ∈ rulesL T p z → ¬ Cz.Rch T o z → isTag u → partB T m r u = partB T m2 r u := fun hr hz hu => part_same (bd hr hz hu)
  rcases ht with rfl | rfl | rfl | rfl
  · show plusS T A m q = plusS T B m2 q
    rw [Bool.eq_iff_iff, plusS_iff, plusS_iff, hAB q hq]
    constructor
    · rintro (h5 | ⟨r, hr, h5⟩)
      · exact .inl h5
      · exact .inr ⟨r, hr, by rw [← W hr hq tag1]; exact h5⟩
    · rintro (h5 | ⟨r, hr, h5⟩)
      · exact .inl h5
      · exact .inr ⟨r, hr, by rw [W hr hq tag1]; exact h5⟩
  · show minusS T A m q = minusS T B m2 q
    rw [Bool.eq_iff_iff, minusS_iff, minusS_iff, hAB q hq]
    constructor
    · rintro ⟨h5, h6⟩
      exact ⟨h5, fun r hr => by rw [← P hr hq tag2]; exact h6 r hr⟩
    · rintro ⟨h5, h6⟩
      exact ⟨h5, fun r hr => by rw [P hr hq tag2]; exact h6 r hr⟩
  · show plusD T m q = plusD T m2 q
    have ak : ∀ f ∈ row T.foes q, ∀ s ∈ rulesL T kA f, (atkP T m q s = true ↔ atkP T m2 q s = true) := fun f hf s hs => by
      rw [atkP_iff, atkP_iff, P hs (foe_free hp h0 h1 hf hq) tag4]
      constructor
      · rintro (h5 | ⟨t, ht, h5, h6⟩)
        · exact .inl h5
        · exact .inr ⟨t, ht, h5, by rw [← W ht hq tag3]; exact h6⟩
      · rintro (h5 | ⟨t, ht, h5, h6⟩)
        · exact .inl h5
        · exact .inr ⟨t, ht, h5, by rw [W ht hq tag3]; exact h6⟩
    rw [Bool.eq_iff_iff, plusD_iff, plusD_iff, h q 1 h0 h1 tag1 hq]
    constructor
    · rintro (h5 | ⟨⟨r, hr, h5⟩, h6, h7⟩)
      · exact .inl h5
      · exact .inr ⟨⟨r, hr, by rw [← W hr hq tag3]; exact h5⟩, fun f hf => by rw [← fs hf tag2]; exact h6 f hf, fun f hf s hs => (ak f hf s hs).1 (h7 f hf s hs)⟩
    · rintro (h5 | ⟨⟨r, hr, h5⟩, h6, h7⟩)
      · exact .inl h5
      · exact .inr ⟨⟨r, hr, by rw [W hr hq tag3]; exact h5⟩, fun f hf => by rw [fs hf tag2]; exact h6 f hf, fun f hf s hs => (ak f hf s hs).2 (h7 f hf s hs)⟩
  · show minusD T m q = minusD T m2 q
    have am : ∀ f ∈ row T.foes q, ∀ s ∈ rulesL T kA f, (atkM T m q s = true ↔ atkM T m2 q s = true) := fun f hf s hs => by
      rw [atkM_iff, atkM_iff, W hs (foe_free hp h0 h1 hf hq) tag3]
      constructor
      · rintro ⟨h5, h6⟩
        exact ⟨h5, fun t ht => by rw [← P ht hq tag4]; exact h6 t ht⟩
      · rintro ⟨h5, h6⟩
        exact ⟨h5, fun t ht => by rw [P ht hq tag4]; exact h6 t ht⟩
    rw [Bool.eq_iff_iff, minusD_iff, minusD_iff, h q 2 h0 h1 tag2 hq]
    constructor
    · rintro ⟨h5, h6⟩
      refine ⟨h5, ?_⟩
      rcases h6 with h6 | ⟨f, hf, h6⟩ | ⟨f, hf, s, hs, h6⟩
      · exact .inl fun r hr => by rw [← P hr hq tag4]; exact h6 r hr
      · exact .inr (.inl ⟨f, hf, by rw [← fs hf tag1]; exact h6⟩)
      · exact .inr (.inr ⟨f, hf, s, hs, (am f hf s hs).1 h6⟩)
    · rintro ⟨h5, h6⟩
      refine ⟨h5, ?_⟩
      rcases h6 with h6 | ⟨f, hf, h6⟩ | ⟨f, hf, s, hs, h6⟩
      · exact .inl fun r hr => by rw [P hr hq tag4]; exact h6 r hr
      · exact .inr (.inl ⟨f, hf, by rw [fs hf tag1]; exact h6⟩)
      · exact .inr (.inr ⟨f, hf, s, hs, (am f hf s hs).2 h6⟩)
theorem mk_out (hp : Pf T A n) (hp2 : Pf T B n) (hAB : ∀ x, ¬ Cz.Rch T o x → (x ∈ A ↔ x ∈ B)) : ∀ j : Nat, Out T n o (Mk T A j) (Mk T B j)
  | 0 => fun q t _ _ _ _ => rfl
  | j + 1 => by
    intro q t h0 h1 ht hq
    have ih := mk_out hp hp2 hAB j
    rw [Mk_succ, Mk_succ, hs_round Mk_bys h0 (by rw [Mk_len hp]; exact h1) ht, hs_round Mk_bys h0 (by rw [Mk_len hp2]; exact h1) ht, ih q t h0 h1 ht hq, cond_out hp hAB ih h0 h1 ht hq]
theorem sol_far (h : Sol T A m k) (j : Nat) : m = Mk T A (k + j) := by
  have : Mk T A (k + j) = iterM T A j m := by rw [h.1]; exact iter_add
  rw [this, iter_fix h.2]
/-- What the cone does not reach is alike. -/
theorem cone_same (hp : Pf T A n) (hp2 : Pf T B n) (hA : Sol T A m k) (hB : Sol T B m2 k2) (hAB : ∀ x, ¬ Cz.Rch T o x → (x ∈ A ↔ x ∈ B)) {q : Nat} (hqn : q < n) (hq : ¬ Cz.Rch T o q) : m.getD q 0 = m2.getD q 0 := by
  have e1 := sol_far hA k2
  have e2 := sol_far hB k
  rw [Nat.add_comm k2 k] at e2
  have h := mk_out hp hp2 hAB (k + k2)
  rw [← e1, ← e2] at h
  refine nib_ext (sol_bys hA q).1 (by rw [hA.1]; exact Mk_small q) (sol_bys hB q).1 (by rw [hB.1]; exact Mk_small q) fun t ht => ?_
  have := h q t (by omega) (by omega) ht hq
  unfold hs at this
  rw [Int.toNat_natCast] at this
  exact this
end
end Go.Proofs.Ythifoamnmhlghaa.Fa
