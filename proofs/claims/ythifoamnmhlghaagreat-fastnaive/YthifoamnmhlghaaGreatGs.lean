/- What may be told. PLAIN. -/
import Derived.Test.YthifoamnmhlghaaGreatGh
namespace Go.Proofs.YthifoamnmhlghaaGreat.Fa

section
variable {T : Th} {F : List Int} {n k : Nat} {m : List Int} {G : Gho} {e : Es}
theorem rule_lt {p : RuleM → Bool} {z r : Int} (h : r ∈ rulesL T p z) : ∃ a : Nat, r = (a : Int) ∧ a < T.rules.length ∧ headOf T a = z ∧ kindB T p a = true := by
  obtain ⟨a, x, e1, hx, hk, hh⟩ := mem_rules.1 h
  obtain ⟨k1, k2, -⟩ := kind_at (p := p) hx
  exact ⟨a, e1, (List.getElem?_eq_some_iff.1 hx).1, by rw [k2]; exact hh, by rw [k1]; exact hk⟩
theorem Snd.tell (h : Snd T n m G e) (hby : ∀ q, isByte (e.mq q)) {q t : Int} (ht : isTag t) (hm : hs m q t = true) : Snd T n m G (tell e q t) := by
  unfold Fa.tell
  split
  · exact h
  · have key : ∀ z u : Int, isTag u → has { e with mq := upd e.mq q (orB (e.mq q) t), td := e.td ++ [(q, t)], up := inc (inc e.up) } z u = (has e z u || decide (z = q ∧ t = u)) := by
      intro z u hu
      show hb (upd e.mq q (orB (e.mq q) t) z) u = _
      by_cases ez : z = q
      · subst ez
        rw [upd_at, (or_facts (hby z) ht hu).1]
        simp [has]
      · rw [upd_off ez]
        simp [ez, has]
    have up : ∀ z u : Int, isTag u → has e z u = true → has { e with mq := upd e.mq q (orB (e.mq q) t), td := e.td ++ [(q, t)], up := inc (inc e.up) } z u = true := fun z u hu hz => by rw [key z u hu, hz]; rfl
    have tpT : ∀ b, isTag (tp b) := fun b => by cases b; exact tag1; exact tag3
    have tnT : ∀ b, isTag (tn b) := fun b => by cases b; exact tag2; exact tag4
    refine ⟨fun b r x hx => up _ _ (tpT b) (h.a b r x hx), fun b r x hx => up _ _ (tnT b) (h.nn b r x hx), h.c, fun f p hf => up _ _ tag2 (h.f f p hf), h.r, h.w, h.cb, fun z u h0 h1 hu hz => ?_⟩
    rw [key z u hu, Bool.or_eq_true] at hz
    rcases hz with hz | hz
    · exact h.mm z u h0 h1 hu hz
    · obtain ⟨rfl, rfl⟩ := of_decide_eq_true hz
      exact hm
theorem may1 (hp : Pf T F n) (hs_ : Sol T F m k) (hx : Exa T F n G e) (h : Snd T n m G e) {r : Nat} (hr : r < T.rules.length) (hk : kindB T kS r = true) (h0 : e.ms false r = 0) : hs m (headOf T r) 1 = true := by
  obtain ⟨x, hxr, hh, x0, x1⟩ := head_in hp hr
  rw [hx.ms false r hr hk, lf_zero] at h0
  refine (sol_iff hp hs_ (by rw [hh]; exact x0) (by rw [hh]; exact x1) tag1).2 (plusS_iff.2 (.inr ⟨r, ?_, h.whole hp (b := false) hr h0⟩))
  exact mem_rules.2 ⟨r, x, rfl, hxr, by rw [← (kind_at (p := kS) hxr).1]; exact hk, hh.symm⟩
theorem may2 (hp : Pf T F n) (hs_ : Sol T F m k) (hx : Exa T F n G e) (h : Snd T n m G e) {q : Nat} (hq : q < n) (hF : (q : Int) ∉ F) (hc : ∀ r ∈ rulesL T kS q, e.rf false r = true) : hs m q 2 = true := by
  refine (sol_iff hp hs_ (by omega) (by omega) tag2).2 (minusS_iff.2 ⟨hF, fun r hr => ?_⟩)
  obtain ⟨a, rfl, ha, -, -⟩ := rule_lt hr
  exact h.part hp hx (b := false) ha (hc a hr)
theorem may3 (hp : Pf T F n) (hs_ : Sol T F m k) (hx : Exa T F n G e) (h : Snd T n m G e) {q : Nat} (hq : q < n) (ho : e.ob q = 0) (hu : (rulesL T kT q).any (used e) = true) : hs m q 3 = true := by
  obtain ⟨r, hr, hur⟩ := List.any_eq_true.1 hu
  obtain ⟨a, rfl, ha, -, -⟩ := rule_lt hr
  have ht : rulesL T kT (q : Int) ≠ [] := fun e => by rw [e] at hr; cases hr
  rw [hx.ob q hq ht] at ho
  have n1 := lf_nonneg (l := (row T.foes (q : Int)).filter (firmB T F)) (P := fun f => G.f f q)
  have n2 := lf_nonneg (l := agL T q) (P := fun s => G.r s q)
  have z1 := lf_zero.1 (show lf ((row T.foes (q : Int)).filter (firmB T F)) (fun f => G.f f q) = 0 by omega)
  have z2 := lf_zero.1 (show lf (agL T q) (fun s => G.r s q) = 0 by omega)
  refine (sol_iff hp hs_ (by omega) (by omega) tag3).2 (plusD_iff.2 (.inr ⟨⟨a, hr, h.whole hp (b := true) ha ((hx.used ha).1 hur)⟩, fun f hf => ?_, fun f hf s hsf => ?_⟩))
  · obtain ⟨f0, f1⟩ := hp.foe q hq f hf
    cases hfm : firmB T F f with
    | true => exact h.mm f 2 f0 f1 tag2 (h.f f q (z1 f (List.mem_filter.2 ⟨hf, hfm⟩)))
    | false =>
      unfold firmB at hfm
      simp only [Bool.or_eq_false_iff, decide_eq_false_iff_not, Bool.not_eq_false', List.isEmpty_iff] at hfm
      refine (sol_iff hp hs_ f0 f1 tag2).2 (minusS_iff.2 ⟨hfm.1, fun r hr => ?_⟩)
      rw [hfm.2] at hr
      cases hr
  · obtain ⟨b, rfl, hb, hhb, -⟩ := rule_lt hsf
    refine h.atk hp hx hb (z2 b ?_)
    unfold agL
    refine List.mem_map.2 ⟨b, List.mem_filter.2 ⟨List.mem_range.2 hb, ?_⟩, rfl⟩
    rw [hhb]
    exact decide_eq_true hf
theorem may4 (hp : Pf T F n) (hs_ : Sol T F m k) {q : Nat} (hq : q < n) (h2 : hs m q 2 = true) (hc : (∀ r ∈ rulesL T kT q, partB T m r 4 = true) ∨ (∃ f ∈ row T.foes q, hs m f 1 = true) ∨ ∃ f ∈ row T.foes q, ∃ s ∈ rulesL T kA f, atkM T m q s = true) : hs m q 4 = true :=
  (sol_iff hp hs_ (by omega) (by omega) tag4).2 (minusD_iff.2 ⟨h2, hc⟩)
/-- A used rule against which nothing is left stands. -/
theorem over_of (hp : Pf T F n) (hx : Exa T F n G e) (h : Snd T n m G e) {s : Nat} {p : Int} (hs_ : s < T.rules.length) (hpr : p ∈ rivalsL T (headOf T s)) (hu : used e s = true) (hc : e.cd s p = 0) : atkM T m p s = true := by
  refine atkM_iff.2 ⟨h.whole hp (b := true) hs_ ((hx.used hs_).1 hu), fun t ht => ?_⟩
  rw [hx.cd s hs_ p hpr, lf_zero] at hc
  cases hb : beatB T t s with
  | false => exact .inr rfl
  | true =>
    obtain ⟨a, rfl, ha, -, -⟩ := rule_lt ht
    exact .inl (h.part hp hx (b := true) ha (h.w a s (hc a (List.mem_filter.2 ⟨ht, hb⟩))))
end
end Go.Proofs.YthifoamnmhlghaaGreat.Fa
