/- The steps of what is defeasible. PLAIN. -/
import Derived.Test.YthifoamnmhlghaaGreatHb
namespace Go.Proofs.YthifoamnmhlghaaGreat.Fa

section
variable {T : Th} {F : List Int} {n k : Nat} {m : List Int} {G G' : Gho} {e e' : Es} {K : Int → Int → Bool}
/-- A + at a rule that waits for it. -/
theorem Iv.plusD1 (hp : Pf T F n) (hs_ : Sol T F m k) (h : Iv T F n m G e) (hc : Cmp T F n K G e) {r : Nat} {q : Int} (hr : r < T.rules.length) (hb : q ∈ bodyM T r) (hn : G.a true r q = false) (hq : has e q 3 = true) :
    ∃ G', Iv T F n m G' (plusD1 T e r) ∧ Cmp T F n K G' (plusD1 T e r) ∧ (∀ b s x, G'.a b s x = true ↔ G.a b s x = true ∨ (b = true ∧ s = (r : Int) ∧ x = q)) ∧ G'.n = G.n ∧ G'.f = G.f := by
  have i1 := h.met hp (b := true) hr (kA_kind hr) hb hn hq
  have hus : ∀ s, s ≠ (r : Int) → used (metE e true r) s = used e s := fun s hs => by
    unfold Fa.used
    show decide (updB e.ms true (upd (e.ms true) r (dec (e.ms true r))) true s = 0) = _
    rw [updB_at, upd_off hs]
  have hmf : (metE e true r).ms false = e.ms false := by
    show updB e.ms true (upd (e.ms true) r (dec (e.ms true r))) false = e.ms false
    rw [updB_off (by decide)]
  have hur : used e r = false := by
    cases hu : used e r with
    | false => rfl
    | true => have := (h.x.used hr).1 hu q hb; rw [hn] at this; cases this
  unfold Fa.plusD1
  dsimp only
  by_cases h0 : (metE e true r).ms true r = 0
  · rw [if_pos h0]
    have hu1 : used (metE e true r) r = true := decide_eq_true h0
    have any_off : ∀ z : Nat, (r : Int) ∉ rulesL T kT z → (rulesL T kT z).any (used (metE e true r)) = true → (rulesL T kT z).any (used e) = true := fun z hz ha => by
      obtain ⟨t, ht, hut⟩ := List.any_eq_true.1 ha
      exact List.any_eq_true.2 ⟨t, ht, by rw [← hus t fun e1 => hz (e1 ▸ ht)]; exact hut⟩
    obtain ⟨G2, i2, p2, g2, m2, f2, d2, o2, k2, u2, -, b2, nb2, tr2, r2⟩ := i1.use hp hs_ hr hu1 (fun z hz hne ha hz0 => hc.p3 z hz (any_off z (fun hm => hne (by rw [(mem_kind hm).2.1])) ha) hz0) (fun ht z hz ha hz0 => hc.p3 z hz (any_off z (fun hm => by rw [show teamB T r = kindB T kT r from rfl, (mem_kind hm).2.2] at ht; cases ht) ha) hz0)
    have us2 : ∀ s, s ≠ (r : Int) → used (useE T (metE e true r) r) s = true → used e s = true := fun s hs h3 => by
      rw [used_ms m2, hus s hs] at h3; exact h3
    refine ⟨G2, i2, ⟨fun s hs hk h3 => u2 _ _ tag1 (hc.c1 s hs hk (by rw [m2, hmf] at h3; exact h3)), fun z hz => u2 _ _ tag1 (hc.cf z hz), fun z hz hF hall => u2 _ _ tag2 (hc.c2 z hz hF (by rw [f2] at hall; exact hall)), p2, fun t ht1 ht hut s hs => ?_, r2 hc.gr, fun t ht1 ht hf s hs => by rw [g2.w]; rw [f2] at hf; exact hc.gw t ht1 ht hf s hs, fun b s hs hk hf => by rw [g2.c]; rw [f2] at hf; exact hc.gc b s hs hk hf, fun z hz => u2 _ _ tag3 (hc.c3 z hz), fun z hz hK hall => u2 _ _ tag4 (hc.c4 z hz hK (by rw [f2] at hall; exact hall)), fun z hz hK s hs hrv hut hcd => ?_, fun z hz hK f hf hKf => u2 _ _ tag4 (hc.cr z hz hK f hf hKf), fun z hz => u2 _ _ tag2 (hc.q2 z hz), fun z hz => u2 _ _ tag1 (hc.q1 z hz)⟩, fun b s x => by rw [g2.a]; exact upn_iff, g2.n, g2.f⟩
    · by_cases et : (t : Int) = r
      · have : t = r := by omega
        subst this
        exact nb2 ht s hs
      · exact b2 _ _ (hc.cb t ht1 ht (us2 t et hut) s hs)
    · rw [d2] at hcd
      by_cases et : (s : Int) = r
      · have : s = r := by omega
        subst this
        exact tr2 _ hrv hcd (hc.q2 _ hK)
      · exact u2 _ _ tag4 (hc.co z hz hK s hs hrv (us2 s et hut) hcd)
  · rw [if_neg h0]
    have us : used (metE e true r) = used e := by
      funext s
      by_cases es : s = (r : Int)
      · rw [es, hur]; exact decide_eq_false h0
      · exact hus s es
    refine ⟨_, i1, hc.of us hmf rfl rfl rfl (fun _ _ _ hz => hz) rfl rfl hc.c2 (fun z hz ha hz0 => hc.p3 z hz (by rw [us] at ha; exact ha) hz0) hc.gc, fun b s x => upn_iff, rfl, rfl⟩
theorem plusD_fold (hp : Pf T F n) (hs_ : Sol T F m k) {q : Int} : ∀ (l : List Int) {G : Gho} {e : Es}, l.Nodup → (∀ r ∈ l, r ∈ usersL T true q ∧ G.a true r q = false) → Iv T F n m G e → Cmp T F n K G e → has e q 3 = true →
    ∃ G', Iv T F n m G' (l.foldl (Fa.plusD1 T) e) ∧ Cmp T F n K G' (l.foldl (Fa.plusD1 T) e) ∧ (∀ b s x, G'.a b s x = true ↔ G.a b s x = true ∨ (b = true ∧ s ∈ l ∧ x = q)) ∧ G'.n = G.n ∧ G'.f = G.f := by
  intro l
  induction l with
  | nil => intro G e _ _ h hc _; exact ⟨G, h, hc, fun b r x => by simp, rfl, rfl⟩
  | cons r0 l ih =>
    intro G e hnd hl h hc hq
    obtain ⟨hn1, hn2⟩ := List.nodup_cons.1 hnd
    obtain ⟨r, rfl, hr, hk, hb⟩ := user_in (hl r0 List.mem_cons_self).1
    obtain ⟨G1, i1, c1, a1, n1, f1⟩ := h.plusD1 hp hs_ hc hr hb (hl r List.mem_cons_self).2 hq
    have hg : Gro e (Fa.plusD1 T e r) := by
      unfold Fa.plusD1
      dsimp only
      split
      · exact (Gro.refl h.y).met.use
      · exact (Gro.refl h.y).met
    obtain ⟨G2, i2, c2, a2, n2, f2⟩ := ih hn2 (fun s hs => ⟨(hl s (List.mem_cons_of_mem _ hs)).1, by
      cases hg : G1.a true s q with
      | false => rfl
      | true =>
        rcases (a1 true s q).1 hg with h3 | ⟨-, h3, -⟩
        · rw [(hl s (List.mem_cons_of_mem _ hs)).2] at h3; cases h3
        · exact absurd (h3 ▸ hs) hn1⟩) i1 c1 (hg.up _ _ tag3 hq)
    refine ⟨G2, i2, c2, fun b s x => ?_, n2.trans n1, f2.trans f1⟩
    rw [a2, a1]
    simp only [List.mem_cons]
    constructor
    · rintro ((h | ⟨h1, h2, h3⟩) | ⟨h1, h2, h3⟩)
      · exact .inl h
      · exact .inr ⟨h1, .inl h2, h3⟩
      · exact .inr ⟨h1, .inr h2, h3⟩
    · rintro (h | ⟨h1, h2 | h2, h3⟩)
      · exact .inl (.inl h)
      · exact .inl (.inr ⟨h1, h2, h3⟩)
      · exact .inr ⟨h1, h2, h3⟩
/-- A - at a rule that waits for it. -/
theorem Iv.minusD1 (hp : Pf T F n) (hs_ : Sol T F m k) (h : Iv T F n m G e) (hc : Cmp T F n K G e) {r : Nat} {q : Int} (hr : r < T.rules.length) (hb : q ∈ bodyM T r) (hq : has e q 4 = true) :
    ∃ G', Iv T F n m G' (minusD1 T e r) ∧ Cmp T F n K G' (minusD1 T e r) ∧ (∀ b s x, G'.n b s x = true ↔ G.n b s x = true ∨ (b = true ∧ s = (r : Int) ∧ x = q)) ∧ G'.a = G.a ∧ G'.f = G.f := by
  have i1 := h.ref (b := true) hr hb hq
  unfold Fa.minusD1
  by_cases hf : e.rf true r = true
  · have e1 : refE e true r = e := by unfold refE; rw [if_pos hf]
    rw [e1] at i1
    rw [if_pos hf]
    exact ⟨_, i1, hc.tem Tem.refl rfl rfl rfl hc.c1, fun b s x => upn_iff, rfl, rfl⟩
  · rw [if_neg hf]
    have hcbe : (refE e true r).cb = e.cb := ref_same.2.2.2.2.1
    have hh1 : ∀ z t, has (refE e true r) z t = has e z t := fun z t => ref_has
    have p1 : P3 T n (refE e true r) := hc.p3.ms (by rw [ref_same.1]) ref_same.2.2.1 fun z hz => by rw [hh1]; exact hz
    obtain ⟨G2, i2, t2, p2, a2, n2, f2, r2, w2, c2, cf2, rr2, wc2, op2, cd2, tr2⟩ := i1.drop hp hs_ p1 hr rf_at (fun z hz hcz => by
        cases hg : G.r r z with
        | false => rfl
        | true =>
          rcases h.s.r r z hg with h5 | h5
          · exact absurd h5 hf
          · rw [hcbe, h5] at hcz; cases hcz) (fun s hs => by
        cases hg : G.w r s with
        | false => rfl
        | true => exact absurd (h.s.w r s hg) hf) (by
        cases hg : G.c true r with
        | false => rfl
        | true => exact absurd (h.s.c true r hg) hf)
    have up : ∀ z t, isTag t → has e z t = true → has (dropE T (refE e true r) r) z t = true := fun z t ht hz => t2.up z t ht (by rw [hh1]; exact hz)
    have ms' : (dropE T (refE e true r) r).ms = e.ms := t2.ms.trans ref_same.1
    have us' : used (dropE T (refE e true r) r) = used e := used_ms ms'
    have cb' : (dropE T (refE e true r) r).cb = e.cb := t2.cb.trans hcbe
    have rf' : ∀ b s, ¬ (b = true ∧ s = (r : Int)) → (dropE T (refE e true r) r).rf b s = e.rf b s := fun b s hbs => by rw [t2.rf]; exact ref_off hbs
    obtain ⟨hd, ehd, hdn⟩ := head_nat hp hr
    refine ⟨G2, i2, ⟨fun s hs hk h3 => up _ _ tag1 (hc.c1 s hs hk (by rw [ms'] at h3; exact h3)), fun z hz => up _ _ tag1 (hc.cf z hz), fun z hz hF hall => up _ _ tag2 (hc.c2 z hz hF fun s hs => by have := hall s hs; rw [rf' false s (by simp)] at this; exact this), p2, fun t ht1 ht hut s hs => by rw [cb']; rw [us'] at hut; exact hc.cb t ht1 ht hut s hs, fun s hs z hz ho => ?_, fun t ht1 ht hft s hs => ?_, fun b s hs hk hfs => ?_, fun z hz => up _ _ tag3 (hc.c3 z hz), fun z hz hK hall => ?_, fun z hz hK s hs hrv hut hcd => ?_, fun z hz hK f hf2 hKf => up _ _ tag4 (hc.cr z hz hK f hf2 hKf), fun z hz => up _ _ tag2 (hc.q2 z hz), fun z hz => up _ _ tag1 (hc.q1 z hz)⟩, fun b s x => by rw [n2]; exact upn_iff, a2, f2⟩
    · by_cases es : (s : Int) = r
      · have : s = r := by omega
        subst this
        cases hcz : e.cb s z with
        | false => exact rr2 z hz (by rw [hcbe]; exact hcz)
        | true => exact r2 _ _ (hc.gr s hs z hz (.inr hcz))
      · rw [rf' true s fun e1 => es e1.2, cb'] at ho
        exact r2 _ _ (hc.gr s hs z hz ho)
    · by_cases es : (t : Int) = r
      · have : t = r := by omega
        subst this
        exact (wc2 ht).1 s hs
      · rw [rf' true t fun e1 => es e1.2] at hft
        exact w2 _ _ (hc.gw t ht1 ht hft s hs)
    · cases b with
      | false =>
        rw [cf2]
        rw [rf' false s (by simp)] at hfs
        exact hc.gc false s hs hk hfs
      | true =>
        by_cases es : (s : Int) = r
        · have : s = r := by omega
          subst this
          exact (wc2 hk).2
        · rw [rf' true s fun e1 => es e1.2] at hfs
          exact c2 _ (hc.gc true s hs hk hfs)
    · by_cases hm : (r : Int) ∈ rulesL T kT z
      · obtain ⟨-, hhz, hkt⟩ := mem_kind hm
        have ehz : (z : Int) = headOf T r := hhz.symm
        have ht : teamB T r = true := hkt
        rw [ehz]
        refine op2 ht ?_ (by rw [hh1, ← ehz]; exact hc.q2 z hK)
        rw [hhz]
        refine op_one i1.x (b := true) hz hm (by
          show G.c true r = false
          cases hg : G.c true r with
          | false => rfl
          | true => exact absurd (h.s.c true r hg) hf) (open_not i1.x (fun h5 => by cases h5) fun t htm => by rw [← t2.rf]; exact hall t htm) fun t htm hne => ?_
        obtain ⟨a, rfl, ha, -, hka⟩ := rule_lt htm
        have h3 := hall a htm
        rw [rf' true a fun e1 => hne e1.2] at h3
        exact hc.gc true a ha hka h3
      · refine up _ _ tag4 (hc.c4 z hz hK fun t htm => ?_)
        have h3 := hall t htm
        rw [rf' true t fun e1 => hm (e1.2 ▸ htm)] at h3
        exact h3
    · rw [us'] at hut
      by_cases hcase : (z : Int) ≠ headOf T r ∨ (s : Int) ∉ row T.beats r ∨ teamB T r = false
      · rw [cd2 s z hcase, ref_same.2.1] at hcd
        exact up _ _ tag4 (hc.co z hz hK s hs hrv hut hcd)
      · have h5 : (z : Int) = headOf T r := Classical.byContradiction fun h5 => hcase (.inl h5)
        have h6 : (s : Int) ∈ row T.beats r := Classical.byContradiction fun h6 => hcase (.inr (.inl h6))
        have h7 : teamB T r = true := by cases h7 : teamB T r; exact absurd (.inr (.inr h7)) hcase; rfl
        rw [h5] at hcd hK ⊢
        exact tr2 h7 s h6 hcd (by rw [used_ms ref_same.1]; exact hut) (by rw [hh1]; exact hc.q2 _ hK)
theorem minusD_fold (hp : Pf T F n) (hs_ : Sol T F m k) {q : Int} : ∀ (l : List Int) {G : Gho} {e : Es}, (∀ r ∈ l, r ∈ usersL T true q) → Iv T F n m G e → Cmp T F n K G e → has e q 4 = true →
    ∃ G', Iv T F n m G' (l.foldl (Fa.minusD1 T) e) ∧ Cmp T F n K G' (l.foldl (Fa.minusD1 T) e) ∧ (∀ b s x, G'.n b s x = true ↔ G.n b s x = true ∨ (b = true ∧ s ∈ l ∧ x = q)) ∧ G'.a = G.a ∧ G'.f = G.f := by
  intro l
  induction l with
  | nil => intro G e _ h hc _; exact ⟨G, h, hc, fun b r x => by simp, rfl, rfl⟩
  | cons r0 l ih =>
    intro G e hl h hc hq
    obtain ⟨r, rfl, hr, hk, hb⟩ := user_in (hl r0 List.mem_cons_self)
    obtain ⟨G1, i1, c1, n1, a1, f1⟩ := h.minusD1 hp hs_ hc hr hb hq
    have hg : Gro e (Fa.minusD1 T e r) := by
      unfold Fa.minusD1
      split
      · exact Gro.refl h.y
      · exact (Gro.refl h.y).ref.drop
    obtain ⟨G2, i2, c2, n2, a2, f2⟩ := ih (fun s hs => hl s (List.mem_cons_of_mem _ hs)) i1 c1 (hg.up _ _ tag4 hq)
    refine ⟨G2, i2, c2, fun b s x => ?_, a2.trans a1, f2.trans f1⟩
    rw [n2, n1]
    simp only [List.mem_cons]
    constructor
    · rintro ((h | ⟨h1, h2, h3⟩) | ⟨h1, h2, h3⟩)
      · exact .inl h
      · exact .inr ⟨h1, .inl h2, h3⟩
      · exact .inr ⟨h1, .inr h2, h3⟩
    · rintro (h | ⟨h1, h2 | h2, h3⟩)
      · exact .inl (.inl h)
      · exact .inl (.inr ⟨h1, h2, h3⟩)
      · exact .inr ⟨h1, h2, h3⟩
end
end Go.Proofs.YthifoamnmhlghaaGreat.Fa
