/- A step whole; the end: the marks are those that rounds end with. PLAIN. -/
import Derived.Test.YthifoamnmhlghaaGreatHc
namespace Go.Proofs.YthifoamnmhlghaaGreat.Fa

def addK (K : Int → Int → Bool) (q t : Int) : Int → Int → Bool := fun z u => K z u || decide (z = q ∧ u = t)
section
variable {T : Th} {F : List Int} {n k : Nat} {m : List Int} {G G' : Gho} {e e' : Es} {K : Int → Int → Bool}
theorem addK_iff {q t z u : Int} : addK K q t z u = true ↔ K z u = true ∨ (z = q ∧ u = t) := by unfold addK; simp
theorem addK_ne {q t z u : Int} (h : u ≠ t) : addK K q t z u = K z u := by unfold addK; simp [h]
theorem Cmp.k34 (h : Cmp T F n K G e) {q t : Int} (h1 : t ≠ 1) (h2 : t ≠ 2) : Cmp T F n (addK K q t) G e := by
  have e1 : ∀ z, addK K q t z 1 = K z 1 := fun z => addK_ne (Ne.symm h1)
  have e2 : ∀ z, addK K q t z 2 = K z 2 := fun z => addK_ne (Ne.symm h2)
  exact ⟨h.c1, h.cf, h.c2, h.p3, h.cb, h.gr, h.gw, h.gc, fun z hz => h.c3 z (by rw [e1] at hz; exact hz), fun z hz hK => h.c4 z hz (by rw [e2] at hK; exact hK), fun z hz hK => h.co z hz (by rw [e2] at hK; exact hK), fun z hz hK f hf hKf => h.cr z hz (by rw [e2] at hK; exact hK) f hf (by rw [e1] at hKf; exact hKf), fun z hz => h.q2 z (by rw [e2] at hz; exact hz), fun z hz => h.q1 z (by rw [e1] at hz; exact hz)⟩
theorem Cmp.k1 (h : Cmp T F n K G e) {q : Int} (h1 : has e q 1 = true) (h3 : has e q 3 = true) (h4 : ∀ z : Nat, z < n → K z 2 = true → q ∈ row T.foes z → has e z 4 = true) : Cmp T F n (addK K q 1) G e := by
  have e2 : ∀ z, addK K q 1 z 2 = K z 2 := fun z => addK_ne (by decide)
  refine ⟨h.c1, h.cf, h.c2, h.p3, h.cb, h.gr, h.gw, h.gc, fun z hz => ?_, fun z hz hK => h.c4 z hz (by rw [e2] at hK; exact hK), fun z hz hK => h.co z hz (by rw [e2] at hK; exact hK), fun z hz hK f hf hKf => ?_, fun z hz => h.q2 z (by rw [e2] at hz; exact hz), fun z hz => ?_⟩
  · rcases addK_iff.1 hz with h5 | ⟨rfl, -⟩
    · exact h.c3 z h5
    · exact h3
  · rw [e2] at hK
    rcases addK_iff.1 hKf with h5 | ⟨rfl, -⟩
    · exact h.cr z hz hK f hf h5
    · exact h4 z hz hK hf
  · rcases addK_iff.1 hz with h5 | ⟨rfl, -⟩
    · exact h.q1 z h5
    · exact h1
theorem Cmp.k2 (h : Cmp T F n K G e) {q : Nat} (h2 : has e q 2 = true) (h4 : (∀ r ∈ rulesL T kT q, e.rf true r = true) → has e q 4 = true) (ho : ∀ s : Nat, s < T.rules.length → (q : Int) ∈ rivalsL T (headOf T s) → used e s = true → e.cd s q = 0 → has e q 4 = true) (hr : ∀ f ∈ row T.foes q, K f 1 = true → has e q 4 = true) : Cmp T F n (addK K q 2) G e := by
  have e1 : ∀ z, addK K q 2 z 1 = K z 1 := fun z => addK_ne (by decide)
  refine ⟨h.c1, h.cf, h.c2, h.p3, h.cb, h.gr, h.gw, h.gc, fun z hz => h.c3 z (by rw [e1] at hz; exact hz), fun z hz hK => ?_, fun z hz hK => ?_, fun z hz hK f hf hKf => ?_, fun z hz => ?_, fun z hz => h.q1 z (by rw [e1] at hz; exact hz)⟩
  · rcases addK_iff.1 hK with h5 | ⟨h5, -⟩
    · exact h.c4 z hz h5
    · rw [h5]; exact h4
  · rcases addK_iff.1 hK with h5 | ⟨h5, -⟩
    · exact h.co z hz h5
    · rw [h5]; exact ho
  · rw [e1] at hKf
    rcases addK_iff.1 hK with h5 | ⟨h5, -⟩
    · exact h.cr z hz h5 f hf hKf
    · rw [h5] at hf ⊢; exact hr f hf hKf
  · rcases addK_iff.1 hz with h5 | ⟨h5, -⟩
    · exact h.q2 z h5
    · rw [h5]; exact h2
/-- What is accounted is just what is taken. -/
structure Tie (T : Th) (F : List Int) (K : Int → Int → Bool) (G : Gho) : Prop where
  a : ∀ b (r : Nat) x, r < T.rules.length → kindB T (kW b) r = true → x ∈ bodyM T r → (G.a b r x = true ↔ K x (tp b) = true)
  n : ∀ b (r : Nat) x, r < T.rules.length → kindB T (kW b) r = true → x ∈ bodyM T r → (G.n b r x = true ↔ K x (tn b) = true)
  f : ∀ f p, firmB T F f = true → p ∈ rivalsL T f → (G.f f p = true ↔ K f 2 = true)
theorem Tie.addA (h : Tie T F K G) {b0 : Bool} {q : Int} (ha : ∀ b r x, G'.a b r x = true ↔ G.a b r x = true ∨ (b = b0 ∧ r ∈ usersL T b0 q ∧ x = q)) (hn : G'.n = G.n) (hf : G'.f = G.f) : Tie T F (addK K q (tp b0)) G' := by
  refine ⟨fun b r x hr hk hx => ?_, fun b r x hr hk hx => ?_, fun f p h1 h2 => ?_⟩
  · rw [ha, h.a b r x hr hk hx, addK_iff]
    constructor
    · rintro (h1 | ⟨rfl, -, h2⟩)
      · exact .inl h1
      · exact .inr ⟨h2, rfl⟩
    · rintro (h1 | ⟨rfl, h2⟩)
      · exact .inl h1
      · have eb : b = b0 := by revert h2; cases b <;> cases b0 <;> decide
        subst eb
        exact .inr ⟨rfl, user_mem hr hk hx, rfl⟩
  · rw [hn, h.n b r x hr hk hx, addK_ne (by cases b <;> cases b0 <;> decide)]
  · rw [hf, h.f f p h1 h2, addK_ne (by cases b0 <;> decide)]
theorem Tie.addN (h : Tie T F K G) {b0 : Bool} {q : Int} (hn : ∀ b r x, G'.n b r x = true ↔ G.n b r x = true ∨ (b = b0 ∧ r ∈ usersL T b0 q ∧ x = q)) (ha : G'.a = G.a) (hf : ∀ f p, firmB T F f = true → p ∈ rivalsL T f → (G'.f f p = true ↔ addK K q (tn b0) f 2 = true)) : Tie T F (addK K q (tn b0)) G' := by
  refine ⟨fun b r x hr hk hx => ?_, fun b r x hr hk hx => ?_, hf⟩
  · rw [ha, h.a b r x hr hk hx, addK_ne (by cases b <;> cases b0 <;> decide)]
  · rw [hn, h.n b r x hr hk hx, addK_iff]
    constructor
    · rintro (h1 | ⟨rfl, -, h2⟩)
      · exact .inl h1
      · exact .inr ⟨h2, rfl⟩
    · rintro (h1 | ⟨rfl, h2⟩)
      · exact .inl h1
      · have eb : b = b0 := by revert h2; cases b <;> cases b0 <;> decide
        subst eb
        exact .inr ⟨rfl, user_mem hr hk hx, rfl⟩
def Kof (e : Es) : Int → Int → Bool := fun z u => decide ((z, u) ∈ e.td.take e.tk)
/-- What a run keeps, behind each step. -/
structure Alls (T : Th) (F : List Int) (n : Nat) (m : List Int) (e : Es) : Prop where
  iv : ∃ G, Iv T F n m G e ∧ Cmp T F n (Kof e) G e ∧ Tie T F (Kof e) G
  sm : ∀ q, e.mq q < 16
  td : ∀ z t, isTag t → has e z t = true → (z, t) ∈ e.td
theorem does_all (hp : Pf T F n) (hs_ : Sol T F m k) (h : Iv T F n m G e) (hc : Cmp T F n K G e) (ht : Tie T F K G) {q : Nat} {t : Int} (hq : q < n) (htag : isTag t) (hh : has e q t = true) (hK : K q t = false) : ∃ G', Iv T F n m G' (doesE T F e q t) ∧ Cmp T F n (addK K q t) G' (doesE T F e q t) ∧ Tie T F (addK K q t) G' := by
  have noA : ∀ b, t = tp b → ∀ r ∈ usersL T b q, G.a b r q = false := fun b hb r hr => by
    obtain ⟨a, rfl, ha, hk, hx⟩ := user_in hr
    cases hg : G.a b a q with
    | false => rfl
    | true => have := (ht.a b a q ha hk hx).1 hg; rw [← hb, hK] at this; cases this
  rcases htag with rfl | rfl | rfl | rfl
  · show ∃ G', Iv T F n m G' (plusSE T e q) ∧ Cmp T F n (addK K q 1) G' (plusSE T e q) ∧ Tie T F (addK K q 1) G'
    have h1m := h.s.mm q 1 (by omega) (by omega) tag1 hh
    have h3m : hs m q 3 = true := (sol_iff hp hs_ (by omega) (by omega) tag3).2 (plusD_iff.2 (.inl h1m))
    have t0 := tem_tell h.y (q := (q : Int)) tag3
    obtain ⟨G1, i1, c1, t1, a1, n1, f1⟩ := plusS_fold hp hs_ (q := (q : Int)) (usersL T false q) users_nd (fun _ h => h) (h.tell tag3 h3m) (hc.tem1 t0 tell_ms) (t0.up _ _ tag1 hh) (noA false rfl)
    obtain ⟨i2, c2, t2, l2⟩ := lose_fold hp hs_ (q := (q : Int)) (by omega) (by omega) (row T.foes q) (fun _ h => h) i1 c1 (t1.up _ _ tag1 (t0.up _ _ tag1 hh))
    refine ⟨G1, i2, c2.k1 (t2.up _ _ tag1 (t1.up _ _ tag1 (t0.up _ _ tag1 hh))) (t2.up _ _ tag3 (t1.up _ _ tag3 (tell_has h.y tag3))) fun z hz hKz hf => ?_, ht.addA (b0 := false) a1 n1 f1⟩
    exact l2 z (foe_sym hp (by omega) (by omega) hf) (c1.q2 z hKz)
  · show ∃ G', Iv T F n m G' (minusSE T F e q) ∧ Cmp T F n (addK K q 2) G' (minusSE T F e q) ∧ Tie T F (addK K q 2) G'
    unfold minusSE
    dsimp only
    obtain ⟨G1, i1, c1, n1, a1, f1⟩ := minusS_fold hp hs_ (q := (q : Int)) (usersL T false q) (fun _ h => h) h hc hh
    have hh1 : has ((usersL T false q).foldl (Fa.minusS1 T) e) q 2 = true := (Gro.fold (Gro.refl h.y) fun r _ e2 h => h.minusS1 : Gro e ((usersL T false q).foldl (Fa.minusS1 T) e)).up _ _ tag2 hh
    have fin : ∀ {G2 : Gho} {e2 : Es}, Iv T F n m G2 e2 → Cmp T F n K G2 e2 → has e2 q 2 = true → Iv T F n m G2 (disproveE T e2 q) ∧ Cmp T F n (addK K q 2) G2 (disproveE T e2 q) := fun {G2 e2} i2 c2 h2 => by
      obtain ⟨i3, t3, m3, d3⟩ := i2.disprove hp hs_ hq
      refine ⟨i3, (c2.tem1 t3 m3).k2 (t3.up _ _ tag2 h2) (fun hall => d3 ?_ h2) (fun s hs hrv hu hcd => d3 ?_ h2) fun f hf hKf => d3 ?_ h2⟩
      · rw [t3.rf] at hall
        have : forsB T e2 q = true := by
          unfold forsB
          rw [Bool.not_eq_true', List.any_eq_false]
          intro r hr
          unfold dropped
          rw [hall r hr]
          decide
        rw [this]
        rfl
      · have : overB T e2 q = true := by
          unfold overB
          obtain ⟨hf2, -⟩ := mem_rival.1 hrv
          obtain ⟨x, hx, ehx, x0, x1⟩ := head_in hp hs
          refine List.any_eq_true.2 ⟨headOf T s, foe_sym hp (by rw [ehx]; exact x0) (by rw [ehx]; exact x1) hf2, List.any_eq_true.2 ⟨s, kind_mem hs (kA_kind hs), ?_⟩⟩
          rw [used_ms m3] at hu
          rw [t3.cd] at hcd
          rw [hu, decide_eq_true hcd]
          rfl
        rw [this]
        simp
      · obtain ⟨f0, f1⟩ := hp.foe q hq f hf
        have h1 : has e2 f 1 = true := c2.q1 f hKf
        have : refuB T e2 q = true := List.any_eq_true.2 ⟨f, hf, h1⟩
        rw [this]
        simp
    by_cases hfm : firmB T F q = true
    · rw [if_pos hfm]
      obtain ⟨G2, i2, c2, f2, a2, n2⟩ := clr_fold hp hs_ hq hfm (rivalsL T q) ((pw_nodup (foe_pw hp hq).1).filter _) (fun p hpr => ⟨hpr, by
        rw [f1]
        cases hg : G.f q p with
        | false => rfl
        | true => have := (ht.f q p hfm hpr).1 hg; rw [hK] at this; cases this⟩) i1 c1 hh1
      obtain ⟨i3, c3⟩ := fin i2 c2 ((Gro.fold (Gro.refl i1.y) fun p _ e2 h => h.clear.prove : Gro _ ((rivalsL T q).foldl (clr1 T) ((usersL T false q).foldl (Fa.minusS1 T) e))).up _ _ tag2 hh1)
      refine ⟨G2, i3, c3, ht.addN (b0 := false) (by rw [n2]; exact n1) (a2.trans a1) fun f p h1 h2 => ?_⟩
      rw [f2, f1, ht.f f p h1 h2, show tn false = 2 from rfl, addK_iff]
      constructor
      · rintro (h5 | ⟨h5, -⟩)
        · exact .inl h5
        · exact .inr ⟨h5, rfl⟩
      · rintro (h5 | ⟨h5, -⟩)
        · exact .inl h5
        · exact .inr ⟨h5, by rw [h5] at h2; exact h2⟩
    · rw [if_neg hfm]
      obtain ⟨i3, c3⟩ := fin i1 c1 hh1
      refine ⟨G1, i3, c3, ht.addN (b0 := false) n1 a1 fun f p h1 h2 => ?_⟩
      rw [f1, ht.f f p h1 h2, show tn false = 2 from rfl, addK_iff]
      constructor
      · exact .inl
      · rintro (h5 | ⟨h5, -⟩)
        · exact h5
        · rw [h5] at h1; exact absurd h1 hfm
  · obtain ⟨G1, i1, c1, a1, n1, f1⟩ := plusD_fold hp hs_ (q := (q : Int)) (usersL T true q) users_nd (fun r hr => ⟨hr, noA true rfl r hr⟩) h hc hh
    exact ⟨G1, i1, c1.k34 (by decide) (by decide), ht.addA (b0 := true) a1 n1 f1⟩
  · obtain ⟨G1, i1, c1, n1, a1, f1⟩ := minusD_fold hp hs_ (q := (q : Int)) (usersL T true q) (fun _ h => h) h hc hh
    exact ⟨G1, i1, c1.k34 (by decide) (by decide), ht.addN (b0 := true) n1 a1 fun f p h1 h2 => by rw [f1, ht.f f p h1 h2, addK_ne (by decide)]⟩
end
end Go.Proofs.YthifoamnmhlghaaGreat.Fa
