/- A step whole; the end: the marks are those that rounds end with. PLAIN. -/
import Derived.Test.YtcobmbclhhimjaaGreatHa
namespace Go.Proofs.YtcobmbclhhimjaaGreat.Fa

def addK (K : Int → Int → Bool) (q t : Int) : Int → Int → Bool := fun z u => K z u || decide (z = q ∧ u = t)
section
variable {T : Th} {F : List Int} {n k : Nat} {m : Prop} {G G' : Gho} {e e' : Es} {K : Int → Int → Bool}
theorem addK_iff {q t z u : Int} : addK K q t z u = true ↔ K z u = true ∨ (z = q ∧ u = t) := by unfold addK; simp
theorem addK_ne {q t z u : Int} (h : u ≠ t) : addK K q t z u = K z u := by unfold addK; simp [h]
theorem Cmp.k34 (h : Cmp T F n K G e) {q t : Int} (h1 : t ≠ 1) (h2 : t ≠ 2) : Cmp T F n (addK K q t) G e := by
  have e1 : ∀ z, addK K q t z 1 = K z 1 := fun z => addK_ne (Ne.symm h1)
  have e2 : ∀ z, addK K q t z 2 = K z 2 := fun z => addK_ne (Ne.symm h2)
  exact ⟨h.c1, h.cf, h.c2, h.p3, h.cb, h.gr, h.gw, h.gc, fun z hz => h.c3 z (by rw [e1] at hz; exact hz), fun z hz hK => h.c4 z hz (by rw [e2] at hK; exact hK), fun z hz hK => h.co z hz (by rw [e2] at hK; exact hK), fun z hz hK f hf hKf => h.cr z hz (by rw [e2] at hK; exact hK) f hf (by rw [e1] at hKf; exact hKf), fun z hz => h.q2 z (by rw [e2] at hz; exact hz), fun z hz => h.q1 z (by rw [e1] at hz; exact hz)⟩
theorem Cmp.k1 (h : Cmp T F n K G e) {q : Int} (h1 : has e q 1 = true) (h3 : has e q 3 = true) (h4 : ∀ z : Nat, z < n → K z 2 = true → q ∈ row T.foes z → has e z 4 = true) : Cmp T F n (addK K q 1) G e := by
  have e2 : ∀ z, addK K q 1 z 2 = K z 2 := fun z => addK_ne (by decide)
  refine ⟨h.c1, h.cf, h.c2, h.p3, h.cb, h.gr, h.gw, h.gc, fun z hz => ?_, fun z hz hK => h.c4 z hz (by rw [e2] at hK; exact hK), fun z hz hK => h.co z hz (by rw [e2] at hK; exact hK), fun z hz hK f hf hKf => ?_, fun z hz => h.q2 z (by rw [e2] at hz; exact hz), fun z hz => ?_⟩
  · rcases addK_iff.1 hz with h5 | ⟨rfl, -⟩
    · exact h.c3 z h5
    · exact h3
  · rw [e2] at hK
    rcases addK_iff.1 hKf with h5 | ⟨rfl, -⟩
    · exact h.cr z hz hK f hf h5
    · exact h4 z hz hK hf
  · rcases addK_iff.1 hz with h5 | ⟨rfl, -⟩
    · exact h.q1 z h5
    · exact h1
theorem Cmp.k2 (h : Cmp T F n K G e) {q : Nat} (h2 : has e q 2 = true) (h4 : (∀ r ∈ rulesL T kT q, e.rf true r = true) → has e q 4 = true) (ho : ∀ s : Nat, s < T.rules.length → (q : Int) ∈ rivalsL T (headOf T s) → used e s = true → e.cd s q = 0 → has e q 4 = true) (hr : ∀ f ∈ row T.foes q, K f 1 = true → has e q 4 = true) : Cmp T F n (addK K q 2) G e := by
  have e1 : ∀ z, addK K q 2 z 1 = K z 1 := fun z => addK_ne (by decide)
  refine ⟨h.c1, h.cf, h.c2, h.p3, h.cb, h.gr, h.gw, h.gc, fun z hz => h.c3 z (by rw [e1] at hz; exact hz), fun z hz hK => ?_, fun z hz hK => ?_, fun z hz hK f hf hKf => ?_, fun z hz => ?_, fun z hz => h.q1 z (by rw [e1] at hz; exact hz)⟩
  · rcases addK_iff.1 hK with h5 | ⟨h5, -⟩
    · exact h.c4 z hz h5
    · rw [h5]; exact h4
  · rcases addK_iff.1 hK with h5 | ⟨h5, -⟩
    · exact h.co z hz h5
    · rw [h5]; exact ho
  · rw [e1] at hKf
    rcases addK_iff.1 hK with h5 | ⟨h5, -⟩
    · exact h.cr z hz h5 f hf hKf
    · rw [h5] at hf ⊢; exact hr f hf hKf
  · rcases addK_iff.1 hz with h5 | ⟨h5, -⟩
    · exact h.q2 z h5
    · rw [h5]; exact h2
/-- What is accounted is just what is taken. -/
structure Tie (T : Th) (F : List Int) (K : Int → Int → Bool) (G : Gho) : Prop where
  a : ∀ b (r : Nat) x, r < T.rules.length → kindB T (kW b) r = true → x ∈ bodyM T r → (G.a b r x = true ↔ K x (tp b) = true)
  n : ∀ b (r : Nat) x, r < T.rules.length → kindB T (kW b) r = true → x ∈ bodyM T r → (G.n b r x = true ↔ K x (tn b) = true)
  f : ∀ f p, firmB T F f = true → p ∈ rivalsL T f → (G.f f p = true ↔ K f 2 = true)
theorem Tie.addA (h : Tie T F K G) {b0 : Bool} {q : Int} (ha : ∀ b r x, G'.a b r x = true ↔ G.a b r x = true ∨ (b = b0 ∧ r ∈ usersL T b0 q ∧ x = q)) (hn : G'.n = G.n) (hf : G'.f = G.f) : Tie T F (addK K q (tp b0)) G' := by
  refine ⟨fun b r x hr hk hx => ?_, fun b r x hr hk hx => ?_, fun f p h1 h2 => ?_⟩
  · rw [ha, h.a b r x hr hk hx, addK_iff]
    constructor
    · rintro (h1 | ⟨rfl, -, h2⟩)
      · exact .inl h1
      · exact .inr ⟨h2, rfl⟩
    · rintro (h1 | ⟨rfl, h2⟩)
      · exact .inl h1
      · have eb : b = b0 := by revert h2; cases b <;> cases b0 <;> decide
        subst eb
        exact .inr ⟨rfl, user_mem hr hk hx, rfl⟩
  · rw [hn, h.n b r x hr hk hx, addK_ne (by cases b <;> cases b0 <;> decide)]
  · rw [hf, h.f f p h1 h2, addK_ne (by cases b0 <;> decide)]
theorem Tie.addN (h : Tie T F K G) {b0 : Bool} {q : Int} (hn : ∀ b r x, G'.n b r x = true ↔ G.n b r x = true ∨ (b = b0 ∧ r ∈ usersL T b0 q ∧ x = q)) (ha : G'.a = G.a) (hf : ∀ f p, firmB T F f = true → p ∈ rivalsL T f → (G'.f f p = true ↔ addK K q (tn b0) f 2 = true)) : Tie T F (addK K q (tn b0)) G' := by
  refine ⟨fun b r x hr hk hx => ?_, fun b r x hr hk hx => ?_, hf⟩
  · rw [ha, h.a b r x hr hk hx, addK_ne (by cases b <;> cases b0 <;> decide)]
  · rw [hn, h.n b r x hr hk hx, addK_iff]
    constructor
    · rintro (h1 | ⟨rfl, -, h2⟩)
      · exact .inl h1
      · exact .inr ⟨h2, rfl⟩
    · rintro (h1 | ⟨rfl, h2⟩)
      · exact .inl h1
      · have eb : b = b0 := by revert h2; cases b <;> cases b0 <;> decide
        subst eb
        exact .inr ⟨rfl, user_mem hr hk hx, rfl⟩
def Kof (e : Es) : Int → Int → Bool := fun z u => decide ((z, u) ∈ e.td.take e.tk)
/-- What a run keeps, behind each step. -/
structure Alls (T : Th) (F : List Int) (n : Nat) (m : List Int) (e : Es) : Prop where
  iv : ∃ G, Iv T F n True G e ∧ Cmp T F n (Kof e) G e ∧ Tie T F (Kof e) G
  sm : ∀ q, e.mq q < 16
  td : ∀ z t, isTag t → has e z t = true → (z, t) ∈ e.td
theorem does_all (hp : Pf T F n) (hs_ : m) (h : Iv T F n m G e) (hc : Cmp T F n K G e) (ht : Tie T F K G) {q : Nat} {t : Int} (hq : q < n) (htag : isTag t) (hh : has e q t = true) (hK : K q t = false) : ∃ G', Iv T F n m G' (doesE T F e q t) ∧ Cmp T F n (addK K q t) G' (doesE T F e q t) ∧ Tie T F (addK K q t) G' := by
  have noA : ∀ b, t = tp b → ∀ r ∈ usersL T b q, G.a b r q = false := fun b hb r hr => by
    obtain ⟨a, rfl, ha, hk, hx⟩ := user_in hr
    cases hg : G.a b a q with
    | false => rfl
    | true => have := (ht.a b a q ha hk hx).1 hg; rw [← hb, hK] at this; cases this
  rcases htag with rfl | rfl | rfl | rfl
  · show ∃ G', Iv T F n m G' (plusSE T e q) ∧ Cmp T F n (addK K q 1) G' (plusSE T e q) ∧ Tie T F (addK K q 1) G'
    have h1m := h.s.mm q 1 (by omega) (by omega) tag1 hh
    have h3m : condM T F (Mq n e) 3 q = true := cond3.trans (plusD_iff.2 (.inl h1m))
    have t0 := tem_tell h.y (q := (q : Int)) tag3
    obtain ⟨G1, i1, c1, t1, a1, n1, f1⟩ := plusS_fold hp hs_ (q := (q : Int)) (usersL T false q) users_nd (fun _ h => h) (h.tell tag3 h3m) (hc.tem1 t0 tell_ms) (t0.up _ _ tag1 hh) (noA false rfl)
    obtain ⟨i2, c2, t2, l2⟩ := lose_fold hp hs_ (q := (q : Int)) (by omega) (by omega) (row T.foes q) (fun _ h => h) i1 c1 (t1.up _ _ tag1 (t0.up _ _ tag1 hh))
    refine ⟨G1, i2, c2.k1 (t2.up _ _ tag1 (t1.up _ _ tag1 (t0.up _ _ tag1 hh))) (t2.up _ _ tag3 (t1.up _ _ tag3 (tell_has h.y tag3))) fun z hz hKz hf => ?_, ht.addA (b0 := false) a1 n1 f1⟩
    exact l2 z (foe_sym hp (by omega) (by omega) hf) (c1.q2 z hKz)
  · show ∃ G', Iv T F n m G' (minusSE T F e q) ∧ Cmp T F n (addK K q 2) G' (minusSE T F e q) ∧ Tie T F (addK K q 2) G'
    unfold minusSE
    dsimp only
    obtain ⟨G1, i1, c1, n1, a1, f1⟩ := minusS_fold hp hs_ (q := (q : Int)) (usersL T false q) (fun _ h => h) h hc hh
    have hh1 : has ((usersL T false q).foldl (Fa.minusS1 T) e) q 2 = true := (Gro.fold (Gro.refl h.y) fun r _ e2 h => h.minusS1 : Gro e ((usersL T false q).foldl (Fa.minusS1 T) e)).up _ _ tag2 hh
    have fin : ∀ {G2 : Gho} {e2 : Es}, Iv T F n m G2 e2 → Cmp T F n K G2 e2 → has e2 q 2 = true → Iv T F n m G2 (disproveE T e2 q) ∧ Cmp T F n (addK K q 2) G2 (disproveE T e2 q) := fun {G2 e2} i2 c2 h2 => by
      obtain ⟨i3, t3, m3, d3⟩ := i2.disprove hp hs_ hq
      refine ⟨i3, (c2.tem1 t3 m3).k2 (t3.up _ _ tag2 h2) (fun hall => d3 ?_ h2) (fun s hs hrv hu hcd => d3 ?_ h2) fun f hf hKf => d3 ?_ h2⟩
      · rw [t3.rf] at hall
        have : forsB T e2 q = true := by
          unfold forsB
          rw [Bool.not_eq_true', List.any_eq_false]
          intro r hr
          unfold dropped
          rw [hall r hr]
          decide
        rw [this]
        rfl
      · have : overB T e2 q = true := by
          unfold overB
          obtain ⟨hf2, -⟩ := mem_rival.1 hrv
          obtain ⟨x, hx, ehx, x0, x1⟩ := head_in hp hs
          refine List.any_eq_true.2 ⟨headOf T s, foe_sym hp (by rw [ehx]; exact x0) (by rw [ehx]; exact x1) hf2, List.any_eq_true.2 ⟨s, kind_mem hs (kA_kind hs), ?_⟩⟩
          rw [used_ms m3] at hu
          rw [t3.cd] at hcd
          rw [hu, decide_eq_true hcd]
          rfl
        rw [this]
        simp
      · obtain ⟨f0, f1⟩ := hp.foe q hq f hf
        have h1 : has e2 f 1 = true := c2.q1 f hKf
        have : refuB T e2 q = true := List.any_eq_true.2 ⟨f, hf, h1⟩
        rw [this]
        simp
    by_cases hfm : firmB T F q = true
    · rw [if_pos hfm]
      obtain ⟨G2, i2, c2, f2, a2, n2⟩ := clr_fold hp hs_ hq hfm (rivalsL T q) ((pw_nodup (foe_pw hp hq).1).filter _) (fun p hpr => ⟨hpr, by
        rw [f1]
        cases hg : G.f q p with
        | false => rfl
        | true => have := (ht.f q p hfm hpr).1 hg; rw [hK] at this; cases this⟩) i1 c1 hh1
      obtain ⟨i3, c3⟩ := fin i2 c2 ((Gro.fold (Gro.refl i1.y) fun p _ e2 h => h.clear.prove : Gro _ ((rivalsL T q).foldl (clr1 T) ((usersL T false q).foldl (Fa.minusS1 T) e))).up _ _ tag2 hh1)
      refine ⟨G2, i3, c3, ht.addN (b0 := false) (by rw [n2]; exact n1) (a2.trans a1) fun f p h1 h2 => ?_⟩
      rw [f2, f1, ht.f f p h1 h2, show tn false = 2 from rfl, addK_iff]
      constructor
      · rintro (h5 | ⟨h5, -⟩)
        · exact .inl h5
        · exact .inr ⟨h5, rfl⟩
      · rintro (h5 | ⟨h5, -⟩)
        · exact .inl h5
        · exact .inr ⟨h5, by rw [h5] at h2; exact h2⟩
    · rw [if_neg hfm]
      obtain ⟨i3, c3⟩ := fin i1 c1 hh1
      refine ⟨G1, i3, c3, ht.addN (b0 := false) n1 a1 fun f p h1 h2 => ?_⟩
      rw [f1, ht.f f p h1 h2, show tn false = 2 from rfl, addK_iff]
      constructor
      · exact .inl
      · rintro (h5 | ⟨h5, -⟩)
        · exact h5
        · rw [h5] at h1; exact absurd h1 hfm
  · obtain ⟨G1, i1, c1, a1, n1, f1⟩ := plusD_fold hp hs_ (q := (q : Int)) (usersL T true q) users_nd (fun r hr => ⟨hr, noA true rfl r hr⟩) h hc hh
    exact ⟨G1, i1, c1.k34 (by decide) (by decide), ht.addA (b0 := true) a1 n1 f1⟩
  · obtain ⟨G1, i1, c1, n1, a1, f1⟩ := minusD_fold hp hs_ (q := (q : Int)) (usersL T true q) (fun _ h => h) h hc hh
    exact ⟨G1, i1, c1.k34 (by decide) (by decide), ht.addN (b0 := true) n1 a1 fun f p h1 h2 => by rw [f1, ht.f f p h1 h2, addK_ne (by decide)]⟩
end
end Go.Proofs.YtcobmbclhhimjaaGreat.Fa
/- A step, the beginning, the end. PLAIN. -/
namespace Go.Proofs.YtcobmbclhhimjaaGreat.Fa

section
variable {T : Th} {F : List Int} {n k : Nat} {m : Prop} {m0 : List Int} {G G' : Gho} {e e' : Es} {K : Int → Int → Bool}
theorem take_one {α : Type} {l l2 : List α} {j : Nat} {x : α} (h : l[j]? = some x) : (l ++ l2).take (j + 1) = l.take j ++ [x] := by
  have hj := (List.getElem?_eq_some_iff.1 h).1
  rw [List.take_append_of_le_length (by omega), List.take_add_one, h]
  rfl
theorem step_all (hp : Pf T F n) (_ : Sol T F m0 k) (h : Alls T F n m0 e) (htok : Tok n e) (hlt : e.tk < e.td.length) : Alls T F n m0 (stepE T F e) := by
  obtain ⟨x, hx⟩ := get_at hlt
  obtain ⟨x0, x1, xt, xh⟩ := htok.inn x (List.mem_of_getElem? hx)
  obtain ⟨G, i0, c0, t0⟩ := h.iv
  obtain ⟨q, hq⟩ := Int.eq_ofNat_of_zero_le x0
  have hK : Kof e q x.2 = false := by
    unfold Kof
    rw [decide_eq_false_iff_not, ← hq]
    intro hm
    have hn : (e.td.take (e.tk + 1)).Nodup := (List.take_sublist _ _).nodup htok.nd
    have h2 := take_one (l2 := []) hx
    rw [List.append_nil] at h2
    rw [h2, List.nodup_append] at hn
    exact hn.2.2 _ hm _ (List.mem_singleton.2 rfl) rfl
  have i1 : Iv T F n True G (takeE e) := ⟨i0.x.same rfl rfl rfl rfl rfl, ⟨i0.s.a, i0.s.nn, i0.s.c, i0.s.f, i0.s.r, i0.s.w, i0.s.cb⟩, i0.y, ord_same i0.o rfl rfl, i0.nf⟩
  have c1 : Cmp T F n (Kof e) G (takeE e) := ⟨c0.c1, c0.cf, c0.c2, c0.p3, c0.cb, c0.gr, c0.gw, c0.gc, c0.c3, c0.c4, c0.co, c0.cr, c0.q2, c0.q1⟩
  obtain ⟨G1, i2, c2, t2⟩ := does_all hp trivial i1 c1 t0 (show q < n by omega) xt (show has e q x.2 = true by rw [← hq]; exact xh) hK
  have hE : stepE T F e = doesE T F (takeE e) q x.2 := by
    unfold stepE
    rw [List.getD_eq_getElem?_getD, hx, ← hq]
    rfl
  rw [hE]
  have hg : Gro (takeE e) (doesE T F (takeE e) q x.2) := (Gro.refl i1.y).does
  obtain ⟨l, hl⟩ := hg.td
  have hKof : Kof (doesE T F (takeE e) q x.2) = addK (Kof e) q x.2 := by
    funext z u
    unfold Kof addK
    rw [hg.tk, hl, show (takeE e).tk = e.tk + 1 from rfl, show (takeE e).td = e.td from rfl, take_one hx]
    rw [Bool.eq_iff_iff]
    simp only [decide_eq_true_eq, Bool.or_eq_true, List.mem_append, List.mem_singleton]
    rw [show x = ((q : Int), x.2) from Prod.ext hq rfl, Prod.mk.injEq]
  exact ⟨⟨G1, i2, by rw [hKof]; exact c2, by rw [hKof]; exact t2⟩, hg.sm h.sm, hg.tdd h.td⟩
theorem grr_start : Grr T noG (startE T F) := by
  intro s _ p _ ho
  rcases ho with ho | ho
  · have ho : false = true := ho
    cases ho
  · have ho : false = true := ho
    cases ho
/-- Behind the bare rules. -/
theorem bare_all (hp : Pf T F n) : ∀ j : Nat, j ≤ T.rules.length → ∃ G, Iv T F n False G (bareE T j (startE T F)) ∧ Agh noG G ∧ Alk (startE T F) (bareE T j (startE T F)) ∧ Grr T G (bareE T j (startE T F)) ∧ ∀ t : Nat, t < j → teamB T t = true → bodyM T t = [] → ∀ s ∈ row T.beats t, (bareE T j (startE T F)).cb s (headOf T t) = true := by
  intro j
  induction j with
  | zero => intro _; exact ⟨noG, Iv.start, Agh.refl, Alk.refl, grr_start, fun t ht => absurd ht (by omega)⟩
  | succ j ih =>
    intro hj
    obtain ⟨G, i, g, a, r, c⟩ := ih (by omega)
    have hE : bareE T (j + 1) (startE T F) = bare1 T (bareE T j (startE T F)) j := by unfold bareE; rw [List.range_succ, List.foldl_append]; rfl
    rw [hE]
    unfold bare1
    by_cases hc : (teamB T j && (bodyM T j).isEmpty) = true
    · rw [if_pos hc]
      rw [Bool.and_eq_true, List.isEmpty_iff] at hc
      obtain ⟨G2, i2, g2, a2, cb2, m2, r2⟩ := i.defend hp (show j < T.rules.length by omega) hc.1 fun x hx => by rw [hc.2] at hx; cases hx
      refine ⟨G2, i2, g.trans g2, a.trans a2, r2 r, fun t ht htm hb s hs => ?_⟩
      by_cases e1 : t = j
      · subst e1; exact cb2 s hs
      · exact m2 _ _ (c t (by omega) htm hb s hs)
    · rw [if_neg hc]
      refine ⟨G, i, g, a, r, fun t ht htm hb s hs => ?_⟩
      by_cases e1 : t = j
      · subst e1; exact absurd (by rw [htm, hb]; rfl) hc
      · exact c t (by omega) htm hb s hs
theorem beg1_all (h : Iv T F n m G e) : ∀ j : Nat, j ≤ n → Iv T F n m G ((List.range j).foldl (beg1 T F) e) ∧ Tem e ((List.range j).foldl (beg1 T F) e) ∧ ((List.range j).foldl (beg1 T F) e).ms = e.ms ∧ ∀ q : Nat, q < j → (firmB T F q = false → has ((List.range j).foldl (beg1 T F) e) q 2 = true) ∧ (firmB T F q = true → e.op false q = 0 → has ((List.range j).foldl (beg1 T F) e) q 1 = true) := by
  intro j
  induction j with
  | zero => intro _; exact ⟨h, Tem.refl, rfl, fun q hq => absurd hq (by omega)⟩
  | succ j ih =>
    intro hj
    obtain ⟨i, t, ms, d⟩ := ih (by omega)
    rw [List.range_succ, List.foldl_append]
    show Iv T F n m G (beg1 T F _ j) ∧ Tem e (beg1 T F _ j) ∧ (beg1 T F _ j).ms = e.ms ∧ _
    have old : ∀ {e2 : Es}, (∀ z t, isTag t → has ((List.range j).foldl (beg1 T F) e) z t = true → has e2 z t = true) → ∀ q : Nat, q < j → (firmB T F q = false → has e2 q 2 = true) ∧ (firmB T F q = true → e.op false q = 0 → has e2 q 1 = true) := fun up q hq => ⟨fun h1 => up _ _ tag2 ((d q hq).1 h1), fun h1 h2 => up _ _ tag1 ((d q hq).2 h1 h2)⟩
    generalize (List.range j).foldl (beg1 T F) e = e1 at *
    show Iv T F n m G (beg1 T F e1 j) ∧ Tem e (beg1 T F e1 j) ∧ (beg1 T F e1 j).ms = e.ms ∧ ∀ q : Nat, q < j + 1 → (firmB T F q = false → has (beg1 T F e1 j) q 2 = true) ∧ (firmB T F q = true → e.op false q = 0 → has (beg1 T F e1 j) q 1 = true)
    unfold beg1
    by_cases hfm : firmB T F j = true
    · rw [hfm]
      simp only [Bool.not_true, Bool.false_eq_true, if_false]
      by_cases h0 : e1.op false j = 0
      · rw [if_pos h0]
        have t2 := tem_tell i.y (q := (j : Int)) tag1
        have hm : condM T F (Mq n e1) 1 j = true := by
          refine cond1.trans (plusS_iff.2 ?_)
          have h3 := i.x.op false j (by omega)
          rw [h0] at h3
          split at h3
          · rename_i h4
            rw [Bool.or_eq_true] at h4
            unfold firmB at hfm
            rw [Bool.or_eq_true] at hfm
            rcases h4 with h4 | h4
            · unfold openZ at h4
              rw [Bool.or_eq_true] at h4
              rcases h4 with h4 | h4
              · unfold bareB at h4
                obtain ⟨r, hr, hb⟩ := List.any_eq_true.1 h4
                refine .inr ⟨r, hr, ?_⟩
                unfold wholeB
                rw [List.isEmpty_iff.1 hb]
                rfl
              · rw [Bool.and_eq_true] at h4
                exact .inl (of_decide_eq_true h4.2)
            · rcases hfm with hfm | hfm
              · exact .inl (of_decide_eq_true hfm)
              · have h4 : (rulesL T kS (j : Int)).isEmpty = true := h4
                rw [h4] at hfm; cases hfm
          · omega
        refine ⟨i.tell tag1 hm, t.trans t2, tell_ms.trans ms, fun q hq => ?_⟩
        by_cases e2 : q = j
        · subst e2; exact ⟨fun h5 => (by rw [hfm] at h5; cases h5), fun _ _ => tell_has i.y tag1⟩
        · exact old t2.up q (by omega)
      · rw [if_neg h0]
        refine ⟨i, t, ms, fun q hq => ?_⟩
        by_cases e2 : q = j
        · subst e2; exact ⟨fun h5 => (by rw [hfm] at h5; cases h5), fun _ h5 => absurd (by rw [t.op]; exact h5) h0⟩
        · exact old (fun _ _ _ h => h) q (by omega)
    · have hfm : firmB T F j = false := by cases hh : firmB T F j; rfl; exact absurd hh hfm
      rw [hfm]
      simp only [Bool.not_false, if_true]
      have t2 := tem_tell i.y (q := (j : Int)) tag2
      have hm : condM T F (Mq n e1) 2 j = true := by
        unfold firmB at hfm
        simp only [Bool.or_eq_false_iff, decide_eq_false_iff_not, Bool.not_eq_false', List.isEmpty_iff] at hfm
        exact cond2.trans (minusS_iff.2 ⟨hfm.1, fun r hr => by rw [hfm.2] at hr; cases hr⟩)
      refine ⟨i.tell tag2 hm, t.trans t2, tell_ms.trans ms, fun q hq => ?_⟩
      by_cases e2 : q = j
      · subst e2; exact ⟨fun _ => tell_has i.y tag2, fun h5 => by rw [hfm] at h5; cases h5⟩
      · exact old t2.up q (by omega)
theorem beg2_all (hp : Pf T F n) (hs_ : m) (h : Iv T F n m G e) : ∀ j : Nat, j ≤ n → Iv T F n m G ((List.range j).foldl (beg2 T) e) ∧ Tem e ((List.range j).foldl (beg2 T) e) ∧ ((List.range j).foldl (beg2 T) e).ms = e.ms ∧ ∀ q : Nat, q < j → (rulesL T kT q).any (used e) = true → e.ob q = 0 → has ((List.range j).foldl (beg2 T) e) q 3 = true := by
  intro j
  induction j with
  | zero => intro _; exact ⟨h, Tem.refl, rfl, fun q hq => absurd hq (by omega)⟩
  | succ j ih =>
    intro hj
    obtain ⟨i, t, ms, d⟩ := ih (by omega)
    rw [List.range_succ, List.foldl_append]
    generalize (List.range j).foldl (beg2 T) e = e1 at *
    show Iv T F n m G (beg2 T e1 j) ∧ Tem e (beg2 T e1 j) ∧ (beg2 T e1 j).ms = e.ms ∧ ∀ q : Nat, q < j + 1 → (rulesL T kT q).any (used e) = true → e.ob q = 0 → has (beg2 T e1 j) q 3 = true
    unfold beg2
    have first : Iv T F n m G (if has e1 j 1 = true then tell e1 j 3 else e1) ∧ Tem e1 (if has e1 j 1 = true then tell e1 j 3 else e1) ∧ (if has e1 j 1 = true then tell e1 j 3 else e1).ms = e1.ms := by
      by_cases h1 : has e1 j 1 = true
      · rw [if_pos h1]
        exact ⟨i.tell tag3 (cond3.trans (plusD_iff.2 (.inl (i.s.mm j 1 (by omega) (by omega) tag1 h1)))), tem_tell i.y tag3, tell_ms⟩
      · rw [if_neg h1]
        exact ⟨i, Tem.refl, rfl⟩
    generalize (if has e1 j 1 = true then tell e1 j 3 else e1) = e2 at *
    obtain ⟨i2, t2, ms2⟩ := first
    obtain ⟨i3, t3, o3, c3, p3, v3⟩ := i2.prove hp hs_ (show j < n by omega)
    have t3' : Tem e2 (proveE T e2 j) := ⟨t3.rf, t3.cb, c3, o3, p3, t3.tk, by rw [t3.ms], t3.up, t3.td⟩
    obtain ⟨i4, t4, ms4, -⟩ := i3.disprove hp hs_ (show j < n by omega)
    have tt := t2.trans (t3'.trans t4)
    refine ⟨i4, t.trans tt, ms4.trans (t3.ms.trans (ms2.trans ms)), fun q hq hu h0 => ?_⟩
    by_cases e5 : q = j
    · subst e5
      refine t4.up _ _ tag3 (v3 ?_ ?_)
      · rw [used_ms (ms2.trans ms)]; exact hu
      · rw [t2.ob, t.ob]; exact h0
    · exact tt.up _ _ tag3 (d q (by omega) hu h0)
theorem start_all (hp : Pf T F n) (_ : Sol T F m0 k) : Alls T F n m0 (layE T F n) := by
  obtain ⟨G, i0, g0, a0, r0, b0⟩ := bare_all hp T.rules.length (Nat.le_refl _)
  have hby0 : ∀ q, isByte ((startE T F).mq q) := fun _ => (show isByte 0 by unfold isByte; omega)
  have hg : Gro (startE T F) (beginE T F n (bareE T T.rules.length (startE T F))) := (Gro.refl hby0).bare.begin
  have hEq : beginE T F n (bareE T T.rules.length (startE T F)) = (List.range n).foldl (beg2 T) ((List.range n).foldl (beg1 T F) (bareE T T.rules.length (startE T F))) := rfl
  rw [hEq] at hg
  generalize hE0 : bareE T T.rules.length (startE T F) = e0 at *
  obtain ⟨i1f, t1, m1, d1⟩ := beg1_all i0 n (Nat.le_refl _)
  generalize hE1 : (List.range n).foldl (beg1 T F) e0 = e1 at *
  have i1 : Iv T F n True G e1 := ⟨i1f.x, ⟨i1f.s.a, i1f.s.nn, i1f.s.c, i1f.s.f, i1f.s.r, i1f.s.w, i1f.s.cb⟩, i1f.y, i1f.o, fun _ q hq hf => (d1 q hq).1 hf⟩
  obtain ⟨i2, t2, m2, d2⟩ := beg2_all hp trivial i1 n (Nat.le_refl _)
  have hL : layE T F n = { (List.range n).foldl (beg2 T) e1 with up := 0 } := by unfold layE; rw [hE0, hEq]
  generalize (List.range n).foldl (beg2 T) e1 = e2 at *
  have t12 := t1.trans t2
  have hrf : ∀ b s, e2.rf b s = false := fun b s => by rw [t12.rf, a0.rf]; rfl
  have hga : ∀ b r x, G.a b r x = false := fun b r x => by rw [g0.a]; rfl
  have hbody : ∀ b (r : Nat), r < T.rules.length → kindB T (kW b) r = true → e2.ms b r = 0 → bodyM T r = [] := fun b r hr hk h0 => by
    rw [i2.x.ms b r hr hk, lf_zero] at h0
    cases hb : bodyM T r with
    | nil => rfl
    | cons x l => have := h0 x (by rw [hb]; exact List.mem_cons_self); rw [hga] at this; cases this
  have one : ∀ q : Nat, q < n → openZ T F false q = true → firmB T F q = true → has e2 q 1 = true := fun q hq ho hfm => by
    refine t2.up _ _ tag1 ((d1 q hq).2 hfm ?_)
    rw [i0.x.op false q hq, ho]
    rfl
  have htk : e2.tk = 0 := by rw [t12.tk, a0.tk]; rfl
  have hK : ∀ z u, Kof e2 z u = false := fun z u => by unfold Kof; rw [htk]; rfl
  have cmp : Cmp T F n (Kof e2) G e2 := by
    refine ⟨fun r hr hk h0 => ?_, fun q hq => ?_, fun q hq hF hall => ?_, fun q hq hu h0 => ?_, fun t ht1 ht hu s hs => ?_, fun s hs p hp ho => ?_, fun t _ _ h => (by rw [hrf] at h; cases h), fun b r _ _ h => (by rw [hrf] at h; cases h), fun q h => (by rw [hK] at h; cases h), fun q _ h => (by rw [hK] at h; cases h), fun q _ h => (by rw [hK] at h; cases h), fun q _ h => (by rw [hK] at h; cases h), fun q h => (by rw [hK] at h; cases h), fun q h => (by rw [hK] at h; cases h)⟩
    · obtain ⟨hd, ehd, hdn⟩ := head_nat hp hr
      have hb := hbody false r hr hk h0
      have hrm := kind_mem hr hk
      rw [ehd] at hrm ⊢
      refine one hd hdn ?_ ?_
      · unfold openZ
        have : bareB T (kL false) hd = true := List.any_eq_true.2 ⟨r, hrm, by rw [hb]; rfl⟩
        rw [this]; rfl
      · unfold firmB
        cases hl : rulesL T kS (hd : Int) with
        | nil => rw [hl] at hrm; cases hrm
        | cons _ _ => simp
    · obtain ⟨q0, q1⟩ := hp.fact q hq
      obtain ⟨z, rfl⟩ := Int.eq_ofNat_of_zero_le q0
      refine one z (by omega) ?_ ?_
      · unfold openZ; simp [hq]
      · unfold firmB; simp [hq]
    · refine t2.up _ _ tag2 ((d1 q hq).1 ?_)
      unfold firmB
      cases hl : rulesL T kS (q : Int) with
      | nil => simp [hF]
      | cons r l => have := hall r (by rw [hl]; exact List.mem_cons_self); rw [hrf] at this; cases this
    · exact d2 q hq (by rw [used_ms m2] at hu; exact hu) (by rw [t2.ob] at h0; exact h0)
    · rw [t12.cb]
      exact b0 t ht1 ht (hbody true t ht1 (kA_kind ht1) (of_decide_eq_true hu)) s hs
    · exact r0 s hs p hp (by rw [t12.rf, t12.cb] at ho; exact ho)
  have tie : Tie T F (Kof e2) G := ⟨fun b r x _ _ _ => (by rw [hga, hK]), fun b r x _ _ _ => (by rw [hK, g0.n]; exact Iff.rfl), fun f p _ _ => (by rw [hK, g0.f]; exact Iff.rfl)⟩
  rw [hL]
  refine ⟨⟨G, ⟨i2.x.same rfl rfl rfl rfl rfl, ⟨i2.s.a, i2.s.nn, i2.s.c, i2.s.f, i2.s.r, i2.s.w, i2.s.cb⟩, i2.y, ord_same i2.o rfl rfl, i2.nf⟩, ⟨cmp.c1, cmp.cf, cmp.c2, cmp.p3, cmp.cb, cmp.gr, cmp.gw, cmp.gc, cmp.c3, cmp.c4, cmp.co, cmp.cr, cmp.q2, cmp.q1⟩, tie⟩, fun q => hg.sm (fun _ => (by decide : (0 : Int) < 16)) q, hg.tdd fun z t ht h => ?_⟩
  have h : hb 0 t = true := h
  rw [hb_zero ht] at h
  cases h
end
end Go.Proofs.YtcobmbclhhimjaaGreat.Fa
/- The end: the marks are those that rounds end with. PLAIN. -/
namespace Go.Proofs.YtcobmbclhhimjaaGreat.Fa

section
variable {T : Th} {F : List Int} {n k : Nat} {m m0 : List Int} {N : Prop} {G G' : Gho} {e e' : Es} {K : Int → Int → Bool}
/-- What is told is closed under the conditions, once all is taken. -/
theorem closed_all (hp : Pf T F n) (h : Iv T F n N G e) (hc : Cmp T F n K G e) (ht : Tie T F K G) (hK : ∀ z t, isTag t → has e z t = true → K z t = true) (hm : ∀ q t : Int, 0 ≤ q → q < (n : Int) → isTag t → hs m0 q t = true → has e q t = true) {q : Nat} {t : Int} (hq : q < n) (htag : isTag t) (hcond : condM T F m0 t q = true) : has e q t = true := by
  have whole : ∀ b (r : Nat), r < T.rules.length → kindB T (kW b) r = true → wholeB T m0 r (tp b) = true → ∀ x ∈ bodyM T r, G.a b r x = true := fun b r hr hk hw x hx => by
    obtain ⟨x0, x1⟩ := body_in hp hr hx
    have htp : isTag (tp b) := by cases b; exact tag1; exact tag3
    exact (ht.a b r x hr hk hx).2 (hK x _ htp (hm x _ x0 x1 htp (whl_iff.1 hw x hx)))
  have part : ∀ b (r : Nat), r < T.rules.length → kindB T (kW b) r = true → partB T m0 r (tn b) = true → e.rf b r = true := fun b r hr hk hw => by
    obtain ⟨x, hx, hx2⟩ := prt_iff.1 hw
    obtain ⟨x0, x1⟩ := body_in hp hr hx
    have htn : isTag (tn b) := by cases b; exact tag2; exact tag4
    rw [h.x.rf b r hr]
    exact List.any_eq_true.2 ⟨x, hx, (ht.n b r x hr hk hx).2 (hK x _ htn (hm x _ x0 x1 htn hx2))⟩
  have usd : ∀ r : Nat, r < T.rules.length → wholeB T m0 r 3 = true → used e r = true := fun r hr hw => (h.x.used hr).2 (whole true r hr (kA_kind hr) hw)
  have prt4 : ∀ r : Nat, r < T.rules.length → partB T m0 r 4 = true → e.rf true r = true := fun r hr hw => part true r hr (kA_kind hr) hw
  rcases htag with rfl | rfl | rfl | rfl
  · rw [cond1] at hcond
    rcases plusS_iff.1 hcond with h1 | ⟨r, hr, hw⟩
    · exact hc.cf _ h1
    · obtain ⟨a, rfl, ha, hh, hk⟩ := rule_lt hr
      have := hc.c1 a ha hk (by rw [h.x.ms false a ha hk, lf_zero]; exact whole false a ha hk hw)
      rw [hh] at this
      exact this
  · rw [cond2] at hcond
    obtain ⟨h1, h2⟩ := minusS_iff.1 hcond
    refine hc.c2 q hq h1 fun r hr => ?_
    obtain ⟨a, rfl, ha, hh, hk⟩ := rule_lt hr
    exact part false a ha hk (h2 a hr)
  · rw [cond3] at hcond
    rcases plusD_iff.1 hcond with h1 | ⟨⟨r, hr, hw⟩, h3, h4⟩
    · exact hc.c3 q (hK q 1 tag1 (hm q 1 (by omega) (by omega) tag1 h1))
    · have hte : rulesL T kT (q : Int) ≠ [] := fun e0 => by rw [e0] at hr; cases hr
      obtain ⟨a, rfl, ha, hh, hk⟩ := rule_lt hr
      refine hc.p3 q hq (List.any_eq_true.2 ⟨a, hr, usd a ha hw⟩) ?_
      rw [h.x.ob q hq hte]
      have z1 : lf ((row T.foes (q : Int)).filter (firmB T F)) (fun f => G.f f q) = 0 := lf_zero.2 fun f hf => by
        obtain ⟨hf1, hf2⟩ := List.mem_filter.1 hf
        obtain ⟨f0, f1⟩ := hp.foe q hq f hf1
        exact (ht.f f q hf2 (mem_rival.2 ⟨foe_sym hp (by omega) (by omega) hf1, hte⟩)).2 (hK f 2 tag2 (hm f 2 f0 f1 tag2 (h3 f hf1)))
      have z2 : lf (agL T q) (fun s => G.r s q) = 0 := lf_zero.2 fun s hs => by
        unfold agL at hs
        obtain ⟨b, hb, rfl⟩ := List.mem_map.1 hs
        obtain ⟨hb1, hb2⟩ := List.mem_filter.1 hb
        have hbl := List.mem_range.1 hb1
        have hfo := of_decide_eq_true hb2
        have hrv : (q : Int) ∈ rivalsL T (headOf T b) := mem_rival.2 ⟨foe_sym hp (by omega) (by omega) hfo, hte⟩
        refine hc.gr b hbl q hrv ?_
        rcases atkP_iff.1 (h4 _ hfo b (kind_mem hbl (kA_kind hbl))) with h5 | ⟨t, ht5, h5, h6⟩
        · exact .inl (prt4 b hbl h5)
        · obtain ⟨c, rfl, hcl, hhc, hkc⟩ := rule_lt ht5
          have := hc.cb c hcl hkc (usd c hcl h6) b (of_decide_eq_true h5)
          rw [hhc] at this
          exact .inr this
      rw [z1, z2]
      rfl
  · rw [cond4] at hcond
    obtain ⟨h1, h2⟩ := minusD_iff.1 hcond
    have hKq := hK q 2 tag2 (hm q 2 (by omega) (by omega) tag2 h1)
    rcases h2 with h2 | ⟨f, hf, h2⟩ | ⟨f, hf, s, hsf, h2⟩
    · refine hc.c4 q hq hKq fun r hr => ?_
      obtain ⟨a, rfl, ha, -, -⟩ := rule_lt hr
      exact prt4 a ha (h2 a hr)
    · obtain ⟨f0, f1⟩ := hp.foe q hq f hf
      exact hc.cr q hq hKq f hf (hK f 1 tag1 (hm f 1 f0 f1 tag1 h2))
    · by_cases hte : rulesL T kT (q : Int) = []
      · exact hc.c4 q hq hKq fun r hr => by rw [hte] at hr; cases hr
      · obtain ⟨a, rfl, ha, hha, -⟩ := rule_lt hsf
        obtain ⟨h5, h6⟩ := atkM_iff.1 h2
        have hrv : (q : Int) ∈ rivalsL T (headOf T a) := mem_rival.2 ⟨by rw [hha]; exact foe_sym hp (by omega) (by omega) hf, hte⟩
        refine hc.co q hq hKq a ha hrv (usd a ha h5) ?_
        rw [h.x.cd a ha q hrv, lf_zero]
        intro t ht5
        obtain ⟨ht6, ht7⟩ := List.mem_filter.1 ht5
        obtain ⟨c, rfl, hcl, -, hkc⟩ := rule_lt ht6
        rcases h6 c ht6 with h8 | h8
        · exact hc.gw c hcl hkc (prt4 c hcl h8) a (of_decide_eq_true ht7)
        · rw [h8] at ht7; cases ht7
/-- A mark is there if it is told. -/
theorem snoc_ind {α : Type} {P : List α → Prop} (h0 : P []) (hs : ∀ l x, P l → P (l ++ [x])) (l : List α) : P l := by
  have h : ∀ l : List α, P l.reverse := by
    intro l
    induction l with
    | nil => exact h0
    | cons x l ih => rw [List.reverse_cons]; exact hs _ _ ih
  have := h l.reverse
  rwa [List.reverse_reverse] at this
theorem mq_snoc {l : List (Int × Int)} {x : Int × Int} : mqOf (l ++ [x]) = upd (mqOf l) x.1 (orB (mqOf l x.1) x.2) := by unfold mqOf; rw [List.foldl_append]; rfl
theorem mq_byte : ∀ {l : List (Int × Int)}, (∀ y ∈ l, isTag y.2) → ∀ q, isByte (mqOf l q) := by
  intro l
  induction l using snoc_ind with
  | h0 => intro _ q; show isByte 0; unfold isByte; omega
  | hs l x ih =>
    intro h q
    have ih := ih fun y hy => h y (List.mem_append_left _ hy)
    rw [mq_snoc]
    by_cases e : q = x.1
    · subst e; rw [upd_at]; exact (or_facts (ih _) (h x (by simp)) (h x (by simp))).2.1
    · rw [upd_off e]; exact ih q
theorem mq_mem {q t : Int} (ht : isTag t) : ∀ {l : List (Int × Int)}, (∀ y ∈ l, isTag y.2) → hb (mqOf l q) t = true → (q, t) ∈ l := by
  intro l
  induction l using snoc_ind with
  | h0 => intro _ h; have h : hb 0 t = true := h; rw [hb_zero ht] at h; cases h
  | hs l x ih =>
    intro hl h
    have hl2 : ∀ y ∈ l, isTag y.2 := fun y hy => hl y (List.mem_append_left _ hy)
    have hx : isTag x.2 := hl x (by simp)
    rw [mq_snoc] at h
    by_cases e : q = x.1
    · subst e
      rw [upd_at, (or_facts (mq_byte hl2 x.1) hx ht).1, Bool.or_eq_true] at h
      rcases h with h | h
      · exact List.mem_append_left _ (ih hl2 h)
      · have h := of_decide_eq_true h
        rw [← h]
        simp
    · rw [upd_off e] at h
      exact List.mem_append_left _ (ih hl2 h)
theorem nib_table : ∀ x y : _root_.Fin 16, (tags.all fun t => decide (hb (x.val : Int) t = hb (y.val : Int) t)) = true → x = y := by decide +kernel
theorem nib_ext {x y : Int} (x0 : 0 ≤ x) (x1 : x < 16) (y0 : 0 ≤ y) (y1 : y < 16) (h : ∀ t, isTag t → hb x t = hb y t) : x = y := by
  obtain ⟨a, rfl⟩ := Int.eq_ofNat_of_zero_le x0
  obtain ⟨b, rfl⟩ := Int.eq_ofNat_of_zero_le y0
  have := nib_table ⟨a, by omega⟩ ⟨b, by omega⟩ (List.all_eq_true.2 fun t ht => by
    have htag : isTag t := by simp [tags] at ht; exact ht
    exact decide_eq_true (h t htag))
  have h2 : a = b := congrArg (fun z : _root_.Fin 16 => z.val) this
  rw [h2]
set_option maxHeartbeats 1600000 in
/-- What is told holds where the rounds end. -/
theorem ord_sound (hp : Pf T F n) (hs_ : Sol T F m k) (h : Ord T F n e) (htok : Tok n e) : ∀ (j : Nat) x, e.td[j]? = some x → hs m x.1 x.2 = true := by
  intro j
  induction j using Nat.strongRecOn with
  | _ j ih =>
    intro x hx
    obtain ⟨x0, x1, xt, -⟩ := htok.inn x (List.mem_of_getElem? hx)
    refine (sol_iff hp hs_ x0 x1 xt).2 (cond_mono hp (m := rowM n (mqOf (e.td.take j))) ?_ x0 x1 xt (h.ok j x hx))
    intro q t h0 ht hz
    by_cases hq : q < (n : Int)
    · rw [rowM_hs h0 hq] at hz
      obtain ⟨i, hi⟩ := List.mem_iff_getElem?.1 (mq_mem ht (fun y hy => (htok.inn y (List.mem_of_mem_take hy)).2.2.1) hz)
      have hij : i < j := by
        have := (List.getElem?_eq_some_iff.1 hi).1
        rw [List.length_take] at this
        omega
      rw [List.getElem?_take_of_lt hij] at hi
      have hz2 := ih i hij (q, t) hi
      exact hz2
    · obtain ⟨a, rfl⟩ := Int.eq_ofNat_of_zero_le h0
      have : hs (rowM n (mqOf (e.td.take j))) a t = hb 0 t := by
        unfold hs rowM
        rw [List.getD_eq_getElem?_getD, List.getElem?_map, Int.toNat_natCast, List.getElem?_eq_none (by simp; omega)]
        rfl
      rw [this, hb_zero ht] at hz
      cases hz
set_option maxHeartbeats 1600000 in
/-- Once all is taken the marks are those that rounds end with. -/
theorem end_all (hp : Pf T F n) (hs_ : Sol T F m k) (h : Alls T F n m e) (htk : e.tk = e.td.length) (htok : Tok n e) : (∀ q t : Int, 0 ≤ q → q < (n : Int) → isTag t → has e q t = hs m q t) ∧ ∀ q : Nat, q < n → e.mq q = m.getD q 0 := by
  obtain ⟨G, i, c, t⟩ := h.iv
  have hK : ∀ z t, isTag t → has e z t = true → Kof e z t = true := fun z t ht hz => by
    unfold Kof
    rw [htk, List.take_length]
    exact decide_eq_true (h.td z t ht hz)
  have key : ∀ j : Nat, ∀ q t : Int, 0 ≤ q → q < (n : Int) → isTag t → hs (Mk T F j) q t = true → has e q t = true := by
    intro j
    induction j with
    | zero =>
      intro q t h0 h1 ht hh
      have : hs (Mk T F 0) q t = hb ((List.replicate T.lits.toNat (0 : Int)).getD q.toNat 0) t := rfl
      rw [this, zeros_at, hb_zero ht] at hh
      cases hh
    | succ j ih =>
      intro q t h0 h1 ht hh
      rw [Mk_succ, hs_round Mk_bys h0 (by rw [Mk_len hp]; exact h1) ht, Bool.or_eq_true] at hh
      rcases hh with hh | hh
      · exact ih q t h0 h1 ht hh
      · obtain ⟨a, rfl⟩ := Int.eq_ofNat_of_zero_le h0
        exact closed_all hp i c ‹Tie T F (Kof e) G› hK ih (by omega) ht hh
  have same : ∀ q t : Int, 0 ≤ q → q < (n : Int) → isTag t → has e q t = hs m q t := fun q t h0 h1 ht => by
    rw [Bool.eq_iff_iff]
    exact ⟨fun hh => by
      obtain ⟨j, hj⟩ := List.mem_iff_getElem?.1 (h.td q t ht hh)
      have hz2 := ord_sound hp hs_ i.o htok j (q, t) hj
      exact hz2, fun hh => key k q t h0 h1 ht (by rw [hs_.1] at hh; exact hh)⟩
  refine ⟨same, fun q hq => nib_ext (i.y q).1 (h.sm q) ?_ ?_ fun t ht => ?_⟩
  · exact (sol_bys hs_ q).1
  · rw [hs_.1]; exact Mk_small q
  · have := same q t (by omega) (by omega) ht
    unfold has hs at this
    rw [Int.toNat_natCast] at this
    exact this
/-- As a row of memory. -/
theorem end_row (hp : Pf T F n) (hs_ : Sol T F m k) (h : Alls T F n m e) (htk : e.tk = e.td.length) (htok : Tok n e) : rowU n e.mq = m.map (Value.int .u8) := by
  have hl := sol_len hp hs_
  apply List.ext_getElem?
  intro q
  unfold rowU
  rw [List.getElem?_map, List.getElem?_map]
  by_cases hq : q < n
  · rw [List.getElem?_range hq, List.getElem?_eq_getElem (by omega)]
    have := (end_all hp hs_ h htk htok).2 q hq
    rw [List.getD_eq_getElem?_getD, List.getElem?_eq_getElem (by omega)] at this
    show some (Value.int .u8 (e.mq q)) = some (Value.int .u8 m[q])
    rw [this]
    rfl
  · rw [List.getElem?_eq_none (by simpa using hq), List.getElem?_eq_none (by omega)]
    rfl
end
end Go.Proofs.YtcobmbclhhimjaaGreat.Fa
/- How many are told. PLAIN. -/
namespace Go.Proofs.YtcobmbclhhimjaaGreat.Fa

theorem nodup_le {α : Type} [DecidableEq α] : ∀ {l L : List α}, l.Nodup → (∀ x ∈ l, x ∈ L) → l.length ≤ L.length
  | [], _, _, _ => Nat.zero_le _
  | x :: l, L, hn, h => by
    obtain ⟨h1, h2⟩ := List.nodup_cons.1 hn
    have hx := h x List.mem_cons_self
    have := nodup_le (L := L.erase x) h2 fun y hy => (List.mem_erase_of_ne (fun e : y = x => h1 (e ▸ hy))).2 (h y (List.mem_cons_of_mem _ hy))
    rw [List.length_erase_of_mem hx] at this
    have := List.length_pos_of_mem hx
    simp only [List.length_cons]
    omega
/-- All tags that there are. -/
def tagL (m : List Int) (q : Nat) : List (Int × Int) := (tags.filter fun t => hs m q t).map fun t => ((q : Int), t)
def tagsL (m : List Int) : Nat → List (Int × Int)
  | 0 => []
  | k + 1 => tagsL m k ++ tagL m k
theorem tagL_len {m : List Int} {q : Nat} : (tagL m q).length = cntT m q := by
  unfold tagL cntT tags b2n
  cases h1 : hs m q 1 <;> cases h2 : hs m q 2 <;> cases h3 : hs m q 3 <;> cases h4 : hs m q 4 <;> simp [List.filter, h1, h2, h3, h4]
theorem tagsL_len {m : List Int} : ∀ {k : Nat}, (tagsL m k).length = cntF m k
  | 0 => rfl
  | k + 1 => by unfold tagsL cntF; rw [List.length_append, tagsL_len, tagL_len]
theorem tagL_mem {m : List Int} {q : Nat} {x : Int × Int} : x ∈ tagL m q ↔ x.1 = (q : Int) ∧ isTag x.2 ∧ hs m q x.2 = true := by
  unfold tagL
  rw [List.mem_map]
  constructor
  · rintro ⟨t, ht, rfl⟩
    obtain ⟨h1, h2⟩ := List.mem_filter.1 ht
    refine ⟨rfl, ?_, h2⟩
    simp [tags] at h1
    exact h1
  · rintro ⟨h1, h2, h3⟩
    exact ⟨x.2, List.mem_filter.2 ⟨isTag_mem h2, h3⟩, Prod.ext h1.symm rfl⟩
theorem tagsL_mem {m : List Int} {x : Int × Int} : ∀ {k : Nat}, x ∈ tagsL m k ↔ ∃ q : Nat, q < k ∧ x.1 = (q : Int) ∧ isTag x.2 ∧ hs m q x.2 = true
  | 0 => by
    constructor
    · intro h; cases h
    · rintro ⟨q, h, -⟩; omega
  | k + 1 => by
    unfold tagsL
    rw [List.mem_append, tagsL_mem, tagL_mem]
    constructor
    · rintro (⟨q, h1, h2⟩ | h2)
      · exact ⟨q, by omega, h2⟩
      · exact ⟨k, by omega, h2⟩
    · rintro ⟨q, h1, h2⟩
      by_cases e : q = k
      · subst e; exact .inr h2
      · exact .inl ⟨q, by omega, h2⟩
theorem tagL_nd {m : List Int} {q : Nat} : (tagL m q).Nodup := by
  unfold tagL tags
  cases h1 : hs m q 1 <;> cases h2 : hs m q 2 <;> cases h3 : hs m q 3 <;> cases h4 : hs m q 4 <;> simp [List.filter, h1, h2, h3, h4]
theorem tagsL_nd {m : List Int} : ∀ {k : Nat}, (tagsL m k).Nodup
  | 0 => List.nodup_nil
  | k + 1 => by
    unfold tagsL
    rw [List.nodup_append]
    refine ⟨tagsL_nd, tagL_nd, fun x hx y hy e => ?_⟩
    subst e
    obtain ⟨q, h1, h2, -⟩ := tagsL_mem.1 hx
    have := (tagL_mem.1 hy).1
    omega
/-- Each tag is told once. -/
theorem told_len {T : Th} {F m : List Int} {n k : Nat} {e : Es} (hp : Pf T F n) (hs_ : Sol T F m k) (h : Alls T F n m e) (htk : e.tk = e.td.length) (htok : Tok n e) : e.td.length = cntF m n := by
  have he := (end_all hp hs_ h htk htok).1
  rw [← tagsL_len]
  apply Nat.le_antisymm
  · refine nodup_le htok.nd fun x hx => ?_
    obtain ⟨x0, x1, xt, xh⟩ := htok.inn x hx
    obtain ⟨q, hq⟩ := Int.eq_ofNat_of_zero_le x0
    exact tagsL_mem.2 ⟨q, by omega, hq, xt, by rw [← hq, ← he x.1 x.2 x0 x1 xt]; exact xh⟩
  · refine nodup_le tagsL_nd fun x hx => ?_
    obtain ⟨q, h1, h2, h3, h4⟩ := tagsL_mem.1 hx
    have := h.td x.1 x.2 h3 (by rw [he x.1 x.2 (by omega) (by omega) h3, h2]; exact h4)
    exact this
end Go.Proofs.YtcobmbclhhimjaaGreat.Fa
/- What is told, step by step. PLAIN. -/
namespace Go.Proofs.YtcobmbclhhimjaaGreat.Fa

theorem rowM_len {n : Nat} {f : Int → Int} : (rowM n f).length = n := by unfold rowM; simp
theorem u8s_row {n : Nat} {f : Int → Int} : u8s (rowM n f) = rowU n f := by unfold u8s rowM rowU; rw [List.map_map]; rfl
/-- What the document asks of each that is told. -/
structure Tld (T : Th) (F : List Int) (n : Nat) (l : List (Int × Int)) : Prop where
  step : ∀ (i : Nat) x, l[i]? = some x → ∃ q : Nat, x.1 = (q : Int) ∧ q < n ∧ isTag x.2 ∧ hb (mqOf (l.take i) q) x.2 = false ∧ condM T F (rowM n (mqOf (l.take i))) x.2 q = true ∧ mqOf (l.take (i + 1)) = upd (mqOf (l.take i)) q (orB (mqOf (l.take i) q) x.2)
section
variable {T : Th} {F : List Int} {n : Nat} {e : Es}
theorem Tld.of (h : Ord T F n e) (htok : Tok n e) : Tld T F n e.td := by
  refine ⟨fun i x hx => ?_⟩
  obtain ⟨x0, x1, xt, -⟩ := htok.inn x (List.mem_of_getElem? hx)
  obtain ⟨q, hq⟩ := Int.eq_ofNat_of_zero_le x0
  have htk : e.td.take (i + 1) = e.td.take i ++ [x] := by rw [List.take_add_one, hx]; rfl
  refine ⟨q, hq, by omega, xt, ?_, by rw [← hq]; exact h.ok i x hx, by rw [htk, mq_snoc, hq]⟩
  cases hz : hb (mqOf (e.td.take i) q) x.2 with
  | false => rfl
  | true =>
    exfalso
    have hm := mq_mem xt (fun y hy => (htok.inn y (List.mem_of_mem_take hy)).2.2.1) hz
    have hnd := htok.nd
    rw [← List.take_append_drop i e.td] at hnd
    have hi := (List.getElem?_eq_some_iff.1 hx).1
    have hd : x ∈ e.td.drop i := by
      refine List.mem_of_getElem? (i := 0) ?_
      rw [List.getElem?_drop]
      exact hx
    have hxe : ((q : Int), x.2) = x := Prod.ext hq.symm rfl
    rw [hxe] at hm
    exact (List.nodup_append.1 hnd).2.2 x hm x hd rfl
end
end Go.Proofs.YtcobmbclhhimjaaGreat.Fa
