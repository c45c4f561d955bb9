/- What a run adds alone; all that is due is told. PLAIN. -/
import Derived.Test.YtcobmbclhhimjaaGreatGu
namespace Go.Proofs.YtcobmbclhhimjaaGreat.Fa

section
variable {T : Th} {F : List Int} {n k : Nat} {m : Prop} {G G' : Gho} {e e' : Es} {K : Int → Int → Bool}
/-- More is told, and nothing else befalls marks and what is told. -/
structure Gro (e e' : Es) : Prop where
  tk : e'.tk = e.tk
  up : ∀ z t, isTag t → has e z t = true → has e' z t = true
  td : ∃ l, e'.td = e.td ++ l
  by_ : ∀ q, isByte (e'.mq q)
  sm : (∀ q, e.mq q < 16) → ∀ q, e'.mq q < 16
  tdd : (∀ z t, isTag t → has e z t = true → (z, t) ∈ e.td) → ∀ z t, isTag t → has e' z t = true → (z, t) ∈ e'.td
theorem Gro.refl (h : ∀ q, isByte (e.mq q)) : Gro e e := ⟨rfl, fun _ _ _ h => h, ⟨[], by simp⟩, h, fun h => h, fun h => h⟩
theorem Gro.trans {e2 : Es} (h : Gro e e') (h2 : Gro e' e2) : Gro e e2 := by
  obtain ⟨l, hl⟩ := h.td
  obtain ⟨l2, hl2⟩ := h2.td
  exact ⟨h2.tk.trans h.tk, fun z t ht hz => h2.up z t ht (h.up z t ht hz), ⟨l ++ l2, by rw [hl2, hl, List.append_assoc]⟩, h2.by_, fun h0 => h2.sm (h.sm h0), fun h0 => h2.tdd (h.tdd h0)⟩
theorem Gro.tell (h : Gro e e') {q t : Int} (ht : isTag t) : Gro e (tell e' q t) := by
  refine h.trans ?_
  have key : ∀ z u, isTag u → hb (upd e'.mq q (orB (e'.mq q) t) z) u = (has e' z u || decide (z = q ∧ t = u)) := fun z u hu => by
    by_cases ez : z = q
    · subst ez
      rw [upd_at, (or_facts (h.by_ z) ht hu).1]
      simp [has]
    · rw [upd_off ez]
      simp [ez, has]
  unfold Fa.tell
  split
  · exact Gro.refl h.by_
  · refine ⟨rfl, fun z u hu hz => ?_, ⟨[(q, t)], rfl⟩, fun z => ?_, fun hs z => ?_, fun hm z u hu hz => ?_⟩
    · show hb (upd e'.mq q (orB (e'.mq q) t) z) u = true
      rw [key z u hu, hz]
      rfl
    · show isByte (upd e'.mq q (orB (e'.mq q) t) z)
      by_cases ez : z = q
      · subst ez; rw [upd_at]; exact (or_facts (h.by_ z) ht ht).2.1
      · rw [upd_off ez]; exact h.by_ z
    · show upd e'.mq q (orB (e'.mq q) t) z < 16
      by_cases ez : z = q
      · subst ez; rw [upd_at]; exact (or_facts (h.by_ z) ht ht).2.2 (hs z)
      · rw [upd_off ez]; exact hs z
    · have hz : hb (upd e'.mq q (orB (e'.mq q) t) z) u = true := hz
      show (z, u) ∈ e'.td ++ [(q, t)]
      rw [key z u hu, Bool.or_eq_true] at hz
      rcases hz with hz | hz
      · exact List.mem_append_left _ (hm z u hu hz)
      · obtain ⟨rfl, rfl⟩ := of_decide_eq_true hz
        simp
theorem Gro.same {e2 : Es} (h : Gro e e') (h1 : e2.td = e'.td) (h2 : e2.mq = e'.mq) (h3 : e2.tk = e'.tk) : Gro e e2 := by
  have hh : ∀ z t, has e2 z t = has e' z t := fun z t => by unfold has; rw [h2]
  obtain ⟨l, hl⟩ := h.td
  exact ⟨h3.trans h.tk, fun z t ht hz => by rw [hh]; exact h.up z t ht hz, ⟨l, by rw [h1, hl]⟩, fun q => by rw [h2]; exact h.by_ q, fun hs q => by rw [h2]; exact h.sm hs q, fun hm z t ht hz => by rw [h1]; rw [hh] at hz; exact h.tdd hm z t ht hz⟩
theorem Gro.fold {α : Type} {f : Es → α → Es} : ∀ {l : List α} {e' : Es}, Gro e e' → (∀ x ∈ l, ∀ e2, Gro e e2 → Gro e (f e2 x)) → Gro e (l.foldl f e')
  | [], _, h, _ => h
  | x :: l, _, h, hf => Gro.fold (l := l) (hf x List.mem_cons_self _ h) fun y hy => hf y (List.mem_cons_of_mem _ hy)
theorem Gro.lose (h : Gro e e') {q : Int} : Gro e (loseE e' q) := by
  unfold loseE; split
  · exact h.tell tag4
  · exact h
theorem Gro.clear (h : Gro e e') {q : Int} : Gro e (clearE e' q) := h.same rfl rfl rfl
theorem Gro.met (h : Gro e e') {b : Bool} {r : Int} : Gro e (metE e' b r) := h.same rfl rfl rfl
theorem Gro.ref (h : Gro e e') {b : Bool} {r : Int} : Gro e (refE e' b r) := by unfold refE; split; exact h; exact h.same rfl rfl rfl
theorem Gro.cls (h : Gro e e') {b : Bool} {r : Int} : Gro e (clsE e' b r) := by unfold clsE; split; exact h.same rfl rfl rfl; exact h
theorem Gro.prove (h : Gro e e') {q : Int} : Gro e (proveE T e' q) := by
  unfold proveE; split
  · exact h.tell tag3
  · exact h
theorem Gro.disprove (h : Gro e e') {q : Int} : Gro e (disproveE T e' q) := by
  unfold disproveE; split
  · exact h.lose
  · exact h
theorem Gro.beat1 (h : Gro e e') {q s : Int} : Gro e (beat1 q e' s) := by
  unfold Fa.beat1
  split
  · exact h
  · dsimp only
    split
    · exact h.same rfl rfl rfl
    · exact h.same rfl rfl rfl
theorem Gro.defend (h : Gro e e') {r : Int} : Gro e (defendE T e' r) := Gro.fold h fun _ _ _ h => h.beat1
theorem Gro.with1 (h : Gro e e') {q s : Int} : Gro e (with1 q e' s) := by
  unfold Fa.with1
  dsimp only
  have h1 : Gro e { e' with cd := upd e'.cd s (upd (e'.cd s) q (dec (e'.cd s q))), up := inc e'.up } := h.same rfl rfl rfl
  split
  · exact h1.lose
  · exact h1
theorem Gro.withE (h : Gro e e') {r : Int} : Gro e (withE T e' r) := Gro.fold h fun _ _ _ h => h.with1
theorem Gro.use (h : Gro e e') {r : Int} : Gro e (useE T e' r) := by
  have h1 : Gro e ((rivalsL T (headOf T r)).foldl (use1 r) e') := Gro.fold h fun p _ e2 h => by
    unfold use1
    split
    · exact h.lose
    · exact h
  unfold useE
  dsimp only
  split
  · split
    · exact h1.defend.tell tag3
    · exact h1.defend
  · exact h1
theorem Gro.drop (h : Gro e e') {r : Int} : Gro e (dropE T e' r) := by
  have h1 : Gro e ((rivalsL T (headOf T r)).foldl (drop1 T r) e') := Gro.fold h fun p _ e2 h => by
    unfold drop1
    split
    · exact h
    · exact h.clear.prove
  unfold dropE
  dsimp only
  split
  · split
    · exact h1.withE.cls.lose
    · exact h1.withE.cls
  · exact h1
theorem Gro.plusS (h : Gro e e') {q : Int} : Gro e (plusSE T e' q) := by
  unfold plusSE
  refine Gro.fold (Gro.fold (h.tell tag3) fun r _ e2 h => ?_) fun p _ e2 h => h.lose
  unfold Fa.plusS1
  dsimp only
  split
  · exact h.met.tell tag1
  · exact h.met
theorem Gro.minusS1 (h : Gro e e') {r : Int} : Gro e (minusS1 T e' r) := by
  unfold Fa.minusS1
  dsimp only
  split
  · exact h
  · split
    · exact h.ref.cls.tell tag2
    · exact h.ref.cls
theorem Gro.minusS (h : Gro e e') {q : Int} : Gro e (minusSE T F e' q) := by
  unfold minusSE
  dsimp only
  have h1 : Gro e ((usersL T false q).foldl (Fa.minusS1 T) e') := Gro.fold h fun r _ e2 h => h.minusS1
  refine Gro.disprove ?_
  split
  · exact Gro.fold h1 fun p _ e2 h => h.clear.prove
  · exact h1
theorem Gro.plusD (h : Gro e e') {q : Int} : Gro e (plusDE T e' q) := by
  unfold plusDE
  refine Gro.fold h fun r _ e2 h => ?_
  unfold plusD1
  dsimp only
  split
  · exact h.met.use
  · exact h.met
theorem Gro.minusD (h : Gro e e') {q : Int} : Gro e (minusDE T e' q) := by
  unfold minusDE
  refine Gro.fold h fun r _ e2 h => ?_
  unfold minusD1
  split
  · exact h
  · exact h.ref.drop
theorem Gro.does (h : Gro e e') {q t : Int} : Gro e (doesE T F e' q t) := by
  unfold doesE
  split
  · exact h.plusS
  · split
    · exact h.minusS
    · split
      · exact h.plusD
      · exact h.minusD
theorem Gro.bare (h : Gro e e') {j : Nat} : Gro e (bareE T j e') := by
  unfold bareE
  refine Gro.fold h fun r _ e2 h => ?_
  unfold bare1
  split
  · exact h.defend
  · exact h
theorem Gro.begin (h : Gro e e') {j : Nat} : Gro e (beginE T F j e') := by
  unfold beginE
  refine Gro.fold (Gro.fold h fun q _ e2 h => ?_) fun q _ e2 h => ?_
  · unfold beg1
    split
    · exact h.tell tag2
    · split
      · exact h.tell tag1
      · exact h
  · unfold beg2
    refine Gro.disprove (Gro.prove ?_)
    split
    · exact h.tell tag3
    · exact h

/-- All that is due is told: by counters at any time, by what is taken (K) besides. -/
structure Cmp (T : Th) (F : List Int) (n : Nat) (K : Int → Int → Bool) (G : Gho) (e : Es) : Prop where
  c1 : ∀ r : Nat, r < T.rules.length → kindB T kS r = true → e.ms false r = 0 → has e (headOf T r) 1 = true
  cf : ∀ q ∈ F, has e q 1 = true
  c2 : ∀ q : Nat, q < n → (q : Int) ∉ F → (∀ r ∈ rulesL T kS q, e.rf false r = true) → has e q 2 = true
  p3 : P3 T n e
  cb : ∀ t : Nat, t < T.rules.length → teamB T t = true → used e t = true → ∀ s ∈ row T.beats t, e.cb s (headOf T t) = true
  gr : Grr T G e
  gw : ∀ t : Nat, t < T.rules.length → teamB T t = true → e.rf true t = true → ∀ s ∈ row T.beats t, G.w t s = true
  gc : ∀ b (r : Nat), r < T.rules.length → kindB T (kL b) r = true → e.rf b r = true → G.c b r = true
  c3 : ∀ q, K q 1 = true → has e q 3 = true
  c4 : ∀ q : Nat, q < n → K q 2 = true → (∀ r ∈ rulesL T kT q, e.rf true r = true) → has e q 4 = true
  co : ∀ q : Nat, q < n → K q 2 = true → ∀ s : Nat, s < T.rules.length → (q : Int) ∈ rivalsL T (headOf T s) → used e s = true → e.cd s q = 0 → has e q 4 = true
  cr : ∀ q : Nat, q < n → K q 2 = true → ∀ f ∈ row T.foes q, K f 1 = true → has e q 4 = true
  q2 : ∀ q, K q 2 = true → has e q 2 = true
  q1 : ∀ q, K q 1 = true → has e q 1 = true
/-- Rules refuted and beaten, clashes, obstacles and used rules as they were. -/
theorem Cmp.tem (h : Cmp T F n K G e) (t : Tem e e') (g1 : G'.r = G.r) (g2 : G'.w = G.w) (g3 : G'.c = G.c) (hc1 : ∀ r : Nat, r < T.rules.length → kindB T kS r = true → e'.ms false r = 0 → has e' (headOf T r) 1 = true) : Cmp T F n K G' e' := by
  have hu : used e' = used e := by funext r; unfold Fa.used; rw [t.mt]
  refine ⟨hc1, fun q hq => t.up _ _ tag1 (h.cf q hq), fun q hq hF hr => t.up _ _ tag2 (h.c2 q hq hF (by rw [t.rf] at hr; exact hr)), h.p3.ms t.mt t.ob fun z hz => t.up _ _ tag3 hz, fun u hu1 ht hus => by rw [t.cb]; rw [hu] at hus; exact h.cb u hu1 ht hus, fun s hs p hp ho => by rw [g1]; rw [t.rf, t.cb] at ho; exact h.gr s hs p hp ho, fun u hu1 ht hr => by rw [g2]; rw [t.rf] at hr; exact h.gw u hu1 ht hr, fun b r hr hk hf => by rw [g3]; rw [t.rf] at hf; exact h.gc b r hr hk hf, fun q hq => t.up _ _ tag3 (h.c3 q hq), fun q hq hK hr => t.up _ _ tag4 (h.c4 q hq hK (by rw [t.rf] at hr; exact hr)), fun q hq hK s hs hr hus hc => t.up _ _ tag4 (h.co q hq hK s hs hr (by rw [hu] at hus; exact hus) (by rw [t.cd] at hc; exact hc)), fun q hq hK f hf hKf => t.up _ _ tag4 (h.cr q hq hK f hf hKf), fun q hq => t.up _ _ tag2 (h.q2 q hq), fun q hq => t.up _ _ tag1 (h.q1 q hq)⟩
theorem Cmp.tem1 (h : Cmp T F n K G e) (t : Tem e e') (hm : e'.ms = e.ms) : Cmp T F n K G e' := h.tem t rfl rfl rfl fun r hr hk h0 => t.up _ _ tag1 (h.c1 r hr hk (by rw [hm] at h0; exact h0))
theorem tem_lose (hby : ∀ q, isByte (e.mq q)) {q : Int} : Tem e (loseE e q) := by
  unfold loseE
  split
  · exact tem_tell hby tag4
  · exact Tem.refl
theorem tell_ms {q t : Int} : (tell e q t).ms = e.ms := by unfold Fa.tell; split <;> rfl
theorem lose_ms {q : Int} : (loseE e q).ms = e.ms := by unfold loseE; split; exact tell_ms; rfl
/-- A + of strict proof at the rules that wait for it. -/
theorem plusS_fold (hp : Pf T F n) (hs_ : m) {q : Int} : ∀ (l : List Int) {G : Gho} {e : Es}, l.Nodup → (∀ r ∈ l, r ∈ usersL T false q) → Iv T F n m G e → Cmp T F n K G e → has e q 1 = true → (∀ r ∈ l, G.a false r q = false) →
    ∃ G', Iv T F n m G' (l.foldl (plusS1 T) e) ∧ Cmp T F n K G' (l.foldl (plusS1 T) e) ∧ Tem e (l.foldl (plusS1 T) e) ∧ (∀ b r x, G'.a b r x = true ↔ G.a b r x = true ∨ (b = false ∧ r ∈ l ∧ x = q)) ∧ G'.n = G.n ∧ G'.f = G.f := by
  intro l
  induction l with
  | nil => intro G e _ _ h hc _ _; exact ⟨G, h, hc, Tem.refl, fun b r x => by simp, rfl, rfl⟩
  | cons r0 l ih =>
    intro G e hnd hl h hc hq ha
    obtain ⟨hn1, hn2⟩ := List.nodup_cons.1 hnd
    obtain ⟨r, rfl, hr, hk, hb⟩ := user_in (hl r0 List.mem_cons_self)
    obtain ⟨h1, t1, d1, o1⟩ := h.plusS1 hp hs_ hr hk hb (ha _ List.mem_cons_self) hq
    have mk : ∀ b s x, updB G.a false (mk2 (G.a false) r q) b s x = true ↔ G.a b s x = true ∨ (b = false ∧ s = (r : Int) ∧ x = q) := fun b s x => by
      by_cases eb : b = false
      · subst eb; rw [updB_at, mk2_iff]; simp
      · rw [updB_off eb]; simp [eb]
    have c1 : Cmp T F n K { G with a := updB G.a false (mk2 (G.a false) r q) } (plusS1 T e r) := hc.tem t1 rfl rfl rfl fun u hu hku h0 => by
      by_cases eu : (u : Int) = r
      · rw [eu] at h0 ⊢; exact d1 h0
      · rw [o1 u eu] at h0; exact t1.up _ _ tag1 (hc.c1 u hu hku h0)
    obtain ⟨G2, h2, c2, t2, a2, n2, f2⟩ := ih hn2 (fun s hs => hl s (List.mem_cons_of_mem _ hs)) h1 c1 (t1.up _ _ tag1 hq) fun s hs => by
      cases hg : updB G.a false (mk2 (G.a false) r q) false s q with
      | false => exact hg
      | true =>
        rcases (mk false s q).1 hg with h3 | ⟨-, h3, -⟩
        · rw [ha s (List.mem_cons_of_mem _ hs)] at h3; cases h3
        · exact absurd (h3 ▸ hs) hn1
    refine ⟨G2, h2, c2, t1.trans t2, fun b s x => ?_, n2, f2⟩
    rw [a2]
    show (updB G.a false (mk2 (G.a false) r q) b s x = true ∨ _) ↔ _
    rw [mk]
    simp only [List.mem_cons]
    constructor
    · rintro ((h | ⟨h1, h2, h3⟩) | ⟨h1, h2, h3⟩)
      · exact .inl h
      · exact .inr ⟨h1, .inl h2, h3⟩
      · exact .inr ⟨h1, .inr h2, h3⟩
    · rintro (h | ⟨h1, h2 | h2, h3⟩)
      · exact .inl (.inl h)
      · exact .inl (.inr ⟨h1, h2, h3⟩)
      · exact .inr ⟨h1, h2, h3⟩
/-- Foes of what is strictly proved lose. -/
theorem lose_fold (hp : Pf T F n) (hs_ : m) {q : Int} (h0 : 0 ≤ q) (h1 : q < (n : Int)) : ∀ (l : List Int) {e : Es}, (∀ p ∈ l, p ∈ row T.foes q) → Iv T F n m G e → Cmp T F n K G e → has e q 1 = true →
    Iv T F n m G (l.foldl loseE e) ∧ Cmp T F n K G (l.foldl loseE e) ∧ Tem e (l.foldl loseE e) ∧ ∀ p ∈ l, has e p 2 = true → has (l.foldl loseE e) p 4 = true := by
  intro l
  induction l with
  | nil => intro e _ h hc _; exact ⟨h, hc, Tem.refl, fun p hp => (by cases hp)⟩
  | cons p0 l ih =>
    intro e hl h hc hq
    obtain ⟨p00, p01⟩ := foe_in hp h0 h1 (hl p0 List.mem_cons_self)
    obtain ⟨p, rfl⟩ := Int.eq_ofNat_of_zero_le p00
    have t1 := tem_lose h.y (q := (p : Int))
    have i1 := h.lose (q := (p : Int)) fun h2 => may4 hp hs_ (by omega) (h.s.mm p 2 p00 p01 tag2 h2) (.inr (.inl ⟨q, foe_sym hp h0 h1 (hl p List.mem_cons_self), h.s.mm q 1 h0 h1 tag1 hq⟩))
    obtain ⟨i2, c2, t2, l2⟩ := ih (fun z hz => hl z (List.mem_cons_of_mem _ hz)) i1 (hc.tem1 t1 lose_ms) (t1.up _ _ tag1 hq)
    refine ⟨i2, c2, t1.trans t2, fun z hz hz2 => ?_⟩
    rcases List.mem_cons.1 hz with rfl | hz
    · exact t2.up _ _ tag4 (lose_has h.y hz2)
    · exact l2 z hz (t1.up _ _ tag2 hz2)
end
end Go.Proofs.YtcobmbclhhimjaaGreat.Fa
/- Each step keeps that all that is due is told. PLAIN. -/
namespace Go.Proofs.YtcobmbclhhimjaaGreat.Fa

section
variable {T : Th} {F : List Int} {n k : Nat} {m : Prop} {G G' : Gho} {e e' : Es} {K : Int → Int → Bool}
theorem kind_mem {p : RuleM → Bool} {r : Nat} (hr : r < T.rules.length) (hk : kindB T p r = true) : (r : Int) ∈ rulesL T p (headOf T r) := by
  obtain ⟨x, hx⟩ := get_at hr
  obtain ⟨k1, k2, -⟩ := kind_at (p := p) hx
  exact mem_rules.2 ⟨r, x, rfl, hx, by rw [← k1]; exact hk, k2.symm⟩
theorem mem_kind {p : RuleM → Bool} {r : Nat} {z : Int} (h : (r : Int) ∈ rulesL T p z) : r < T.rules.length ∧ headOf T r = z ∧ kindB T p r = true := by
  obtain ⟨a, e1, ha, hh, hk⟩ := rule_lt h
  have : r = a := by omega
  subst this
  exact ⟨ha, hh, hk⟩
theorem op_one (hx : Exa T F n G e) {b : Bool} {r h : Nat} (hh : h < n) (hr : (r : Int) ∈ rulesL T (kL b) h) (hn : G.c b r = false) (ho : openZ T F b h = false) (hall : ∀ t ∈ rulesL T (kL b) h, t ≠ (r : Int) → G.c b t = true) : e.op b h = 1 := by
  have h1 := hx.op b h hh
  have hne : (rulesL T (kL b) (h : Int)).isEmpty = false := by
    cases hl : rulesL T (kL b) (h : Int) with
    | nil => rw [hl] at hr; cases hr
    | cons _ _ => rfl
  rw [ho, hne] at h1
  have hm := lf_mark rules_nd hr hn
  have hz : lf (rulesL T (kL b) (h : Int)) (upd (G.c b) r true) = 0 := lf_zero.2 fun t ht => by
    by_cases e1 : t = (r : Int)
    · rw [e1, upd_at]
    · rw [upd_off e1]; exact hall t ht e1
  have h1 : e.op b h = max 1 (lf (rulesL T (kL b) (h : Int)) (G.c b)) := h1
  omega
theorem open_not (hx : Exa T F n G e) {b : Bool} {h : Int} (hF : b = false → h ∉ F) (hall : ∀ t ∈ rulesL T (kL b) h, e.rf b t = true) : openZ T F b h = false := by
  unfold openZ
  rw [Bool.or_eq_false_iff]
  constructor
  · cases hb : bareB T (kL b) h with
    | false => rfl
    | true =>
      exfalso
      unfold bareB at hb
      obtain ⟨t, ht, h2⟩ := List.any_eq_true.1 hb
      obtain ⟨a, rfl, ha, -, -⟩ := rule_lt ht
      have h3 := hall a ht
      rw [hx.rf b a ha, List.isEmpty_iff.1 h2] at h3
      cases h3
  · cases b with
    | true => rfl
    | false =>
      have := hF rfl
      simp [this]
theorem Cmp.of (h : Cmp T F n K G e) (us : used e' = used e) (mf : e'.ms false = e.ms false) (rf : e'.rf true = e.rf true) (cb : e'.cb = e.cb) (cd : e'.cd = e.cd) (up : ∀ z t, isTag t → has e z t = true → has e' z t = true) (g1 : G'.r = G.r) (g2 : G'.w = G.w)
    (c2 : ∀ q : Nat, q < n → (q : Int) ∉ F → (∀ r ∈ rulesL T kS q, e'.rf false r = true) → has e' q 2 = true) (p3 : P3 T n e') (gc : ∀ b (r : Nat), r < T.rules.length → kindB T (kL b) r = true → e'.rf b r = true → G'.c b r = true) : Cmp T F n K G' e' :=
  ⟨fun r hr hk h0 => up _ _ tag1 (h.c1 r hr hk (by rw [mf] at h0; exact h0)), fun q hq => up _ _ tag1 (h.cf q hq), c2, p3, fun t ht1 ht hu => by rw [cb]; rw [us] at hu; exact h.cb t ht1 ht hu, fun s hs p hp ho => by rw [g1]; rw [rf, cb] at ho; exact h.gr s hs p hp ho, fun t ht1 ht hr => by rw [g2]; rw [rf] at hr; exact h.gw t ht1 ht hr, gc, fun q hq => up _ _ tag3 (h.c3 q hq), fun q hq hK hr => up _ _ tag4 (h.c4 q hq hK (by rw [rf] at hr; exact hr)), fun q hq hK s hs hr hu hc => up _ _ tag4 (h.co q hq hK s hs hr (by rw [us] at hu; exact hu) (by rw [cd] at hc; exact hc)), fun q hq hK f hf hKf => up _ _ tag4 (h.cr q hq hK f hf hKf), fun q hq => up _ _ tag2 (h.q2 q hq), fun q hq => up _ _ tag1 (h.q1 q hq)⟩
theorem upn_iff {g : Bool → Int → Int → Bool} {c b : Bool} {r q s x : Int} : updB g c (mk2 (g c) r q) b s x = true ↔ g b s x = true ∨ (b = c ∧ s = r ∧ x = q) := by
  by_cases eb : b = c
  · subst eb; rw [updB_at, mk2_iff]; simp
  · rw [updB_off eb]; simp [eb]
theorem ref_off {b c : Bool} {r s : Int} (h : ¬ (c = b ∧ s = r)) : (refE e b r).rf c s = e.rf c s := by
  unfold refE
  split
  · rfl
  · show updB e.rf b (upd (e.rf b) r true) c s = e.rf c s
    by_cases ec : c = b
    · subst ec; rw [updB_at, upd_off fun e1 => h ⟨rfl, e1⟩]
    · rw [updB_off ec]
theorem ref_same {b : Bool} {r : Int} : (refE e b r).ms = e.ms ∧ (refE e b r).cd = e.cd ∧ (refE e b r).ob = e.ob ∧ (refE e b r).op = e.op ∧ (refE e b r).cb = e.cb ∧ (refE e b r).mq = e.mq := by
  unfold refE
  split <;> exact ⟨rfl, rfl, rfl, rfl, rfl, rfl⟩
theorem cls_same {b : Bool} {r : Int} : (clsE e b r).ms = e.ms ∧ (clsE e b r).cd = e.cd ∧ (clsE e b r).ob = e.ob ∧ (clsE e b r).rf = e.rf ∧ (clsE e b r).cb = e.cb ∧ (clsE e b r).mq = e.mq := by
  unfold clsE
  split <;> exact ⟨rfl, rfl, rfl, rfl, rfl, rfl⟩
/-- A - of strict proof at a rule that waits for it. -/
theorem Iv.minusS1 (hp : Pf T F n) (hs_ : m) (h : Iv T F n m G e) (hc : Cmp T F n K G e) {r : Nat} {q : Int} (hr : r < T.rules.length) (hk : kindB T (kW false) r = true) (hb : q ∈ bodyM T r) (hq : has e q 2 = true) :
    ∃ G', Iv T F n m G' (minusS1 T e r) ∧ Cmp T F n K G' (minusS1 T e r) ∧ (∀ b s x, G'.n b s x = true ↔ G.n b s x = true ∨ (b = false ∧ s = (r : Int) ∧ x = q)) ∧ G'.a = G.a ∧ G'.f = G.f := by
  have i1 := h.ref (b := false) hr hb hq
  unfold Fa.minusS1
  by_cases hf : e.rf false r = true
  · have e1 : refE e false r = e := by unfold refE; rw [if_pos hf]
    rw [e1] at i1
    rw [if_pos hf]
    exact ⟨_, i1, hc.tem Tem.refl rfl rfl rfl hc.c1, fun b s x => upn_iff, rfl, rfl⟩
  · rw [if_neg hf]
    obtain ⟨hd, ehd, hdn⟩ := head_nat hp hr
    have hrm : (r : Int) ∈ rulesL T (kL false) hd := by rw [← ehd]; exact kind_mem hr hk
    have hn : G.c false r = false := by
      cases hg : G.c false r with
      | false => rfl
      | true => exact absurd (h.s.c false r hg) hf
    have i2 := i1.cls hp (b := false) hdn hrm hn rf_at
    dsimp only
    rw [ehd]
    have hrf : ∀ c s, ¬ (c = false ∧ s = (r : Int)) → (clsE (refE e false r) false hd).rf c s = e.rf c s := fun c s hcs => by rw [cls_same.2.2.2.1]; exact ref_off hcs
    have hms : (clsE (refE e false r) false hd).ms = e.ms := cls_same.1.trans ref_same.1
    have hcd : (clsE (refE e false r) false hd).cd = e.cd := cls_same.2.1.trans ref_same.2.1
    have hob : (clsE (refE e false r) false hd).ob = e.ob := cls_same.2.2.1.trans ref_same.2.2.1
    have hcb : (clsE (refE e false r) false hd).cb = e.cb := cls_same.2.2.2.2.1.trans ref_same.2.2.2.2.1
    have hhas : ∀ z t, has (clsE (refE e false r) false hd) z t = has e z t := fun z t => by unfold has; rw [cls_same.2.2.2.2.2, ref_same.2.2.2.2.2]
    have gc : ∀ b (s : Nat), s < T.rules.length → kindB T (kL b) s = true → (clsE (refE e false r) false hd).rf b s = true → updB G.c false (upd (G.c false) r true) b s = true := fun b s hs hks hfs => by
      by_cases ebs : b = false ∧ (s : Int) = r
      · obtain ⟨rfl, es⟩ := ebs
        rw [updB_at, es, upd_at]
      · rw [hrf b s ebs] at hfs
        have := hc.gc b s hs hks hfs
        by_cases eb : b = false
        · subst eb; rw [updB_at, upd_off fun e1 => ebs ⟨rfl, e1⟩]; exact this
        · rw [updB_off eb]; exact this
    have key : ∀ z : Nat, z < n → (z : Int) ∉ F → (∀ s ∈ rulesL T kS z, (clsE (refE e false r) false hd).rf false s = true) → has e z 2 = true ∨ z = hd ∧ clsB (refE e false r) false hd = true := fun z hz hF hall => by
      by_cases ez : z = hd
      · subst ez
        refine .inr ⟨rfl, decide_eq_true (op_one i1.x hdn hrm hn ?_ fun t ht hne => ?_)⟩
        · exact open_not i1.x (fun _ => hF) fun t ht => by have := hall t ht; rw [cls_same.2.2.2.1] at this; exact this
        · obtain ⟨a, rfl, ha, -, hka⟩ := rule_lt ht
          have h3 := hall a ht
          rw [hrf false a fun e1 => hne e1.2] at h3
          exact hc.gc false a ha hka h3
      · refine .inl (hc.c2 z hz hF fun s hs => ?_)
        have h3 := hall s hs
        obtain ⟨a, rfl, ha, hha, -⟩ := rule_lt hs
        rw [hrf false a fun e1 => ez (by have : a = r := by omega
                                         subst this; omega)] at h3
        exact h3
    have hus : ∀ {e2 : Es}, e2.ms = (clsE (refE e false r) false hd).ms → used e2 = used e := fun h0 => used_ms (h0.trans hms)
    have hp3 : ∀ {e2 : Es}, e2.ms = (clsE (refE e false r) false hd).ms → e2.ob = (clsE (refE e false r) false hd).ob → (∀ z, has e z 3 = true → has e2 z 3 = true) → P3 T n e2 := fun a b c => hc.p3.ms (by rw [a, hms]) (b.trans hob) c
    by_cases hcb2 : clsB (refE e false r) false hd = true
    · rw [if_pos hcb2]
      have hall := cls_all i1.x (b := false) hdn hrm hn (of_decide_eq_true hcb2)
      have hF : (hd : Int) ∉ F := fun hm => by
        have := hall.1
        unfold openZ at this
        rw [Bool.or_eq_false_iff] at this
        simp [hm] at this
      have hm2 : condM T F (Mq n (clsE (refE e false r) false hd)) 2 hd = true := may2 hp hs_ i2.x i2.s hdn hF fun t ht => by
        rw [cls_same.2.2.2.1]
        obtain ⟨a, rfl, ha, -, -⟩ := rule_lt ht
        rcases hall.2 a ht with h5 | h5
        · rw [h5]; exact rf_at
        · exact i1.s.c false a h5
      have t3 := tel_tell i2.y (q := (hd : Int)) tag2
      refine ⟨_, i2.tell tag2 hm2, hc.of (hus t3.ms) (by rw [t3.ms, hms]) (by rw [t3.rf]; funext s; exact hrf true s (by simp)) (t3.cb.trans hcb) (tell_ob.2.1.trans hcd) (fun z t ht hz => t3.up z t ht (by rw [hhas]; exact hz)) rfl rfl (fun z hz hFz hall2 => ?_) (hp3 t3.ms tell_ob.1 fun z hz => t3.up z 3 tag3 (by rw [hhas]; exact hz)) (fun b s hs hks hfs => gc b s hs hks (by rw [t3.rf] at hfs; exact hfs)), fun b s x => upn_iff, rfl, rfl⟩
      rcases key z hz hFz (by rw [t3.rf] at hall2; exact hall2) with h5 | ⟨h5, -⟩
      · exact t3.up _ _ tag2 (by rw [hhas]; exact h5)
      · rw [h5]; exact tell_has i2.y tag2
    · rw [if_neg hcb2]
      refine ⟨_, i2, hc.of (hus rfl) (by rw [hms]) (by funext s; exact hrf true s (by simp)) hcb hcd (fun z t ht hz => by rw [hhas]; exact hz) rfl rfl (fun z hz hFz hall2 => ?_) (hp3 rfl rfl fun z hz => by rw [hhas]; exact hz) gc, fun b s x => upn_iff, rfl, rfl⟩
      rcases key z hz hFz hall2 with h5 | ⟨-, h5⟩
      · rw [hhas]; exact h5
      · exact absurd h5 hcb2
theorem minusS_fold (hp : Pf T F n) (hs_ : m) {q : Int} : ∀ (l : List Int) {G : Gho} {e : Es}, (∀ r ∈ l, r ∈ usersL T false q) → Iv T F n m G e → Cmp T F n K G e → has e q 2 = true →
    ∃ G', Iv T F n m G' (l.foldl (Fa.minusS1 T) e) ∧ Cmp T F n K G' (l.foldl (Fa.minusS1 T) e) ∧ (∀ b s x, G'.n b s x = true ↔ G.n b s x = true ∨ (b = false ∧ s ∈ l ∧ x = q)) ∧ G'.a = G.a ∧ G'.f = G.f := by
  intro l
  induction l with
  | nil => intro G e _ h hc _; exact ⟨G, h, hc, fun b r x => by simp, rfl, rfl⟩
  | cons r0 l ih =>
    intro G e hl h hc hq
    obtain ⟨r, rfl, hr, hk, hb⟩ := user_in (hl r0 List.mem_cons_self)
    obtain ⟨G1, i1, c1, n1, a1, f1⟩ := h.minusS1 hp hs_ hc hr hk hb hq
    obtain ⟨G2, i2, c2, n2, a2, f2⟩ := ih (fun s hs => hl s (List.mem_cons_of_mem _ hs)) i1 c1 (((Gro.refl h.y).minusS1 (T := T) (r := r)).up _ _ tag2 hq)
    refine ⟨G2, i2, c2, fun b s x => ?_, a2.trans a1, f2.trans f1⟩
    rw [n2, n1]
    simp only [List.mem_cons]
    constructor
    · rintro ((h | ⟨h1, h2, h3⟩) | ⟨h1, h2, h3⟩)
      · exact .inl h
      · exact .inr ⟨h1, .inl h2, h3⟩
      · exact .inr ⟨h1, .inr h2, h3⟩
    · rintro (h | ⟨h1, h2 | h2, h3⟩)
      · exact .inl (.inl h)
      · exact .inl (.inr ⟨h1, h2, h3⟩)
      · exact .inr ⟨h1, h2, h3⟩
/-- A firm foe cleared. -/
theorem clr_fold (hp : Pf T F n) (hs_ : m) {q : Nat} (hqn : q < n) (hfm : firmB T F q = true) : ∀ (l : List Int) {G : Gho} {e : Es}, l.Nodup → (∀ p ∈ l, p ∈ rivalsL T q ∧ G.f q p = false) → Iv T F n m G e → Cmp T F n K G e → has e q 2 = true →
    ∃ G', Iv T F n m G' (l.foldl (clr1 T) e) ∧ Cmp T F n K G' (l.foldl (clr1 T) e) ∧ (∀ f p, G'.f f p = true ↔ G.f f p = true ∨ (f = (q : Int) ∧ p ∈ l)) ∧ G'.a = G.a ∧ G'.n = G.n := by
  intro l
  induction l with
  | nil => intro G e _ _ h hc _; exact ⟨G, h, hc, fun f p => by simp, rfl, rfl⟩
  | cons p0 l ih =>
    intro G e hnd hl h hc hq
    obtain ⟨hn1, hn2⟩ := List.nodup_cons.1 hnd
    obtain ⟨hpr, hg⟩ := hl p0 List.mem_cons_self
    obtain ⟨p00, p01⟩ := rival_in hp hqn hpr
    obtain ⟨p, rfl⟩ := Int.eq_ofNat_of_zero_le p00
    obtain ⟨hf2, ht⟩ := mem_rival.1 hpr
    have i1 := h.clearF hp (show p < n by omega) (foe_sym hp (by omega) (by omega) hf2) hfm hg ht hq
    obtain ⟨i2, t2, o2, c2, p2, v2⟩ := i1.prove hp hs_ (show p < n by omega)
    have k1 : Tel e (clearE e p) := ⟨rfl, rfl, rfl, rfl, fun _ _ _ hz => hz, [], by simp [clearE]⟩
    have t3 := k1.trans t2
    have cc : Cmp T F n K { G with f := mk2 G.f q p } (proveE T (clearE e p) p) := hc.of (used_ms t3.ms) (by rw [t3.ms]) (by rw [t3.rf]) t3.cb (by rw [c2]; rfl) t3.up rfl rfl (fun z hz hF hr => t3.up _ _ tag2 (hc.c2 z hz hF (by rw [t3.rf] at hr; exact hr))) (fun z hz hu h0 => by
      rw [used_ms t3.ms] at hu
      rw [o2] at h0
      by_cases ez : z = p
      · subst ez; exact v2 hu h0
      · refine t3.up _ _ tag3 (hc.p3 z hz hu ?_)
        have h0 : upd e.ob p (dec (e.ob p)) z = 0 := h0
        rw [upd_off (by omega)] at h0
        exact h0) fun b s hs hk hf => by rw [t3.rf] at hf; exact hc.gc b s hs hk hf
    obtain ⟨G2, j2, d2, f2, a2, n2⟩ := ih (e := clr1 T e p) hn2 (fun z hz => ⟨(hl z (List.mem_cons_of_mem _ hz)).1, by
      cases hg2 : mk2 G.f q p q z with
      | false => exact hg2
      | true =>
        rcases mk2_iff.1 hg2 with h5 | ⟨-, h5⟩
        · rw [(hl z (List.mem_cons_of_mem _ hz)).2] at h5; cases h5
        · exact absurd (h5 ▸ hz) hn1⟩) i2 cc (t3.up _ _ tag2 hq)
    refine ⟨G2, j2, d2, fun f z => ?_, a2, n2⟩
    rw [f2]
    show (mk2 G.f q p f z = true ∨ _) ↔ _
    rw [mk2_iff]
    simp only [List.mem_cons]
    constructor
    · rintro ((h | ⟨h1, h2⟩) | ⟨h1, h2⟩)
      · exact .inl h
      · exact .inr ⟨h1, .inl h2⟩
      · exact .inr ⟨h1, .inr h2⟩
    · rintro (h | ⟨h1, h2 | h2⟩)
      · exact .inl (.inl h)
      · exact .inl (.inr ⟨h1, h2⟩)
      · exact .inr ⟨h1, h2⟩
theorem Iv.disprove (hp : Pf T F n) (hs_ : m) (h : Iv T F n m G e) {q : Nat} (hq : q < n) : Iv T F n m G (disproveE T e q) ∧ Tem e (disproveE T e q) ∧ (disproveE T e q).ms = e.ms ∧ ((forsB T e q || refuB T e q || overB T e q) = true → has e q 2 = true → has (disproveE T e q) q 4 = true) := by
  unfold disproveE
  by_cases hc : (forsB T e q || refuB T e q || overB T e q) = true
  · rw [if_pos hc]
    refine ⟨h.lose fun h2 => ?_, tem_lose h.y, lose_ms, fun _ h2 => lose_has h.y h2⟩
    have h2m := h.s.mm q 2 (by omega) (by omega) tag2 h2
    rw [Bool.or_eq_true, Bool.or_eq_true] at hc
    have fors : (∀ r ∈ rulesL T kT q, e.rf true r = true) → condM T F (Mq n e) 4 q = true := fun hall => may4 hp hs_ hq h2m (.inl fun r hr => by
      obtain ⟨a, rfl, ha, -, -⟩ := rule_lt hr
      exact h.s.part hp h.x (b := true) ha (hall a hr))
    rcases hc with (hc | hc) | hc
    · refine fors fun r hr => ?_
      unfold forsB at hc
      rw [Bool.not_eq_true', List.any_eq_false] at hc
      have := hc r hr
      unfold dropped at this
      simpa using this
    · unfold refuB at hc
      obtain ⟨f, hf, hf1⟩ := List.any_eq_true.1 hc
      obtain ⟨f0, f1⟩ := hp.foe q hq f hf
      exact may4 hp hs_ hq h2m (.inr (.inl ⟨f, hf, h.s.mm f 1 f0 f1 tag1 hf1⟩))
    · unfold overB at hc
      obtain ⟨f, hf, hf1⟩ := List.any_eq_true.1 hc
      obtain ⟨s, hs2, hs3⟩ := List.any_eq_true.1 hf1
      rw [Bool.and_eq_true] at hs3
      obtain ⟨a, rfl, ha, hha, -⟩ := rule_lt hs2
      by_cases ht : rulesL T kT (q : Int) = []
      · exact fors fun r hr => by rw [ht] at hr; cases hr
      · exact h.over hp hs_ hq ha (mem_rival.2 ⟨by rw [hha]; exact foe_sym hp (by omega) (by omega) hf, ht⟩) hs3.1 (of_decide_eq_true hs3.2) h2
  · rw [if_neg hc]
    exact ⟨h, Tem.refl, rfl, fun h2 => absurd h2 hc⟩
end
end Go.Proofs.YtcobmbclhhimjaaGreat.Fa
/- The steps of what is defeasible. PLAIN. -/
namespace Go.Proofs.YtcobmbclhhimjaaGreat.Fa

section
variable {T : Th} {F : List Int} {n k : Nat} {m : Prop} {G G' : Gho} {e e' : Es} {K : Int → Int → Bool}
/-- A + at a rule that waits for it. -/
theorem Iv.plusD1 (hp : Pf T F n) (hs_ : m) (h : Iv T F n m G e) (hc : Cmp T F n K G e) {r : Nat} {q : Int} (hr : r < T.rules.length) (hb : q ∈ bodyM T r) (hn : G.a true r q = false) (hq : has e q 3 = true) :
    ∃ G', Iv T F n m G' (plusD1 T e r) ∧ Cmp T F n K G' (plusD1 T e r) ∧ (∀ b s x, G'.a b s x = true ↔ G.a b s x = true ∨ (b = true ∧ s = (r : Int) ∧ x = q)) ∧ G'.n = G.n ∧ G'.f = G.f := by
  have i1 := h.met hp (b := true) hr (kA_kind hr) hb hn hq
  have hus : ∀ s, s ≠ (r : Int) → used (metE e true r) s = used e s := fun s hs => by
    unfold Fa.used
    show decide (updB e.ms true (upd (e.ms true) r (dec (e.ms true r))) true s = 0) = _
    rw [updB_at, upd_off hs]
  have hmf : (metE e true r).ms false = e.ms false := by
    show updB e.ms true (upd (e.ms true) r (dec (e.ms true r))) false = e.ms false
    rw [updB_off (by decide)]
  have hur : used e r = false := by
    cases hu : used e r with
    | false => rfl
    | true => have := (h.x.used hr).1 hu q hb; rw [hn] at this; cases this
  unfold Fa.plusD1
  dsimp only
  by_cases h0 : (metE e true r).ms true r = 0
  · rw [if_pos h0]
    have hu1 : used (metE e true r) r = true := decide_eq_true h0
    have any_off : ∀ z : Nat, (r : Int) ∉ rulesL T kT z → (rulesL T kT z).any (used (metE e true r)) = true → (rulesL T kT z).any (used e) = true := fun z hz ha => by
      obtain ⟨t, ht, hut⟩ := List.any_eq_true.1 ha
      exact List.any_eq_true.2 ⟨t, ht, by rw [← hus t fun e1 => hz (e1 ▸ ht)]; exact hut⟩
    obtain ⟨G2, i2, p2, g2, m2, f2, d2, o2, k2, u2, -, b2, nb2, tr2, r2⟩ := i1.use hp hs_ hr hu1 (fun z hz hne ha hz0 => hc.p3 z hz (any_off z (fun hm => hne (by rw [(mem_kind hm).2.1])) ha) hz0) (fun ht z hz ha hz0 => hc.p3 z hz (any_off z (fun hm => by rw [show teamB T r = kindB T kT r from rfl, (mem_kind hm).2.2] at ht; cases ht) ha) hz0)
    have us2 : ∀ s, s ≠ (r : Int) → used (useE T (metE e true r) r) s = true → used e s = true := fun s hs h3 => by
      rw [used_ms m2, hus s hs] at h3; exact h3
    refine ⟨G2, i2, ⟨fun s hs hk h3 => u2 _ _ tag1 (hc.c1 s hs hk (by rw [m2, hmf] at h3; exact h3)), fun z hz => u2 _ _ tag1 (hc.cf z hz), fun z hz hF hall => u2 _ _ tag2 (hc.c2 z hz hF (by rw [f2] at hall; exact hall)), p2, fun t ht1 ht hut s hs => ?_, r2 hc.gr, fun t ht1 ht hf s hs => by rw [g2.w]; rw [f2] at hf; exact hc.gw t ht1 ht hf s hs, fun b s hs hk hf => by rw [g2.c]; rw [f2] at hf; exact hc.gc b s hs hk hf, fun z hz => u2 _ _ tag3 (hc.c3 z hz), fun z hz hK hall => u2 _ _ tag4 (hc.c4 z hz hK (by rw [f2] at hall; exact hall)), fun z hz hK s hs hrv hut hcd => ?_, fun z hz hK f hf hKf => u2 _ _ tag4 (hc.cr z hz hK f hf hKf), fun z hz => u2 _ _ tag2 (hc.q2 z hz), fun z hz => u2 _ _ tag1 (hc.q1 z hz)⟩, fun b s x => by rw [g2.a]; exact upn_iff, g2.n, g2.f⟩
    · by_cases et : (t : Int) = r
      · have : t = r := by omega
        subst this
        exact nb2 ht s hs
      · exact b2 _ _ (hc.cb t ht1 ht (us2 t et hut) s hs)
    · rw [d2] at hcd
      by_cases et : (s : Int) = r
      · have : s = r := by omega
        subst this
        exact tr2 _ hrv hcd (hc.q2 _ hK)
      · exact u2 _ _ tag4 (hc.co z hz hK s hs hrv (us2 s et hut) hcd)
  · rw [if_neg h0]
    have us : used (metE e true r) = used e := by
      funext s
      by_cases es : s = (r : Int)
      · rw [es, hur]; exact decide_eq_false h0
      · exact hus s es
    refine ⟨_, i1, hc.of us hmf rfl rfl rfl (fun _ _ _ hz => hz) rfl rfl hc.c2 (fun z hz ha hz0 => hc.p3 z hz (by rw [us] at ha; exact ha) hz0) hc.gc, fun b s x => upn_iff, rfl, rfl⟩
theorem plusD_fold (hp : Pf T F n) (hs_ : m) {q : Int} : ∀ (l : List Int) {G : Gho} {e : Es}, l.Nodup → (∀ r ∈ l, r ∈ usersL T true q ∧ G.a true r q = false) → Iv T F n m G e → Cmp T F n K G e → has e q 3 = true →
    ∃ G', Iv T F n m G' (l.foldl (Fa.plusD1 T) e) ∧ Cmp T F n K G' (l.foldl (Fa.plusD1 T) e) ∧ (∀ b s x, G'.a b s x = true ↔ G.a b s x = true ∨ (b = true ∧ s ∈ l ∧ x = q)) ∧ G'.n = G.n ∧ G'.f = G.f := by
  intro l
  induction l with
  | nil => intro G e _ _ h hc _; exact ⟨G, h, hc, fun b r x => by simp, rfl, rfl⟩
  | cons r0 l ih =>
    intro G e hnd hl h hc hq
    obtain ⟨hn1, hn2⟩ := List.nodup_cons.1 hnd
    obtain ⟨r, rfl, hr, hk, hb⟩ := user_in (hl r0 List.mem_cons_self).1
    obtain ⟨G1, i1, c1, a1, n1, f1⟩ := h.plusD1 hp hs_ hc hr hb (hl r List.mem_cons_self).2 hq
    have hg : Gro e (Fa.plusD1 T e r) := by
      unfold Fa.plusD1
      dsimp only
      split
      · exact (Gro.refl h.y).met.use
      · exact (Gro.refl h.y).met
    obtain ⟨G2, i2, c2, a2, n2, f2⟩ := ih hn2 (fun s hs => ⟨(hl s (List.mem_cons_of_mem _ hs)).1, by
      cases hg : G1.a true s q with
      | false => rfl
      | true =>
        rcases (a1 true s q).1 hg with h3 | ⟨-, h3, -⟩
        · rw [(hl s (List.mem_cons_of_mem _ hs)).2] at h3; cases h3
        · exact absurd (h3 ▸ hs) hn1⟩) i1 c1 (hg.up _ _ tag3 hq)
    refine ⟨G2, i2, c2, fun b s x => ?_, n2.trans n1, f2.trans f1⟩
    rw [a2, a1]
    simp only [List.mem_cons]
    constructor
    · rintro ((h | ⟨h1, h2, h3⟩) | ⟨h1, h2, h3⟩)
      · exact .inl h
      · exact .inr ⟨h1, .inl h2, h3⟩
      · exact .inr ⟨h1, .inr h2, h3⟩
    · rintro (h | ⟨h1, h2 | h2, h3⟩)
      · exact .inl (.inl h)
      · exact .inl (.inr ⟨h1, h2, h3⟩)
      · exact .inr ⟨h1, h2, h3⟩
/-- A - at a rule that waits for it. -/
theorem Iv.minusD1 (hp : Pf T F n) (hs_ : m) (h : Iv T F n m G e) (hc : Cmp T F n K G e) {r : Nat} {q : Int} (hr : r < T.rules.length) (hb : q ∈ bodyM T r) (hq : has e q 4 = true) :
    ∃ G', Iv T F n m G' (minusD1 T e r) ∧ Cmp T F n K G' (minusD1 T e r) ∧ (∀ b s x, G'.n b s x = true ↔ G.n b s x = true ∨ (b = true ∧ s = (r : Int) ∧ x = q)) ∧ G'.a = G.a ∧ G'.f = G.f := by
  have i1 := h.ref (b := true) hr hb hq
  unfold Fa.minusD1
  by_cases hf : e.rf true r = true
  · have e1 : refE e true r = e := by unfold refE; rw [if_pos hf]
    rw [e1] at i1
    rw [if_pos hf]
    exact ⟨_, i1, hc.tem Tem.refl rfl rfl rfl hc.c1, fun b s x => upn_iff, rfl, rfl⟩
  · rw [if_neg hf]
    have hcbe : (refE e true r).cb = e.cb := ref_same.2.2.2.2.1
    have hh1 : ∀ z t, has (refE e true r) z t = has e z t := fun z t => ref_has
    have p1 : P3 T n (refE e true r) := hc.p3.ms (by rw [ref_same.1]) ref_same.2.2.1 fun z hz => by rw [hh1]; exact hz
    obtain ⟨G2, i2, t2, p2, a2, n2, f2, r2, w2, c2, cf2, rr2, wc2, op2, cd2, tr2⟩ := i1.drop hp hs_ p1 hr rf_at (fun z hz hcz => by
        cases hg : G.r r z with
        | false => rfl
        | true =>
          rcases h.s.r r z hg with h5 | h5
          · exact absurd h5 hf
          · rw [hcbe, h5] at hcz; cases hcz) (fun s hs => by
        cases hg : G.w r s with
        | false => rfl
        | true => exact absurd (h.s.w r s hg) hf) (by
        cases hg : G.c true r with
        | false => rfl
        | true => exact absurd (h.s.c true r hg) hf)
    have up : ∀ z t, isTag t → has e z t = true → has (dropE T (refE e true r) r) z t = true := fun z t ht hz => t2.up z t ht (by rw [hh1]; exact hz)
    have ms' : (dropE T (refE e true r) r).ms = e.ms := t2.ms.trans ref_same.1
    have us' : used (dropE T (refE e true r) r) = used e := used_ms ms'
    have cb' : (dropE T (refE e true r) r).cb = e.cb := t2.cb.trans hcbe
    have rf' : ∀ b s, ¬ (b = true ∧ s = (r : Int)) → (dropE T (refE e true r) r).rf b s = e.rf b s := fun b s hbs => by rw [t2.rf]; exact ref_off hbs
    obtain ⟨hd, ehd, hdn⟩ := head_nat hp hr
    refine ⟨G2, i2, ⟨fun s hs hk h3 => up _ _ tag1 (hc.c1 s hs hk (by rw [ms'] at h3; exact h3)), fun z hz => up _ _ tag1 (hc.cf z hz), fun z hz hF hall => up _ _ tag2 (hc.c2 z hz hF fun s hs => by have := hall s hs; rw [rf' false s (by simp)] at this; exact this), p2, fun t ht1 ht hut s hs => by rw [cb']; rw [us'] at hut; exact hc.cb t ht1 ht hut s hs, fun s hs z hz ho => ?_, fun t ht1 ht hft s hs => ?_, fun b s hs hk hfs => ?_, fun z hz => up _ _ tag3 (hc.c3 z hz), fun z hz hK hall => ?_, fun z hz hK s hs hrv hut hcd => ?_, fun z hz hK f hf2 hKf => up _ _ tag4 (hc.cr z hz hK f hf2 hKf), fun z hz => up _ _ tag2 (hc.q2 z hz), fun z hz => up _ _ tag1 (hc.q1 z hz)⟩, fun b s x => by rw [n2]; exact upn_iff, a2, f2⟩
    · by_cases es : (s : Int) = r
      · have : s = r := by omega
        subst this
        cases hcz : e.cb s z with
        | false => exact rr2 z hz (by rw [hcbe]; exact hcz)
        | true => exact r2 _ _ (hc.gr s hs z hz (.inr hcz))
      · rw [rf' true s fun e1 => es e1.2, cb'] at ho
        exact r2 _ _ (hc.gr s hs z hz ho)
    · by_cases es : (t : Int) = r
      · have : t = r := by omega
        subst this
        exact (wc2 ht).1 s hs
      · rw [rf' true t fun e1 => es e1.2] at hft
        exact w2 _ _ (hc.gw t ht1 ht hft s hs)
    · cases b with
      | false =>
        rw [cf2]
        rw [rf' false s (by simp)] at hfs
        exact hc.gc false s hs hk hfs
      | true =>
        by_cases es : (s : Int) = r
        · have : s = r := by omega
          subst this
          exact (wc2 hk).2
        · rw [rf' true s fun e1 => es e1.2] at hfs
          exact c2 _ (hc.gc true s hs hk hfs)
    · by_cases hm : (r : Int) ∈ rulesL T kT z
      · obtain ⟨-, hhz, hkt⟩ := mem_kind hm
        have ehz : (z : Int) = headOf T r := hhz.symm
        have ht : teamB T r = true := hkt
        rw [ehz]
        refine op2 ht ?_ (by rw [hh1, ← ehz]; exact hc.q2 z hK)
        rw [hhz]
        refine op_one i1.x (b := true) hz hm (by
          show G.c true r = false
          cases hg : G.c true r with
          | false => rfl
          | true => exact absurd (h.s.c true r hg) hf) (open_not i1.x (fun h5 => by cases h5) fun t htm => by rw [← t2.rf]; exact hall t htm) fun t htm hne => ?_
        obtain ⟨a, rfl, ha, -, hka⟩ := rule_lt htm
        have h3 := hall a htm
        rw [rf' true a fun e1 => hne e1.2] at h3
        exact hc.gc true a ha hka h3
      · refine up _ _ tag4 (hc.c4 z hz hK fun t htm => ?_)
        have h3 := hall t htm
        rw [rf' true t fun e1 => hm (e1.2 ▸ htm)] at h3
        exact h3
    · rw [us'] at hut
      by_cases hcase : (z : Int) ≠ headOf T r ∨ (s : Int) ∉ row T.beats r ∨ teamB T r = false
      · rw [cd2 s z hcase, ref_same.2.1] at hcd
        exact up _ _ tag4 (hc.co z hz hK s hs hrv hut hcd)
      · have h5 : (z : Int) = headOf T r := Classical.byContradiction fun h5 => hcase (.inl h5)
        have h6 : (s : Int) ∈ row T.beats r := Classical.byContradiction fun h6 => hcase (.inr (.inl h6))
        have h7 : teamB T r = true := by cases h7 : teamB T r; exact absurd (.inr (.inr h7)) hcase; rfl
        rw [h5] at hcd hK ⊢
        exact tr2 h7 s h6 hcd (by rw [used_ms ref_same.1]; exact hut) (by rw [hh1]; exact hc.q2 _ hK)
theorem minusD_fold (hp : Pf T F n) (hs_ : m) {q : Int} : ∀ (l : List Int) {G : Gho} {e : Es}, (∀ r ∈ l, r ∈ usersL T true q) → Iv T F n m G e → Cmp T F n K G e → has e q 4 = true →
    ∃ G', Iv T F n m G' (l.foldl (Fa.minusD1 T) e) ∧ Cmp T F n K G' (l.foldl (Fa.minusD1 T) e) ∧ (∀ b s x, G'.n b s x = true ↔ G.n b s x = true ∨ (b = true ∧ s ∈ l ∧ x = q)) ∧ G'.a = G.a ∧ G'.f = G.f := by
  intro l
  induction l with
  | nil => intro G e _ h hc _; exact ⟨G, h, hc, fun b r x => by simp, rfl, rfl⟩
  | cons r0 l ih =>
    intro G e hl h hc hq
    obtain ⟨r, rfl, hr, hk, hb⟩ := user_in (hl r0 List.mem_cons_self)
    obtain ⟨G1, i1, c1, n1, a1, f1⟩ := h.minusD1 hp hs_ hc hr hb hq
    have hg : Gro e (Fa.minusD1 T e r) := by
      unfold Fa.minusD1
      split
      · exact Gro.refl h.y
      · exact (Gro.refl h.y).ref.drop
    obtain ⟨G2, i2, c2, n2, a2, f2⟩ := ih (fun s hs => hl s (List.mem_cons_of_mem _ hs)) i1 c1 (hg.up _ _ tag4 hq)
    refine ⟨G2, i2, c2, fun b s x => ?_, a2.trans a1, f2.trans f1⟩
    rw [n2, n1]
    simp only [List.mem_cons]
    constructor
    · rintro ((h | ⟨h1, h2, h3⟩) | ⟨h1, h2, h3⟩)
      · exact .inl h
      · exact .inr ⟨h1, .inl h2, h3⟩
      · exact .inr ⟨h1, .inr h2, h3⟩
    · rintro (h | ⟨h1, h2 | h2, h3⟩)
      · exact .inl (.inl h)
      · exact .inl (.inr ⟨h1, h2, h3⟩)
      · exact .inr ⟨h1, h2, h3⟩
end
end Go.Proofs.YtcobmbclhhimjaaGreat.Fa
