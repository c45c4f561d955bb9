/- What a run adds alone; all that is due is told. PLAIN. -/
import Derived.Test.YthifoamnmhlghaaGreatGz
namespace Go.Proofs.YthifoamnmhlghaaGreat.Fa

section
variable {T : Th} {F : List Int} {n k : Nat} {m : List Int} {G G' : Gho} {e e' : Es} {K : Int → Int → Bool}
/-- More is told, and nothing else befalls marks and what is told. -/
structure Gro (e e' : Es) : Prop where
  tk : e'.tk = e.tk
  up : ∀ z t, isTag t → has e z t = true → has e' z t = true
  td : ∃ l, e'.td = e.td ++ l
  by_ : ∀ q, isByte (e'.mq q)
  sm : (∀ q, e.mq q < 16) → ∀ q, e'.mq q < 16
  tdd : (∀ z t, isTag t → has e z t = true → (z, t) ∈ e.td) → ∀ z t, isTag t → has e' z t = true → (z, t) ∈ e'.td
theorem Gro.refl (h : ∀ q, isByte (e.mq q)) : Gro e e := ⟨rfl, fun _ _ _ h => h, ⟨[], by simp⟩, h, fun h => h, fun h => h⟩
theorem Gro.trans {e2 : Es} (h : Gro e e') (h2 : Gro e' e2) : Gro e e2 := by
  obtain ⟨l, hl⟩ := h.td
  obtain ⟨l2, hl2⟩ := h2.td
  exact ⟨h2.tk.trans h.tk, fun z t ht hz => h2.up z t ht (h.up z t ht hz), ⟨l ++ l2, by rw [hl2, hl, List.append_assoc]⟩, h2.by_, fun h0 => h2.sm (h.sm h0), fun h0 => h2.tdd (h.tdd h0)⟩
theorem Gro.tell (h : Gro e e') {q t : Int} (ht : isTag t) : Gro e (tell e' q t) := by
  refine h.trans ?_
  have key : ∀ z u, isTag u → hb (upd e'.mq q (orB (e'.mq q) t) z) u = (has e' z u || decide (z = q ∧ t = u)) := fun z u hu => by
    by_cases ez : z = q
    · subst ez
      rw [upd_at, (or_facts (h.by_ z) ht hu).1]
      simp [has]
    · rw [upd_off ez]
      simp [ez, has]
  unfold Fa.tell
  split
  · exact Gro.refl h.by_
  · refine ⟨rfl, fun z u hu hz => ?_, ⟨[(q, t)], rfl⟩, fun z => ?_, fun hs z => ?_, fun hm z u hu hz => ?_⟩
    · show hb (upd e'.mq q (orB (e'.mq q) t) z) u = true
      rw [key z u hu, hz]
      rfl
    · show isByte (upd e'.mq q (orB (e'.mq q) t) z)
      by_cases ez : z = q
      · subst ez; rw [upd_at]; exact (or_facts (h.by_ z) ht ht).2.1
      · rw [upd_off ez]; exact h.by_ z
    · show upd e'.mq q (orB (e'.mq q) t) z < 16
      by_cases ez : z = q
      · subst ez; rw [upd_at]; exact (or_facts (h.by_ z) ht ht).2.2 (hs z)
      · rw [upd_off ez]; exact hs z
    · have hz : hb (upd e'.mq q (orB (e'.mq q) t) z) u = true := hz
      show (z, u) ∈ e'.td ++ [(q, t)]
      rw [key z u hu, Bool.or_eq_true] at hz
      rcases hz with hz | hz
      · exact List.mem_append_left _ (hm z u hu hz)
      · obtain ⟨rfl, rfl⟩ := of_decide_eq_true hz
        simp
theorem Gro.same {e2 : Es} (h : Gro e e') (h1 : e2.td = e'.td) (h2 : e2.mq = e'.mq) (h3 : e2.tk = e'.tk) : Gro e e2 := by
  have hh : ∀ z t, has e2 z t = has e' z t := fun z t => by unfold has; rw [h2]
  obtain ⟨l, hl⟩ := h.td
  exact ⟨h3.trans h.tk, fun z t ht hz => by rw [hh]; exact h.up z t ht hz, ⟨l, by rw [h1, hl]⟩, fun q => by rw [h2]; exact h.by_ q, fun hs q => by rw [h2]; exact h.sm hs q, fun hm z t ht hz => by rw [h1]; rw [hh] at hz; exact h.tdd hm z t ht hz⟩
theorem Gro.fold {α : Type} {f : Es → α → Es} : ∀ {l : List α} {e' : Es}, Gro e e' → (∀ x ∈ l, ∀ e2, Gro e e2 → Gro e (f e2 x)) → Gro e (l.foldl f e')
  | [], _, h, _ => h
  | x :: l, _, h, hf => Gro.fold (l := l) (hf x List.mem_cons_self _ h) fun y hy => hf y (List.mem_cons_of_mem _ hy)
theorem Gro.lose (h : Gro e e') {q : Int} : Gro e (loseE e' q) := by
  unfold loseE; split
  · exact h.tell tag4
  · exact h
theorem Gro.clear (h : Gro e e') {q : Int} : Gro e (clearE e' q) := h.same rfl rfl rfl
theorem Gro.met (h : Gro e e') {b : Bool} {r : Int} : Gro e (metE e' b r) := h.same rfl rfl rfl
theorem Gro.ref (h : Gro e e') {b : Bool} {r : Int} : Gro e (refE e' b r) := by unfold refE; split; exact h; exact h.same rfl rfl rfl
theorem Gro.cls (h : Gro e e') {b : Bool} {r : Int} : Gro e (clsE e' b r) := by unfold clsE; split; exact h.same rfl rfl rfl; exact h
theorem Gro.prove (h : Gro e e') {q : Int} : Gro e (proveE T e' q) := by
  unfold proveE; split
  · exact h.tell tag3
  · exact h
theorem Gro.disprove (h : Gro e e') {q : Int} : Gro e (disproveE T e' q) := by
  unfold disproveE; split
  · exact h.lose
  · exact h
theorem Gro.beat1 (h : Gro e e') {q s : Int} : Gro e (beat1 q e' s) := by
  unfold Fa.beat1
  split
  · exact h
  · dsimp only
    split
    · exact h.same rfl rfl rfl
    · exact h.same rfl rfl rfl
theorem Gro.defend (h : Gro e e') {r : Int} : Gro e (defendE T e' r) := Gro.fold h fun _ _ _ h => h.beat1
theorem Gro.with1 (h : Gro e e') {q s : Int} : Gro e (with1 q e' s) := by
  unfold Fa.with1
  dsimp only
  have h1 : Gro e { e' with cd := upd e'.cd s (upd (e'.cd s) q (dec (e'.cd s q))), up := inc e'.up } := h.same rfl rfl rfl
  split
  · exact h1.lose
  · exact h1
theorem Gro.withE (h : Gro e e') {r : Int} : Gro e (withE T e' r) := Gro.fold h fun _ _ _ h => h.with1
theorem Gro.use (h : Gro e e') {r : Int} : Gro e (useE T e' r) := by
  have h1 : Gro e ((rivalsL T (headOf T r)).foldl (use1 r) e') := Gro.fold h fun p _ e2 h => by
    unfold use1
    split
    · exact h.lose
    · exact h
  unfold useE
  dsimp only
  split
  · split
    · exact h1.defend.tell tag3
    · exact h1.defend
  · exact h1
theorem Gro.drop (h : Gro e e') {r : Int} : Gro e (dropE T e' r) := by
  have h1 : Gro e ((rivalsL T (headOf T r)).foldl (drop1 T r) e') := Gro.fold h fun p _ e2 h => by
    unfold drop1
    split
    · exact h
    · exact h.clear.prove
  unfold dropE
  dsimp only
  split
  · split
    · exact h1.withE.cls.lose
    · exact h1.withE.cls
  · exact h1
theorem Gro.plusS (h : Gro e e') {q : Int} : Gro e (plusSE T e' q) := by
  unfold plusSE
  refine Gro.fold (Gro.fold (h.tell tag3) fun r _ e2 h => ?_) fun p _ e2 h => h.lose
  unfold Fa.plusS1
  dsimp only
  split
  · exact h.met.tell tag1
  · exact h.met
theorem Gro.minusS1 (h : Gro e e') {r : Int} : Gro e (minusS1 T e' r) := by
  unfold Fa.minusS1
  dsimp only
  split
  · exact h
  · split
    · exact h.ref.cls.tell tag2
    · exact h.ref.cls
theorem Gro.minusS (h : Gro e e') {q : Int} : Gro e (minusSE T F e' q) := by
  unfold minusSE
  dsimp only
  have h1 : Gro e ((usersL T false q).foldl (Fa.minusS1 T) e') := Gro.fold h fun r _ e2 h => h.minusS1
  refine Gro.disprove ?_
  split
  · exact Gro.fold h1 fun p _ e2 h => h.clear.prove
  · exact h1
theorem Gro.plusD (h : Gro e e') {q : Int} : Gro e (plusDE T e' q) := by
  unfold plusDE
  refine Gro.fold h fun r _ e2 h => ?_
  unfold plusD1
  dsimp only
  split
  · exact h.met.use
  · exact h.met
theorem Gro.minusD (h : Gro e e') {q : Int} : Gro e (minusDE T e' q) := by
  unfold minusDE
  refine Gro.fold h fun r _ e2 h => ?_
  unfold minusD1
  split
  · exact h
  · exact h.ref.drop
theorem Gro.does (h : Gro e e') {q t : Int} : Gro e (doesE T F e' q t) := by
  unfold doesE
  split
  · exact h.plusS
  · split
    · exact h.minusS
    · split
      · exact h.plusD
      · exact h.minusD
theorem Gro.bare (h : Gro e e') {j : Nat} : Gro e (bareE T j e') := by
  unfold bareE
  refine Gro.fold h fun r _ e2 h => ?_
  unfold bare1
  split
  · exact h.defend
  · exact h
theorem Gro.begin (h : Gro e e') {j : Nat} : Gro e (beginE T F j e') := by
  unfold beginE
  refine Gro.fold (Gro.fold h fun q _ e2 h => ?_) fun q _ e2 h => ?_
  · unfold beg1
    split
    · exact h.tell tag2
    · split
      · exact h.tell tag1
      · exact h
  · unfold beg2
    refine Gro.disprove (Gro.prove ?_)
    split
    · exact h.tell tag3
    · exact h

/-- All that is due is told: by counters at any time, by what is taken (K) besides. -/
structure Cmp (T : Th) (F : List Int) (n : Nat) (K : Int → Int → Bool) (G : Gho) (e : Es) : Prop where
  c1 : ∀ r : Nat, r < T.rules.length → kindB T kS r = true → e.ms false r = 0 → has e (headOf T r) 1 = true
  cf : ∀ q ∈ F, has e q 1 = true
  c2 : ∀ q : Nat, q < n → (q : Int) ∉ F → (∀ r ∈ rulesL T kS q, e.rf false r = true) → has e q 2 = true
  p3 : P3 T n e
  cb : ∀ t : Nat, t < T.rules.length → teamB T t = true → used e t = true → ∀ s ∈ row T.beats t, e.cb s (headOf T t) = true
  gr : Grr T G e
  gw : ∀ t : Nat, t < T.rules.length → teamB T t = true → e.rf true t = true → ∀ s ∈ row T.beats t, G.w t s = true
  gc : ∀ b (r : Nat), r < T.rules.length → kindB T (kL b) r = true → e.rf b r = true → G.c b r = true
  c3 : ∀ q, K q 1 = true → has e q 3 = true
  c4 : ∀ q : Nat, q < n → K q 2 = true → (∀ r ∈ rulesL T kT q, e.rf true r = true) → has e q 4 = true
  co : ∀ q : Nat, q < n → K q 2 = true → ∀ s : Nat, s < T.rules.length → (q : Int) ∈ rivalsL T (headOf T s) → used e s = true → e.cd s q = 0 → has e q 4 = true
  cr : ∀ q : Nat, q < n → K q 2 = true → ∀ f ∈ row T.foes q, K f 1 = true → has e q 4 = true
  q2 : ∀ q, K q 2 = true → has e q 2 = true
  q1 : ∀ q, K q 1 = true → has e q 1 = true
/-- Rules refuted and beaten, clashes, obstacles and used rules as they were. -/
theorem Cmp.tem (h : Cmp T F n K G e) (t : Tem e e') (g1 : G'.r = G.r) (g2 : G'.w = G.w) (g3 : G'.c = G.c) (hc1 : ∀ r : Nat, r < T.rules.length → kindB T kS r = true → e'.ms false r = 0 → has e' (headOf T r) 1 = true) : Cmp T F n K G' e' := by
  have hu : used e' = used e := by funext r; unfold Fa.used; rw [t.mt]
  refine ⟨hc1, fun q hq => t.up _ _ tag1 (h.cf q hq), fun q hq hF hr => t.up _ _ tag2 (h.c2 q hq hF (by rw [t.rf] at hr; exact hr)), h.p3.ms t.mt t.ob fun z hz => t.up _ _ tag3 hz, fun u hu1 ht hus => by rw [t.cb]; rw [hu] at hus; exact h.cb u hu1 ht hus, fun s hs p hp ho => by rw [g1]; rw [t.rf, t.cb] at ho; exact h.gr s hs p hp ho, fun u hu1 ht hr => by rw [g2]; rw [t.rf] at hr; exact h.gw u hu1 ht hr, fun b r hr hk hf => by rw [g3]; rw [t.rf] at hf; exact h.gc b r hr hk hf, fun q hq => t.up _ _ tag3 (h.c3 q hq), fun q hq hK hr => t.up _ _ tag4 (h.c4 q hq hK (by rw [t.rf] at hr; exact hr)), fun q hq hK s hs hr hus hc => t.up _ _ tag4 (h.co q hq hK s hs hr (by rw [hu] at hus; exact hus) (by rw [t.cd] at hc; exact hc)), fun q hq hK f hf hKf => t.up _ _ tag4 (h.cr q hq hK f hf hKf), fun q hq => t.up _ _ tag2 (h.q2 q hq), fun q hq => t.up _ _ tag1 (h.q1 q hq)⟩
theorem Cmp.tem1 (h : Cmp T F n K G e) (t : Tem e e') (hm : e'.ms = e.ms) : Cmp T F n K G e' := h.tem t rfl rfl rfl fun r hr hk h0 => t.up _ _ tag1 (h.c1 r hr hk (by rw [hm] at h0; exact h0))
theorem tem_lose (hby : ∀ q, isByte (e.mq q)) {q : Int} : Tem e (loseE e q) := by
  unfold loseE
  split
  · exact tem_tell hby tag4
  · exact Tem.refl
theorem tell_ms {q t : Int} : (tell e q t).ms = e.ms := by unfold Fa.tell; split <;> rfl
theorem lose_ms {q : Int} : (loseE e q).ms = e.ms := by unfold loseE; split; exact tell_ms; rfl
/-- A + of strict proof at the rules that wait for it. -/
theorem plusS_fold (hp : Pf T F n) (hs_ : Sol T F m k) {q : Int} : ∀ (l : List Int) {G : Gho} {e : Es}, l.Nodup → (∀ r ∈ l, r ∈ usersL T false q) → Iv T F n m G e → Cmp T F n K G e → has e q 1 = true → (∀ r ∈ l, G.a false r q = false) →
    ∃ G', Iv T F n m G' (l.foldl (plusS1 T) e) ∧ Cmp T F n K G' (l.foldl (plusS1 T) e) ∧ Tem e (l.foldl (plusS1 T) e) ∧ (∀ b r x, G'.a b r x = true ↔ G.a b r x = true ∨ (b = false ∧ r ∈ l ∧ x = q)) ∧ G'.n = G.n ∧ G'.f = G.f := by
  intro l
  induction l with
  | nil => intro G e _ _ h hc _ _; exact ⟨G, h, hc, Tem.refl, fun b r x => by simp, rfl, rfl⟩
  | cons r0 l ih =>
    intro G e hnd hl h hc hq ha
    obtain ⟨hn1, hn2⟩ := List.nodup_cons.1 hnd
    obtain ⟨r, rfl, hr, hk, hb⟩ := user_in (hl r0 List.mem_cons_self)
    obtain ⟨h1, t1, d1, o1⟩ := h.plusS1 hp hs_ hr hk hb (ha _ List.mem_cons_self) hq
    have mk : ∀ b s x, updB G.a false (mk2 (G.a false) r q) b s x = true ↔ G.a b s x = true ∨ (b = false ∧ s = (r : Int) ∧ x = q) := fun b s x => by
      by_cases eb : b = false
      · subst eb; rw [updB_at, mk2_iff]; simp
      · rw [updB_off eb]; simp [eb]
    have c1 : Cmp T F n K { G with a := updB G.a false (mk2 (G.a false) r q) } (plusS1 T e r) := hc.tem t1 rfl rfl rfl fun u hu hku h0 => by
      by_cases eu : (u : Int) = r
      · rw [eu] at h0 ⊢; exact d1 h0
      · rw [o1 u eu] at h0; exact t1.up _ _ tag1 (hc.c1 u hu hku h0)
    obtain ⟨G2, h2, c2, t2, a2, n2, f2⟩ := ih hn2 (fun s hs => hl s (List.mem_cons_of_mem _ hs)) h1 c1 (t1.up _ _ tag1 hq) fun s hs => by
      cases hg : updB G.a false (mk2 (G.a false) r q) false s q with
      | false => exact hg
      | true =>
        rcases (mk false s q).1 hg with h3 | ⟨-, h3, -⟩
        · rw [ha s (List.mem_cons_of_mem _ hs)] at h3; cases h3
        · exact absurd (h3 ▸ hs) hn1
    refine ⟨G2, h2, c2, t1.trans t2, fun b s x => ?_, n2, f2⟩
    rw [a2]
    show (updB G.a false (mk2 (G.a false) r q) b s x = true ∨ _) ↔ _
    rw [mk]
    simp only [List.mem_cons]
    constructor
    · rintro ((h | ⟨h1, h2, h3⟩) | ⟨h1, h2, h3⟩)
      · exact .inl h
      · exact .inr ⟨h1, .inl h2, h3⟩
      · exact .inr ⟨h1, .inr h2, h3⟩
    · rintro (h | ⟨h1, h2 | h2, h3⟩)
      · exact .inl (.inl h)
      · exact .inl (.inr ⟨h1, h2, h3⟩)
      · exact .inr ⟨h1, h2, h3⟩
/-- Foes of what is strictly proved lose. -/
theorem lose_fold (hp : Pf T F n) (hs_ : Sol T F m k) {q : Int} (h0 : 0 ≤ q) (h1 : q < (n : Int)) : ∀ (l : List Int) {e : Es}, (∀ p ∈ l, p ∈ row T.foes q) → Iv T F n m G e → Cmp T F n K G e → has e q 1 = true →
    Iv T F n m G (l.foldl loseE e) ∧ Cmp T F n K G (l.foldl loseE e) ∧ Tem e (l.foldl loseE e) ∧ ∀ p ∈ l, has e p 2 = true → has (l.foldl loseE e) p 4 = true := by
  intro l
  induction l with
  | nil => intro e _ h hc _; exact ⟨h, hc, Tem.refl, fun p hp => (by cases hp)⟩
  | cons p0 l ih =>
    intro e hl h hc hq
    obtain ⟨p00, p01⟩ := foe_in hp h0 h1 (hl p0 List.mem_cons_self)
    obtain ⟨p, rfl⟩ := Int.eq_ofNat_of_zero_le p00
    have t1 := tem_lose h.y (q := (p : Int))
    have i1 := h.lose (q := (p : Int)) fun h2 => may4 hp hs_ (by omega) (h.s.mm p 2 p00 p01 tag2 h2) (.inr (.inl ⟨q, foe_sym hp h0 h1 (hl p List.mem_cons_self), h.s.mm q 1 h0 h1 tag1 hq⟩))
    obtain ⟨i2, c2, t2, l2⟩ := ih (fun z hz => hl z (List.mem_cons_of_mem _ hz)) i1 (hc.tem1 t1 lose_ms) (t1.up _ _ tag1 hq)
    refine ⟨i2, c2, t1.trans t2, fun z hz hz2 => ?_⟩
    rcases List.mem_cons.1 hz with rfl | hz
    · exact t2.up _ _ tag4 (lose_has h.y hz2)
    · exact l2 z hz (t1.up _ _ tag2 hz2)
end
end Go.Proofs.YthifoamnmhlghaaGreat.Fa
