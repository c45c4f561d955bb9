/- Defending keeps what is accounted. PLAIN. -/
import Derived.Test.YtcobmbclhhimjaaGreatGh
namespace Go.Proofs.YtcobmbclhhimjaaGreat.Fa

section
variable {T : Th} {F : List Int} {n k : Nat} {m : Prop} {G G' : Gho} {e e' : Es}
/-- What a rule beats. -/
theorem beats_in (hp : Pf T F n) {r : Nat} (hr : r < T.rules.length) {s : Int} (hs_ : s ∈ row T.beats r) : ∃ a : Nat, s = (a : Int) ∧ a < T.rules.length ∧ headOf T a ∈ row T.foes (headOf T r) := by
  have hbl := hp.ok.bl
  obtain ⟨l, hl⟩ := get_at (l := T.beats) (i := r) (by omega)
  rw [row_at (l := l) (by rw [Int.toNat_natCast]; exact hl)] at hs_
  obtain ⟨hb1, hb2⟩ := hp.ok.beat r l hl
  obtain ⟨hin, -⟩ := risesF_in2 (by omega) hb1
  obtain ⟨s0, s1⟩ := hin s hs_
  obtain ⟨a, rfl⟩ := Int.eq_ofNat_of_zero_le (show 0 ≤ s by omega)
  exact ⟨a, rfl, by omega, hb2 _ hs_⟩
theorem ag_mem {p : Int} {a : Nat} (ha : a < T.rules.length) (h : headOf T a ∈ row T.foes p) : (a : Int) ∈ agL T p := by
  unfold agL
  exact List.mem_map.2 ⟨a, List.mem_filter.2 ⟨List.mem_range.2 ha, decide_eq_true h⟩, rfl⟩
theorem head_nat (hp : Pf T F n) {r : Nat} (hr : r < T.rules.length) : ∃ h : Nat, headOf T r = (h : Int) ∧ h < n := by
  obtain ⟨x, -, e1, x0, x1⟩ := head_in hp hr
  obtain ⟨h, hh⟩ := Int.eq_ofNat_of_zero_le x0
  exact ⟨h, by rw [e1, hh], by omega⟩
/-- Alike but for clashes, obstacles and updates. -/
structure Alk (e e' : Es) : Prop where
  ms : e'.ms = e.ms
  rf : e'.rf = e.rf
  op : e'.op = e.op
  cd : e'.cd = e.cd
  mq : e'.mq = e.mq
  td : e'.td = e.td
  tk : e'.tk = e.tk
theorem Alk.refl : Alk e e := ⟨rfl, rfl, rfl, rfl, rfl, rfl, rfl⟩
theorem Alk.trans {e2 : Es} (h : Alk e e') (h2 : Alk e' e2) : Alk e e2 := ⟨h2.ms.trans h.ms, h2.rf.trans h.rf, h2.op.trans h.op, h2.cd.trans h.cd, h2.mq.trans h.mq, h2.td.trans h.td, h2.tk.trans h.tk⟩
/-- The marks alike but for rules cleared. -/
structure Agh (G G' : Gho) : Prop where
  a : G'.a = G.a
  n : G'.n = G.n
  c : G'.c = G.c
  f : G'.f = G.f
  w : G'.w = G.w
theorem Agh.refl : Agh G G := ⟨rfl, rfl, rfl, rfl, rfl⟩
theorem Agh.trans {G2 : Gho} (h : Agh G G') (h2 : Agh G' G2) : Agh G G2 := ⟨h2.a.trans h.a, h2.n.trans h.n, h2.c.trans h.c, h2.f.trans h.f, h2.w.trans h.w⟩
/-- What is refuted or beaten is cleared for its rivals. -/
def Grr (T : Th) (G : Gho) (e : Es) : Prop := ∀ s : Nat, s < T.rules.length → ∀ p ∈ rivalsL T (headOf T s), e.rf true s = true ∨ e.cb s p = true → G.r s p = true
theorem Iv.beat1 (hp : Pf T F n) (h : Iv T F n m G e) {r s q : Nat} (hq : q < n) (hs_ : s < T.rules.length) (hr : (r : Int) ∈ rulesL T kT q) (hf : headOf T s ∈ row T.foes q) (hb : beatB T r s = true) (ha : ∀ x ∈ bodyM T r, G.a true r x = true) : ∃ G', Iv T F n m G' (beat1 q e s) ∧ Agh G G' ∧ Alk e (beat1 q e s) ∧ (beat1 q e s).cb s q = true ∧ (∀ u z, e.cb u z = true → (beat1 q e s).cb u z = true) ∧ (Grr T G e → Grr T G' (beat1 q e s)) := by
  have ht : rulesL T kT (q : Int) ≠ [] := fun e0 => by rw [e0] at hr; cases hr
  have mono : ∀ u z, e.cb u z = true → upd e.cb s (upd (e.cb s) q true) u z = true := fun u z hz => mk2_le (g := e.cb) hz
  have self : upd e.cb s (upd (e.cb s) q true) s q = true := by rw [upd_at, upd_at]
  unfold Fa.beat1
  by_cases hc : e.cb s q = true
  · rw [if_pos hc]
    exact ⟨G, h, Agh.refl, Alk.refl, hc, fun u z hz => hz, fun hg => hg⟩
  · rw [if_neg hc]
    have h1 := h.beat hr hb ha
    by_cases hd : e.rf true s = true
    · rw [if_pos (show dropped { e with cb := upd e.cb s (upd (e.cb s) q true), up := inc e.up } s = true from hd)]
      refine ⟨G, h1, Agh.refl, ⟨rfl, rfl, rfl, rfl, rfl, rfl, rfl⟩, self, mono, fun hg u hu z hz ho => ?_⟩
      rcases ho with ho | ho
      · exact hg u hu z hz (.inl ho)
      · rcases (mk2_iff (g := e.cb) (x := s) (y := q)).1 ho with h2 | ⟨h2, -⟩
        · exact hg u hu z hz (.inr h2)
        · exact hg u hu z hz (.inl (by rw [h2]; exact hd))
    · rw [if_neg (show ¬ dropped { e with cb := upd e.cb s (upd (e.cb s) q true), up := inc e.up } s = true from hd)]
      have hn : G.r s q = false := by
        cases hg : G.r s q with
        | false => rfl
        | true =>
          rcases h.s.r s q hg with h2 | h2
          · exact absurd h2 hd
          · exact absurd h2 hc
      refine ⟨_, h1.clearR hp hq (ag_mem hs_ hf) hn ht (.inr self), ⟨rfl, rfl, rfl, rfl, rfl⟩, ⟨rfl, rfl, rfl, rfl, rfl, rfl, rfl⟩, self, mono, fun hg u hu z hz ho => ?_⟩
      show mk2 G.r s q u z = true
      rcases ho with ho | ho
      · exact mk2_le (hg u hu z hz (.inl ho))
      · rcases (mk2_iff (g := e.cb) (x := s) (y := q)).1 ho with h2 | h2
        · exact mk2_le (hg u hu z hz (.inr h2))
        · exact mk2_iff.2 (.inr h2)
theorem Iv.beats (hp : Pf T F n) {r q : Nat} (hq : q < n) (hr : (r : Int) ∈ rulesL T kT q) : ∀ (l : List Int) {G : Gho} {e : Es}, Iv T F n m G e → (∀ x ∈ bodyM T r, G.a true r x = true) → (∀ s ∈ l, ∃ a : Nat, s = (a : Int) ∧ a < T.rules.length ∧ headOf T a ∈ row T.foes q ∧ beatB T r a = true) →
    ∃ G', Iv T F n m G' (l.foldl (Fa.beat1 q) e) ∧ Agh G G' ∧ Alk e (l.foldl (Fa.beat1 q) e) ∧ (∀ s ∈ l, (l.foldl (Fa.beat1 q) e).cb s q = true) ∧ (∀ u z, e.cb u z = true → (l.foldl (Fa.beat1 q) e).cb u z = true) ∧ (Grr T G e → Grr T G' (l.foldl (Fa.beat1 q) e)) := by
  intro l
  induction l with
  | nil => intro G e h _ _; exact ⟨G, h, Agh.refl, Alk.refl, fun s hs => (by cases hs), fun u z hz => hz, fun hg => hg⟩
  | cons s l ih =>
    intro G e h ha hl
    obtain ⟨a, rfl, hal, hf, hb⟩ := hl s List.mem_cons_self
    obtain ⟨G1, h1, g1, k1, c1, m1, r1⟩ := h.beat1 hp hq hal hr hf hb ha
    obtain ⟨G2, h2, g2, k2, c2, m2, r2⟩ := ih h1 (by rw [g1.a]; exact ha) fun s hs => hl s (List.mem_cons_of_mem _ hs)
    refine ⟨G2, h2, g1.trans g2, k1.trans k2, fun s hs => ?_, fun u z hz => m2 u z (m1 u z hz), fun hg => r2 (r1 hg)⟩
    rcases List.mem_cons.1 hs with rfl | hs
    · exact m2 _ _ c1
    · exact c2 s hs
/-- A used rule defends. -/
theorem Iv.defend (hp : Pf T F n) (h : Iv T F n m G e) {r : Nat} (hr : r < T.rules.length) (ht : teamB T r = true) (ha : ∀ x ∈ bodyM T r, G.a true r x = true) : ∃ G', Iv T F n m G' (defendE T e r) ∧ Agh G G' ∧ Alk e (defendE T e r) ∧ (∀ s ∈ row T.beats r, (defendE T e r).cb s (headOf T r) = true) ∧ (∀ u z, e.cb u z = true → (defendE T e r).cb u z = true) ∧ (Grr T G e → Grr T G' (defendE T e r)) := by
  obtain ⟨q, hq, hqn⟩ := head_nat hp hr
  unfold defendE
  rw [hq]
  refine h.beats hp hqn ?_ _ ha fun s hs => ?_
  · rw [← hq]; exact team_mem ht
  · obtain ⟨a, rfl, ha, hf⟩ := beats_in hp hr hs
    exact ⟨a, rfl, ha, by rw [← hq]; exact hf, decide_eq_true hs⟩
end
end Go.Proofs.YtcobmbclhhimjaaGreat.Fa
/- Withdrawing keeps what is accounted. PLAIN. -/
namespace Go.Proofs.YtcobmbclhhimjaaGreat.Fa

section
variable {T : Th} {F : List Int} {n k : Nat} {m : Prop} {G G' : Gho} {e e' : Es}
/-- Rules and clashes beaten as they were; more may be told, counters of defenders and obstacles may fall. -/
structure Tel (e e' : Es) : Prop where
  ms : e'.ms = e.ms
  rf : e'.rf = e.rf
  cb : e'.cb = e.cb
  tk : e'.tk = e.tk
  up : ∀ z t, isTag t → has e z t = true → has e' z t = true
  td : ∃ l, e'.td = e.td ++ l
theorem Tel.refl : Tel e e := ⟨rfl, rfl, rfl, rfl, fun _ _ _ h => h, [], by simp⟩
theorem Tel.trans {e2 : Es} (h : Tel e e') (h2 : Tel e' e2) : Tel e e2 := by
  obtain ⟨l, hl⟩ := h.td
  obtain ⟨l2, hl2⟩ := h2.td
  exact ⟨h2.ms.trans h.ms, h2.rf.trans h.rf, h2.cb.trans h.cb, h2.tk.trans h.tk, fun z t ht hz => h2.up z t ht (h.up z t ht hz), l ++ l2, by rw [hl2, hl, List.append_assoc]⟩
theorem tel_tell (hby : ∀ q, isByte (e.mq q)) {q t : Int} (ht : isTag t) : Tel e (tell e q t) := by
  unfold Fa.tell
  split
  · exact Tel.refl
  · refine ⟨rfl, rfl, rfl, rfl, fun z u hu hz => ?_, [(q, t)], rfl⟩
    show hb (upd e.mq q (orB (e.mq q) t) z) u = true
    by_cases ez : z = q
    · subst ez
      have hz : hb (e.mq z) u = true := hz
      rw [upd_at, (or_facts (hby z) ht hu).1, hz]
      rfl
    · rw [upd_off ez]; exact hz
theorem tell_has (hby : ∀ q, isByte (e.mq q)) {q t : Int} (ht : isTag t) : has (tell e q t) q t = true := by
  unfold Fa.tell
  split
  · rename_i h; exact h
  · show hb (upd e.mq q (orB (e.mq q) t) q) t = true
    rw [upd_at, (or_facts (hby q) ht ht).1]
    simp
theorem tel_lose (hby : ∀ q, isByte (e.mq q)) {q : Int} : Tel e (loseE e q) := by
  unfold loseE
  split
  · exact tel_tell hby tag4
  · exact Tel.refl
theorem lose_has (hby : ∀ q, isByte (e.mq q)) {q : Int} (h : has e q 2 = true) : has (loseE e q) q 4 = true := by
  unfold loseE
  rw [if_pos h]
  exact tell_has hby tag4
/-- A used rule against a literal, against which nothing is left, refutes it. -/
theorem Iv.over (hp : Pf T F n) (hs_ : m) (h : Iv T F n m G e) {s q : Nat} (hq : q < n) (hsR : s < T.rules.length) (hpr : (q : Int) ∈ rivalsL T (headOf T s)) (hu : used e s = true) (hc : e.cd s q = 0) (h2 : has e q 2 = true) : condM T F (Mq n e) 4 q = true := by
  obtain ⟨x, hx, hh, x0, x1⟩ := head_in hp hsR
  refine may4 hp hs_ hq (h.s.mm q 2 (by omega) (by omega) tag2 h2) (.inr (.inr ⟨headOf T s, ?_, s, mem_rules.2 ⟨s, x, rfl, hx, rfl, hh.symm⟩, over_of hp h.x h.s hsR hpr hu hc⟩))
  exact foe_sym hp (by rw [hh]; exact x0) (by rw [hh]; exact x1) (mem_rival.1 hpr).1
/-- The marks alike but for what is withdrawn. -/
structure Agw (G G' : Gho) : Prop where
  a : G'.a = G.a
  n : G'.n = G.n
  c : G'.c = G.c
  f : G'.f = G.f
  r : G'.r = G.r
theorem Agw.refl : Agw G G := ⟨rfl, rfl, rfl, rfl, rfl⟩
theorem Agw.trans {G2 : Gho} (h : Agw G G') (h2 : Agw G' G2) : Agw G G2 := ⟨h2.a.trans h.a, h2.n.trans h.n, h2.c.trans h.c, h2.f.trans h.f, h2.r.trans h.r⟩
theorem Iv.with1 (hp : Pf T F n) (hs_ : m) (h : Iv T F n m G e) {r s q : Nat} (hq : q < n) (hsR : s < T.rules.length) (hpr : (q : Int) ∈ rivalsL T (headOf T s)) (hr : (r : Int) ∈ rulesL T kT q) (hb : beatB T r s = true) (hn : G.w r s = false) (hf : e.rf true r = true) :
    Iv T F n m { G with w := mk2 G.w r s } (with1 q e s) ∧ Tel e (with1 q e s) ∧ ((with1 q e s).cd s q = 0 → used e s = true → has e q 2 = true → has (with1 q e s) q 4 = true) := by
  have h1 := h.withd hp hsR hpr hr hb hn hf
  have k1 : Tel e { e with cd := upd e.cd s (upd (e.cd s) q (dec (e.cd s q))), up := inc e.up } := ⟨rfl, rfl, rfl, rfl, fun _ _ _ hz => hz, [], by simp⟩
  unfold Fa.with1
  by_cases hc : upd e.cd s (upd (e.cd s) q (dec (e.cd s q))) s q = 0 ∧ used e s = true
  · have hcond : (decide (({ e with cd := upd e.cd s (upd (e.cd s) q (dec (e.cd s q))), up := inc e.up } : Es).cd s q = 0) && used { e with cd := upd e.cd s (upd (e.cd s) q (dec (e.cd s q))), up := inc e.up } s) = true := by
      rw [Bool.and_eq_true]
      exact ⟨decide_eq_true hc.1, hc.2⟩
    dsimp only
    rw [if_pos hcond]
    refine ⟨h1.lose fun h2 => h1.over hp hs_ hq hsR hpr hc.2 hc.1 h2, k1.trans (tel_lose h1.y), fun _ _ h2 => lose_has h1.y h2⟩
  · have hcond : ¬ (decide (({ e with cd := upd e.cd s (upd (e.cd s) q (dec (e.cd s q))), up := inc e.up } : Es).cd s q = 0) && used { e with cd := upd e.cd s (upd (e.cd s) q (dec (e.cd s q))), up := inc e.up } s) = true := by
      rw [Bool.and_eq_true]
      rintro ⟨a, b⟩
      exact hc ⟨of_decide_eq_true a, b⟩
    dsimp only
    rw [if_neg hcond]
    exact ⟨h1, k1, fun a b => absurd ⟨a, b⟩ hc⟩
theorem lose_cd {q : Int} : (loseE e q).cd = e.cd ∧ (loseE e q).ob = e.ob ∧ (loseE e q).op = e.op := by
  unfold loseE Fa.tell
  split
  · split <;> exact ⟨rfl, rfl, rfl⟩
  · exact ⟨rfl, rfl, rfl⟩
theorem with_cd {q s u : Int} (h : u ≠ s) : (with1 q e s).cd u = e.cd u := by
  unfold Fa.with1
  dsimp only
  split
  · rw [lose_cd.1]; exact upd_off h
  · exact upd_off h
theorem with_op {q s : Int} : (with1 q e s).op = e.op ∧ (with1 q e s).ob = e.ob := by
  unfold Fa.with1
  dsimp only
  split
  · exact ⟨lose_cd.2.2, lose_cd.2.1⟩
  · exact ⟨rfl, rfl⟩
theorem Iv.withs (hp : Pf T F n) (hs_ : m) {r q : Nat} (hq : q < n) (hr : (r : Int) ∈ rulesL T kT q) : ∀ (l : List Int) {G : Gho} {e : Es}, l.Nodup → Iv T F n m G e → e.rf true r = true → (∀ s ∈ l, ∃ a : Nat, s = (a : Int) ∧ a < T.rules.length ∧ (q : Int) ∈ rivalsL T (headOf T a) ∧ beatB T r a = true ∧ G.w r a = false) →
    ∃ G', Iv T F n m G' (l.foldl (Fa.with1 q) e) ∧ Agw G G' ∧ Tel e (l.foldl (Fa.with1 q) e) ∧ (l.foldl (Fa.with1 q) e).op = e.op ∧ (∀ u v, G.w u v = true → G'.w u v = true) ∧ (∀ s ∈ l, G'.w r s = true) ∧ (∀ u v, G'.w u v = true → G.w u v = true ∨ u = r ∧ v ∈ l) ∧ (∀ u, u ∉ l → (l.foldl (Fa.with1 q) e).cd u = e.cd u) ∧ ∀ s ∈ l, (l.foldl (Fa.with1 q) e).cd s q = 0 → used e s = true → has e q 2 = true → has (l.foldl (Fa.with1 q) e) q 4 = true := by
  intro l
  induction l with
  | nil => intro G e _ h _ _; exact ⟨G, h, Agw.refl, Tel.refl, rfl, fun _ _ h => h, fun s hs => (by cases hs), fun _ _ h => .inl h, fun _ _ => rfl, fun s hs => (by cases hs)⟩
  | cons s l ih =>
    intro G e hnd h hf hl
    obtain ⟨hn1, hn2⟩ := List.nodup_cons.1 hnd
    obtain ⟨a, rfl, hal, hpr, hb, hw⟩ := hl s List.mem_cons_self
    obtain ⟨h1, t1, tr1⟩ := h.with1 hp hs_ hq hal hpr hr hb hw hf
    obtain ⟨G2, h2, g2, t2, o2, m2, w2, v2, c2, tr2⟩ := ih hn2 h1 (by rw [t1.rf]; exact hf) fun u hu => by
      obtain ⟨b, rfl, hbl, hpr2, hb2, hw2⟩ := hl u (List.mem_cons_of_mem _ hu)
      refine ⟨b, rfl, hbl, hpr2, hb2, ?_⟩
      cases hg : mk2 G.w r a r b with
      | false => exact hg
      | true =>
        rcases mk2_iff.1 hg with h3 | ⟨-, h3⟩
        · rw [hw2] at h3; cases h3
        · exact absurd (h3 ▸ hu) hn1
    refine ⟨G2, h2, ⟨g2.a, g2.n, g2.c, g2.f, g2.r⟩, t1.trans t2, o2.trans with_op.1, fun u v hg => m2 u v (mk2_le hg), fun u hu => ?_, fun u v hg => ?_, fun u hu => ?_, fun u hu hc hus h2q => ?_⟩
    · rcases List.mem_cons.1 hu with rfl | hu
      · exact m2 _ _ (mk2_iff.2 (.inr ⟨rfl, rfl⟩))
      · exact w2 u hu
    · rcases v2 u v hg with h3 | ⟨h3, h4⟩
      · rcases mk2_iff.1 h3 with h5 | ⟨h5, h6⟩
        · exact .inl h5
        · exact .inr ⟨h5, by rw [h6]; exact List.mem_cons_self⟩
      · exact .inr ⟨h3, List.mem_cons_of_mem _ h4⟩
    · rw [List.foldl_cons, c2 u fun h3 => hu (List.mem_cons_of_mem _ h3)]
      exact with_cd fun h3 => hu (by rw [h3]; exact List.mem_cons_self)
    · rcases List.mem_cons.1 hu with rfl | hu
      · have hc : (l.foldl (Fa.with1 q) (Fa.with1 q e a)).cd a q = 0 := hc
        rw [c2 _ hn1] at hc
        exact t2.up _ _ tag4 (tr1 hc hus h2q)
      · exact tr2 u hu hc (by unfold Fa.used at hus ⊢; rw [t1.ms]; exact hus) (t1.up _ _ tag2 h2q)
end
end Go.Proofs.YtcobmbclhhimjaaGreat.Fa
/- Proving, dropping and using keep what is accounted. PLAIN. -/
namespace Go.Proofs.YtcobmbclhhimjaaGreat.Fa

section
variable {T : Th} {F : List Int} {n k : Nat} {m : Prop} {G G' : Gho} {e e' : Es}
/-- Where a team has a used rule and nothing stands between, +d is told. -/
def P3 (T : Th) (n : Nat) (e : Es) : Prop := ∀ q : Nat, q < n → (rulesL T kT q).any (used e) = true → e.ob q = 0 → has e q 3 = true
theorem tell_ob {q t : Int} : (tell e q t).ob = e.ob ∧ (tell e q t).cd = e.cd ∧ (tell e q t).op = e.op := by
  unfold Fa.tell
  split <;> exact ⟨rfl, rfl, rfl⟩
theorem used_ms (h : e'.ms = e.ms) : used e' = used e := by funext r; unfold Fa.used; rw [h]
theorem P3.tel (h : P3 T n e) (ht : Tel e e') (ho : e'.ob = e.ob) : P3 T n e' := fun q hq hu h0 => ht.up _ _ tag3 (h q hq (by rw [used_ms ht.ms] at hu; exact hu) (by rw [ho] at h0; exact h0))
theorem Iv.prove (hp : Pf T F n) (hs_ : m) (h : Iv T F n m G e) {q : Nat} (hq : q < n) : Iv T F n m G (proveE T e q) ∧ Tel e (proveE T e q) ∧ (proveE T e q).ob = e.ob ∧ (proveE T e q).cd = e.cd ∧ (proveE T e q).op = e.op ∧ ((rulesL T kT q).any (used e) = true → e.ob q = 0 → has (proveE T e q) q 3 = true) := by
  unfold proveE
  by_cases hc : (decide (e.ob q = 0) && (rulesL T kT q).any (used e)) = true
  · rw [if_pos hc]
    rw [Bool.and_eq_true] at hc
    exact ⟨h.tell tag3 (may3 hp hs_ h.nf h.x h.s hq (of_decide_eq_true hc.1) hc.2), tel_tell h.y tag3, tell_ob.1, tell_ob.2.1, tell_ob.2.2, fun _ _ => tell_has h.y tag3⟩
  · rw [if_neg hc]
    exact ⟨h, Tel.refl, rfl, rfl, rfl, fun a b => absurd (by rw [a, decide_eq_true b]; rfl) hc⟩
theorem Iv.drop1 (hp : Pf T F n) (hs_ : m) (h : Iv T F n m G e) (h3 : P3 T n e) {r q : Nat} (hq : q < n) (hr : r < T.rules.length) (hpr : (q : Int) ∈ rivalsL T (headOf T r)) (hf : e.rf true r = true) (hn : e.cb r q = false → G.r r q = false) :
    ∃ G', Iv T F n m G' (drop1 T r e q) ∧ Tel e (drop1 T r e q) ∧ (drop1 T r e q).cd = e.cd ∧ (drop1 T r e q).op = e.op ∧ P3 T n (drop1 T r e q) ∧ Agh G G' ∧ (∀ u v, G'.r u v = true → G.r u v = true ∨ u = r ∧ v = q) ∧ (∀ u v, G.r u v = true → G'.r u v = true) ∧ (e.cb r q = false → G'.r r q = true) := by
  unfold Fa.drop1
  by_cases hc : e.cb r q = true
  · rw [if_pos hc]
    exact ⟨G, h, Tel.refl, rfl, rfl, h3, Agh.refl, fun _ _ h => .inl h, fun _ _ h => h, fun h2 => absurd hc (by rw [h2]; decide)⟩
  · rw [if_neg hc]
    have hc : e.cb r q = false := by cases h2 : e.cb r q; rfl; exact absurd h2 hc
    obtain ⟨hf2, ht⟩ := mem_rival.1 hpr
    obtain ⟨x, -, hh, x0, x1⟩ := head_in hp hr
    have hag : (r : Int) ∈ agL T q := ag_mem hr (foe_sym hp (by rw [hh]; exact x0) (by rw [hh]; exact x1) hf2)
    have h1 := h.clearR hp hq hag (hn hc) ht (.inl hf)
    have k1 : Tel e (clearE e q) := ⟨rfl, rfl, rfl, rfl, fun _ _ _ hz => hz, [], by simp [clearE]⟩
    obtain ⟨h2, t2, o2, c2, p2, v2⟩ := h1.prove hp hs_ hq
    refine ⟨_, h2, k1.trans t2, c2, p2, fun z hz hu h0 => ?_, ⟨rfl, rfl, rfl, rfl, rfl⟩, fun u v hg => mk2_iff.1 hg, fun u v hg => mk2_le hg, fun _ => mk2_iff.2 (.inr ⟨rfl, rfl⟩)⟩
    rw [used_ms (k1.trans t2).ms] at hu
    rw [o2] at h0
    by_cases ez : z = q
    · subst ez
      exact v2 hu h0
    · refine (k1.trans t2).up _ _ tag3 (h3 z hz hu ?_)
      have h0 : upd e.ob q (dec (e.ob q)) z = 0 := h0
      rw [upd_off (by omega)] at h0
      exact h0
theorem Iv.drops (hp : Pf T F n) (hs_ : m) {r : Nat} (hr : r < T.rules.length) : ∀ (l : List Int) {G : Gho} {e : Es}, l.Nodup → Iv T F n m G e → P3 T n e → e.rf true r = true → (∀ z ∈ l, z ∈ rivalsL T (headOf T r) ∧ (e.cb r z = false → G.r r z = false)) →
    ∃ G', Iv T F n m G' (l.foldl (Fa.drop1 T r) e) ∧ Tel e (l.foldl (Fa.drop1 T r) e) ∧ (l.foldl (Fa.drop1 T r) e).cd = e.cd ∧ (l.foldl (Fa.drop1 T r) e).op = e.op ∧ P3 T n (l.foldl (Fa.drop1 T r) e) ∧ Agh G G' ∧ (∀ u v, G.r u v = true → G'.r u v = true) ∧ ∀ z ∈ l, e.cb r z = false → G'.r r z = true := by
  intro l
  induction l with
  | nil => intro G e _ h h3 _ _; exact ⟨G, h, Tel.refl, rfl, rfl, h3, Agh.refl, fun _ _ h => h, fun z hz => (by cases hz)⟩
  | cons z l ih =>
    intro G e hnd h h3 hf hl
    obtain ⟨hn1, hn2⟩ := List.nodup_cons.1 hnd
    obtain ⟨hz, hg⟩ := hl z List.mem_cons_self
    obtain ⟨hm, hhm, hmn⟩ := head_nat hp hr
    obtain ⟨z0, z1⟩ := rival_in hp hmn (by rw [← hhm]; exact hz)
    obtain ⟨q, rfl⟩ := Int.eq_ofNat_of_zero_le z0
    obtain ⟨G1, h1, t1, c1, o1, p1, g1, v1, m1, d1⟩ := h.drop1 hp hs_ h3 (show q < n by omega) hr hz hf hg
    obtain ⟨G2, h2, t2, c2, o2, p2, g2, m2, d2⟩ := ih hn2 h1 p1 (by rw [t1.rf]; exact hf) fun u hu => ⟨(hl u (List.mem_cons_of_mem _ hu)).1, fun hc => by
      rw [t1.cb] at hc
      cases hg2 : G1.r r u with
      | false => rfl
      | true =>
        rcases v1 r u hg2 with h5 | ⟨-, h5⟩
        · rw [(hl u (List.mem_cons_of_mem _ hu)).2 hc] at h5; cases h5
        · exact absurd (h5 ▸ hu) hn1⟩
    refine ⟨G2, h2, t1.trans t2, c2.trans c1, o2.trans o1, p2, g1.trans g2, fun u v hg => m2 u v (m1 u v hg), fun u hu hc => ?_⟩
    rcases List.mem_cons.1 hu with rfl | hu
    · exact m2 _ _ (d1 hc)
    · exact d2 u hu (by rw [t1.cb]; exact hc)
end
end Go.Proofs.YtcobmbclhhimjaaGreat.Fa
/- A rule dropped keeps what is accounted. PLAIN. -/
namespace Go.Proofs.YtcobmbclhhimjaaGreat.Fa

section
variable {T : Th} {F : List Int} {n k : Nat} {m : Prop} {G G' : Gho} {e e' : Es}
theorem cls_all (hx : Exa T F n G e) {b : Bool} {r q : Nat} (hq : q < n) (hr : (r : Int) ∈ rulesL T (kL b) q) (hn : G.c b r = false) (h1 : e.op b q = 1) : openZ T F b q = false ∧ ∀ t ∈ rulesL T (kL b) q, t = (r : Int) ∨ G.c b t = true := by
  have h := hx.op b q hq
  rw [h1] at h
  split at h
  · omega
  · rename_i ho
    have ho : openZ T F b q = false := by
      cases hh : openZ T F b q with
      | false => rfl
      | true => rw [hh] at ho; exact absurd rfl ho
    refine ⟨ho, fun t ht => ?_⟩
    have hpos := lf_pos hr hn
    have hmk := lf_mark rules_nd hr hn
    have hz : lf (rulesL T (kL b) (q : Int)) (upd (G.c b) r true) = 0 := by omega
    have := lf_zero.1 hz t ht
    by_cases e1 : t = (r : Int)
    · exact .inl e1
    · rw [upd_off e1] at this; exact .inr this
theorem tel_cls {b : Bool} {q : Int} : Tel e (clsE e b q) ∧ (clsE e b q).ob = e.ob ∧ (clsE e b q).cd = e.cd := by
  unfold clsE
  split
  · exact ⟨⟨rfl, rfl, rfl, rfl, fun _ _ _ hz => hz, [], by simp⟩, rfl, rfl⟩
  · exact ⟨Tel.refl, rfl, rfl⟩
theorem Alk.tel (h : Alk e e') (hc : e'.cb = e.cb) : Tel e e' := ⟨h.ms, h.rf, hc, h.tk, fun z t _ hz => by unfold has at hz ⊢; rw [h.mq]; exact hz, [], by rw [h.td]; simp⟩
theorem with_ob {q : Int} : ∀ (l : List Int) {e : Es}, (l.foldl (Fa.with1 q) e).ob = e.ob := by
  intro l
  induction l with
  | nil => intro e; rfl
  | cons s l ih => intro e; rw [List.foldl_cons, ih, with_op.2]
theorem with_cd2 {q s u z : Int} (h : z ≠ q) : (with1 q e s).cd u z = e.cd u z := by
  have key : upd e.cd s (upd (e.cd s) q (dec (e.cd s q))) u z = e.cd u z := by
    by_cases e1 : u = s
    · subst e1; rw [upd_at, upd_off h]
    · rw [upd_off e1]
  unfold Fa.with1
  dsimp only
  split
  · rw [lose_cd.1]; exact key
  · exact key
theorem withs_cd {q u z : Int} (h : z ≠ q) : ∀ {l : List Int} {e : Es}, (l.foldl (Fa.with1 q) e).cd u z = e.cd u z := by
  intro l
  induction l with
  | nil => intro e; rfl
  | cons s l ih => intro e; rw [List.foldl_cons, ih, with_cd2 h]
theorem beats_nd (hp : Pf T F n) {r : Nat} (hr : r < T.rules.length) : (row T.beats (r : Int)).Nodup := by
  have hbl := hp.ok.bl
  obtain ⟨l, hl⟩ := get_at (l := T.beats) (i := r) (by omega)
  rw [row_at (l := l) (by rw [Int.toNat_natCast]; exact hl)]
  exact pw_nodup (hp.beat l (List.mem_of_getElem? hl))
/-- A rule that is refuted anew is dropped. -/
theorem Iv.drop (hp : Pf T F n) (hs_ : m) (h : Iv T F n m G e) (h3 : P3 T n e) {r : Nat} (hr : r < T.rules.length) (hf : e.rf true r = true) (f1 : ∀ z ∈ rivalsL T (headOf T r), e.cb r z = false → G.r r z = false) (f2 : ∀ s ∈ row T.beats r, G.w r s = false) (f3 : G.c true r = false) :
    ∃ G', Iv T F n m G' (dropE T e r) ∧ Tel e (dropE T e r) ∧ P3 T n (dropE T e r) ∧ G'.a = G.a ∧ G'.n = G.n ∧ G'.f = G.f ∧ (∀ u v, G.r u v = true → G'.r u v = true) ∧ (∀ u v, G.w u v = true → G'.w u v = true) ∧ (∀ u, G.c true u = true → G'.c true u = true) ∧ G'.c false = G.c false ∧
      (∀ z ∈ rivalsL T (headOf T r), e.cb r z = false → G'.r r z = true) ∧ (teamB T r = true → (∀ s ∈ row T.beats r, G'.w r s = true) ∧ G'.c true r = true) ∧
      (teamB T r = true → e.op true (headOf T r) = 1 → has e (headOf T r) 2 = true → has (dropE T e r) (headOf T r) 4 = true) ∧ (∀ u z, z ≠ headOf T r ∨ u ∉ row T.beats r ∨ teamB T r = false → (dropE T e r).cd u z = e.cd u z) ∧ (teamB T r = true → ∀ s ∈ row T.beats r, (dropE T e r).cd s (headOf T r) = 0 → used e s = true → has e (headOf T r) 2 = true → has (dropE T e r) (headOf T r) 4 = true) := by
  obtain ⟨q, hq, hqn⟩ := head_nat hp hr
  obtain ⟨G1, i1, t1, c1, o1, p1, g1, m1, d1⟩ := h.drops (l := rivalsL T (headOf T r)) hp hs_ hr (rivals_nd hp hr) h3 hf fun z hz => ⟨hz, f1 z hz⟩
  unfold dropE
  by_cases ht : teamB T r = true
  · dsimp only
    rw [if_pos ht]
    have hrm : (r : Int) ∈ rulesL T kT q := by rw [← hq]; exact team_mem ht
    obtain ⟨G2, i2, g2, t2, o2, m2, w2, v2, cc2, tr2⟩ := Iv.withs (m := m) hp hs_ hqn hrm (row T.beats r) (beats_nd hp hr) i1 (by rw [t1.rf]; exact hf) fun s hs => by
      obtain ⟨a, rfl, ha, hfo⟩ := beats_in hp hr hs
      exact ⟨a, rfl, ha, by rw [← hq]; exact beaten_rival hp hr ht hfo, decide_eq_true hs, by rw [g1.w]; exact f2 _ hs⟩
    have hc2 : G2.c true r = false := by rw [g2.c, g1.c]; exact f3
    have hrf2 : ((row T.beats r).foldl (Fa.with1 q) ((rivalsL T (headOf T r)).foldl (Fa.drop1 T r) e)).rf true r = true := by rw [t2.rf, t1.rf]; exact hf
    have hE : withE T ((rivalsL T (headOf T r)).foldl (Fa.drop1 T r) e) r = (row T.beats r).foldl (Fa.with1 q) ((rivalsL T (headOf T r)).foldl (Fa.drop1 T r) e) := by unfold withE; rw [hq]
    rw [hE, hq]
    have p2 : P3 T n ((row T.beats r).foldl (Fa.with1 q) ((rivalsL T (headOf T r)).foldl (Fa.drop1 T r) e)) := p1.tel t2 (with_ob _)
    have t12 := t1.trans t2
    have op2 := o2.trans o1
    have cd2 : ∀ u z, z ≠ (q : Int) ∨ u ∉ row T.beats r → ((row T.beats r).foldl (Fa.with1 q) ((rivalsL T (headOf T r)).foldl (Fa.drop1 T r) e)).cd u z = e.cd u z := fun u z hz => by
      rcases hz with hz | hz
      · rw [withs_cd hz, c1]
      · rw [cc2 u hz, c1]
    have tr3 : ∀ s ∈ row T.beats r, ((row T.beats r).foldl (Fa.with1 q) ((rivalsL T (headOf T r)).foldl (Fa.drop1 T r) e)).cd s q = 0 → used e s = true → has e q 2 = true → has ((row T.beats r).foldl (Fa.with1 q) ((rivalsL T (headOf T r)).foldl (Fa.drop1 T r) e)) q 4 = true := fun s hs hc hu h2 => tr2 s hs hc (by rw [used_ms t1.ms]; exact hu) (t1.up _ _ tag2 h2)
    rw [hq] at i2 t12 p2 hrf2 d1 op2 cd2 tr3
    clear o2 cc2 tr2 t2 c1 o1 p1 i1 t1 hE
    generalize (row T.beats r).foldl (Fa.with1 q) ((rivalsL T (q : Int)).foldl (Fa.drop1 T r) e) = e2 at *
    have i3 := i2.cls hp (b := true) hqn hrm hc2 hrf2
    have t3 := tel_cls (e := e2) (b := true) (q := q)
    have p3 : P3 T n (clsE e2 true q) := p2.tel t3.1 t3.2.1
    have marks : (∀ u v, G.r u v = true → G2.r u v = true) ∧ (∀ z ∈ rivalsL T (q : Int), e.cb r z = false → G2.r r z = true) := ⟨fun u v hg => by rw [g2.r]; exact m1 u v hg, fun z hz hc => by rw [g2.r]; exact d1 z hz hc⟩
    by_cases hb : clsB e2 true q = true
    · rw [if_pos hb]
      have hall := cls_all i2.x (b := true) hqn hrm hc2 (of_decide_eq_true hb)
      refine ⟨_, i3.lose fun h2 => ?_, t12.trans (t3.1.trans (tel_lose i3.y)), p3.tel (tel_lose i3.y) lose_cd.2.1, g2.a.trans g1.a, g2.n.trans g1.n, g2.f.trans g1.f, marks.1, fun u v hg => m2 u v (by rw [g1.w]; exact hg), fun u hu => ?_, ?_, marks.2, fun _ => ⟨w2, ?_⟩, fun _ _ h2 => lose_has i3.y (t3.1.up _ _ tag2 (t12.up _ _ tag2 h2)), fun u z hz => ?_, fun _ s hs hc hu h2 => (tel_lose i3.y).up _ _ tag4 (t3.1.up _ _ tag4 (tr3 s hs (by rw [lose_cd.1, t3.2.2] at hc; exact hc) hu h2))⟩
      · refine may4 hp hs_ hqn (i3.s.mm q 2 (by omega) (by omega) tag2 h2) (.inl fun t htm => ?_)
        obtain ⟨a, rfl, ha, -, -⟩ := rule_lt htm
        have hmq : Mq n (clsE e2 true (q : Int)) = Mq n e2 := by unfold Mq clsE; split <;> rfl
        rcases hall.2 a htm with h5 | h5
        · rw [h5, hmq]; exact i2.s.part hp i2.x (b := true) hr hrf2
        · rw [hmq]; exact i2.s.part hp i2.x (b := true) ha (i2.s.c true a h5)
      · show updB G2.c true (upd (G2.c true) r true) true u = true
        rw [updB_at]
        by_cases eu : u = (r : Int)
        · rw [eu, upd_at]
        · rw [upd_off eu, g2.c, g1.c]; exact hu
      · show updB G2.c true (upd (G2.c true) r true) false = G.c false
        rw [updB_off (by decide), g2.c, g1.c]
      · show updB G2.c true (upd (G2.c true) r true) true r = true
        rw [updB_at, upd_at]
      · rw [lose_cd.1, t3.2.2]
        rcases hz with hz | hz | hz
        · exact cd2 u z (.inl hz)
        · exact cd2 u z (.inr hz)
        · rw [ht] at hz; cases hz
    · rw [if_neg hb]
      refine ⟨_, i3, t12.trans t3.1, p3, g2.a.trans g1.a, g2.n.trans g1.n, g2.f.trans g1.f, marks.1, fun u v hg => m2 u v (by rw [g1.w]; exact hg), fun u hu => ?_, ?_, marks.2, fun _ => ⟨w2, ?_⟩, fun _ h1 _ => absurd (decide_eq_true (by rw [op2]; exact h1)) hb, fun u z hz => ?_, fun _ s hs hc hu h2 => t3.1.up _ _ tag4 (tr3 s hs (by rw [t3.2.2] at hc; exact hc) hu h2)⟩
      · show updB G2.c true (upd (G2.c true) r true) true u = true
        rw [updB_at]
        by_cases eu : u = (r : Int)
        · rw [eu, upd_at]
        · rw [upd_off eu, g2.c, g1.c]; exact hu
      · show updB G2.c true (upd (G2.c true) r true) false = G.c false
        rw [updB_off (by decide), g2.c, g1.c]
      · show updB G2.c true (upd (G2.c true) r true) true r = true
        rw [updB_at, upd_at]
      · rw [t3.2.2]
        rcases hz with hz | hz | hz
        · exact cd2 u z (.inl hz)
        · exact cd2 u z (.inr hz)
        · rw [ht] at hz; cases hz
  · dsimp only
    rw [if_neg ht]
    exact ⟨G1, i1, t1, p1, g1.a, g1.n, g1.f, m1, fun u v hg => by rw [g1.w]; exact hg, fun u hu => by rw [g1.c]; exact hu, by rw [g1.c], d1, fun h => absurd h ht, fun h => absurd h ht, fun u z _ => by rw [c1], fun h => absurd h ht⟩
end
end Go.Proofs.YtcobmbclhhimjaaGreat.Fa
/- A rule used keeps what is accounted. PLAIN. -/
namespace Go.Proofs.YtcobmbclhhimjaaGreat.Fa

section
variable {T : Th} {F : List Int} {n k : Nat} {m : Prop} {G G' : Gho} {e e' : Es}
/-- P3 but for one. -/
def P3x (T : Th) (n : Nat) (h : Int) (e : Es) : Prop := ∀ q : Nat, q < n → (q : Int) ≠ h → (rulesL T kT q).any (used e) = true → e.ob q = 0 → has e q 3 = true
theorem P3x.tel {h : Int} (h3 : P3x T n h e) (ht : Tel e e') (ho : e'.ob = e.ob) : P3x T n h e' := fun q hq hne hu h0 => ht.up _ _ tag3 (h3 q hq hne (by rw [used_ms ht.ms] at hu; exact hu) (by rw [ho] at h0; exact h0))
theorem beat_ob {h s z : Int} (hz : z ≠ h) : (Fa.beat1 h e s).ob z = e.ob z := by
  unfold Fa.beat1
  split
  · rfl
  · dsimp only
    split
    · rfl
    · exact upd_off hz
theorem beats_ob {h z : Int} (hz : z ≠ h) : ∀ (l : List Int) {e : Es}, (l.foldl (Fa.beat1 h) e).ob z = e.ob z := by
  intro l
  induction l with
  | nil => intro e; rfl
  | cons s l ih => intro e; rw [List.foldl_cons, ih, beat_ob hz]
theorem Iv.use1 (hp : Pf T F n) (hs_ : m) (h : Iv T F n m G e) {r q : Nat} (hq : q < n) (hr : r < T.rules.length) (hpr : (q : Int) ∈ rivalsL T (headOf T r)) (hu : used e r = true) : Iv T F n m G (use1 r e q) ∧ Tel e (use1 r e q) ∧ (use1 r e q).ob = e.ob ∧ (use1 r e q).cd = e.cd ∧ (use1 r e q).op = e.op ∧ (e.cd r q = 0 → has e q 2 = true → has (use1 r e q) q 4 = true) := by
  unfold Fa.use1
  by_cases hc : e.cd r q = 0
  · rw [if_pos hc]
    exact ⟨h.lose fun h2 => h.over hp hs_ hq hr hpr hu hc h2, tel_lose h.y, lose_cd.2.1, lose_cd.1, lose_cd.2.2, fun _ h2 => lose_has h.y h2⟩
  · rw [if_neg hc]
    exact ⟨h, Tel.refl, rfl, rfl, rfl, fun h2 => absurd h2 hc⟩
theorem Iv.uses (hp : Pf T F n) (hs_ : m) {r : Nat} (hr : r < T.rules.length) : ∀ (l : List Int) {e : Es}, Iv T F n m G e → used e r = true → (∀ z ∈ l, z ∈ rivalsL T (headOf T r)) →
    Iv T F n m G (l.foldl (Fa.use1 r) e) ∧ Tel e (l.foldl (Fa.use1 r) e) ∧ (l.foldl (Fa.use1 r) e).ob = e.ob ∧ (l.foldl (Fa.use1 r) e).cd = e.cd ∧ (l.foldl (Fa.use1 r) e).op = e.op ∧ ∀ z ∈ l, e.cd r z = 0 → has e z 2 = true → has (l.foldl (Fa.use1 r) e) z 4 = true := by
  intro l
  induction l with
  | nil => intro e h _ _; exact ⟨h, Tel.refl, rfl, rfl, rfl, fun z hz => (by cases hz)⟩
  | cons z l ih =>
    intro e h hu hl
    have hz := hl z List.mem_cons_self
    obtain ⟨hm, hhm, hmn⟩ := head_nat hp hr
    obtain ⟨z0, z1⟩ := rival_in hp hmn (by rw [← hhm]; exact hz)
    obtain ⟨q, rfl⟩ := Int.eq_ofNat_of_zero_le z0
    obtain ⟨h1, t1, o1, c1, p1, tr1⟩ := h.use1 hp hs_ (show q < n by omega) hr hz hu
    obtain ⟨h2, t2, o2, c2, p2, tr2⟩ := ih h1 (by rw [used_ms t1.ms]; exact hu) fun u hu2 => hl u (List.mem_cons_of_mem _ hu2)
    refine ⟨h2, t1.trans t2, o2.trans o1, c2.trans c1, p2.trans p1, fun u hu2 hc h2q => ?_⟩
    rcases List.mem_cons.1 hu2 with rfl | hu2
    · exact t2.up _ _ tag4 (tr1 hc h2q)
    · exact tr2 u hu2 (by rw [c1]; exact hc) (t1.up _ _ tag2 h2q)
/-- A rule whose body is whole is used. -/
theorem Iv.use (hp : Pf T F n) (hs_ : m) (h : Iv T F n m G e) {r : Nat} (hr : r < T.rules.length) (hu : used e r = true) (h3 : P3x T n (headOf T r) e) (h3n : teamB T r = false → P3 T n e) :
    ∃ G', Iv T F n m G' (useE T e r) ∧ P3 T n (useE T e r) ∧ Agh G G' ∧ (useE T e r).ms = e.ms ∧ (useE T e r).rf = e.rf ∧ (useE T e r).cd = e.cd ∧ (useE T e r).op = e.op ∧ (useE T e r).tk = e.tk ∧ (∀ z t, isTag t → has e z t = true → has (useE T e r) z t = true) ∧ (∃ l, (useE T e r).td = e.td ++ l) ∧ (∀ u z, e.cb u z = true → (useE T e r).cb u z = true) ∧ (teamB T r = true → ∀ s ∈ row T.beats r, (useE T e r).cb s (headOf T r) = true) ∧ (∀ z ∈ rivalsL T (headOf T r), e.cd r z = 0 → has e z 2 = true → has (useE T e r) z 4 = true) ∧ (Grr T G e → Grr T G' (useE T e r)) := by
  obtain ⟨q, hq, hqn⟩ := head_nat hp hr
  have ha := (h.x.used hr).1 hu
  obtain ⟨h1, t1, o1, c1, p1, tr1⟩ := h.uses (l := rivalsL T (headOf T r)) hp hs_ hr hu fun z hz => hz
  unfold useE
  by_cases ht : teamB T r = true
  · dsimp only
    rw [if_pos ht]
    have x1 := h3.tel t1 o1
    generalize hE1 : (rivalsL T (headOf T r)).foldl (Fa.use1 r) e = e1 at *
    obtain ⟨G2, h2, g2, k2, cb2, m2, r2⟩ := h1.defend hp hr ht ha
    have ob2 : ∀ z, z ≠ headOf T r → (defendE T e1 r).ob z = e1.ob z := fun z hz => beats_ob hz _
    have hrm : (r : Int) ∈ rulesL T kT q := by rw [← hq]; exact team_mem ht
    have has2 : ∀ z t, has (defendE T e1 r) z t = has e1 z t := fun z t => by unfold has; rw [k2.mq]
    have ms2 : (defendE T e1 r).ms = e.ms := k2.ms.trans t1.ms
    obtain ⟨l1, hl1⟩ := t1.td
    have td2 : (defendE T e1 r).td = e.td ++ l1 := k2.td.trans hl1
    have us2 : used (defendE T e1 r) = used e1 := used_ms k2.ms
    have P3o : ∀ z : Nat, z < n → (z : Int) ≠ headOf T r → (rulesL T kT z).any (used (defendE T e1 r)) = true → (defendE T e1 r).ob z = 0 → has (defendE T e1 r) z 3 = true := fun z hz hne hu2 h0 => by
      rw [has2]
      rw [us2] at hu2
      rw [ob2 _ hne] at h0
      exact x1 z hz hne hu2 h0
    generalize defendE T e1 r = e2 at *
    have hup : ∀ z t, isTag t → has e z t = true → has e2 z t = true := fun z t ht hz => by rw [has2]; exact t1.up z t ht hz
    by_cases h0 : e2.ob (headOf T r) = 0
    · rw [if_pos h0]
      have hany : (rulesL T kT q).any (used e2) = true := List.any_eq_true.2 ⟨r, hrm, by rw [us2, used_ms t1.ms]; exact hu⟩
      have hm3 : condM T F (Mq n e2) 3 (headOf T r) = true := by rw [hq]; exact may3 hp hs_ h2.nf h2.x h2.s hqn (by rw [← hq]; exact h0) hany
      have t3 := tel_tell h2.y (q := headOf T r) tag3
      obtain ⟨l3, hl3⟩ := t3.td
      refine ⟨G2, h2.tell tag3 hm3, fun z hz hu2 hz0 => ?_, g2, t3.ms.trans ms2, t3.rf.trans (k2.rf.trans t1.rf), tell_ob.2.1.trans (k2.cd.trans c1), tell_ob.2.2.trans (k2.op.trans p1), t3.tk.trans (k2.tk.trans t1.tk), fun z t ht hz => t3.up z t ht (hup z t ht hz), ⟨l1 ++ l3, by rw [hl3, td2, List.append_assoc]⟩, fun u z hz => by rw [t3.cb]; exact m2 u z (by rw [t1.cb]; exact hz), fun _ s hs => by rw [t3.cb]; exact cb2 s hs, fun z hz hc h2z => t3.up z 4 tag4 (by rw [has2]; exact tr1 z hz hc h2z), fun hg s hs z hz ho => r2 (fun s hs z hz ho => hg s hs z hz (by rw [t1.rf, t1.cb] at ho; exact ho)) s hs z hz (by rw [t3.rf, t3.cb] at ho; exact ho)⟩
      by_cases ez : (z : Int) = headOf T r
      · rw [ez]; exact tell_has h2.y tag3
      · exact t3.up _ _ tag3 (P3o z hz ez (by rw [used_ms t3.ms] at hu2; exact hu2) (by rw [tell_ob.1] at hz0; exact hz0))
    · rw [if_neg h0]
      refine ⟨G2, h2, fun z hz hu2 hz0 => ?_, g2, ms2, k2.rf.trans t1.rf, k2.cd.trans c1, k2.op.trans p1, k2.tk.trans t1.tk, hup, ⟨l1, td2⟩, fun u z hz => m2 u z (by rw [t1.cb]; exact hz), fun _ => cb2, fun z hz hc h2z => by rw [has2]; exact tr1 z hz hc h2z, fun hg => r2 fun s hs z hz ho => hg s hs z hz (by rw [t1.rf, t1.cb] at ho; exact ho)⟩
      by_cases ez : (z : Int) = headOf T r
      · rw [ez] at hz0; exact absurd hz0 h0
      · exact P3o z hz ez hu2 hz0
  · dsimp only
    rw [if_neg ht]
    have htf : teamB T r = false := by cases hh : teamB T r; rfl; exact absurd hh ht
    exact ⟨G, h1, (h3n htf).tel t1 o1, Agh.refl, t1.ms, t1.rf, c1, p1, t1.tk, t1.up, t1.td, fun u z hz => by rw [t1.cb]; exact hz, fun h => absurd h ht, tr1, fun hg s hs z hz ho => hg s hs z hz (by rw [t1.rf, t1.cb] at ho; exact ho)⟩
end
end Go.Proofs.YtcobmbclhhimjaaGreat.Fa
/- The strict steps keep what is accounted. PLAIN. -/
namespace Go.Proofs.YtcobmbclhhimjaaGreat.Fa

section
variable {T : Th} {F : List Int} {n k : Nat} {m : Prop} {G G' : Gho} {e e' : Es}
theorem P3.ms (h : P3 T n e) (hu : e'.ms true = e.ms true) (ho : e'.ob = e.ob) (hh : ∀ z, has e z 3 = true → has e' z 3 = true) : P3 T n e' := fun q hq ha h0 => hh _ (h q hq (by
  have : used e' = used e := by funext r; unfold Fa.used; rw [hu]
  rw [this] at ha; exact ha) (by rw [ho] at h0; exact h0))
/-- The users of a literal. -/
theorem user_in {b : Bool} {z r : Int} (h : r ∈ usersL T b z) : ∃ a : Nat, r = (a : Int) ∧ a < T.rules.length ∧ kindB T (kW b) a = true ∧ z ∈ bodyM T a := by
  unfold usersL useK at h
  obtain ⟨a, ha, rfl⟩ := List.mem_map.1 h
  obtain ⟨h1, h2⟩ := List.mem_filter.1 ha
  unfold isUse at h2
  split at h2
  · rename_i x hx
    rw [Bool.and_eq_true] at h2
    obtain ⟨k1, -, k3⟩ := kind_at (p := kW b) hx
    exact ⟨a, rfl, List.mem_range.1 h1, by rw [k1]; exact h2.1, by rw [k3]; exact of_decide_eq_true h2.2⟩
  · cases h2
theorem user_mem {b : Bool} {z : Int} {a : Nat} (ha : a < T.rules.length) (hk : kindB T (kW b) a = true) (hz : z ∈ bodyM T a) : (a : Int) ∈ usersL T b z := by
  unfold usersL useK
  refine List.mem_map.2 ⟨a, List.mem_filter.2 ⟨List.mem_range.2 ha, ?_⟩, rfl⟩
  obtain ⟨x, hx⟩ := get_at ha
  obtain ⟨k1, -, k3⟩ := kind_at (p := kW b) hx
  unfold isUse
  rw [hx]
  rw [k1] at hk
  rw [k3] at hz
  simp [hk, hz]
theorem users_nd {b : Bool} {z : Int} : (usersL T b z).Nodup := by
  unfold usersL useK
  refine List.Pairwise.map _ (fun a b h => ?_) ((List.nodup_range).filter _)
  intro e
  exact h (Int.ofNat.inj e)
/-- More told, rules refuted and clashes as they were. -/
structure Tem (e e' : Es) : Prop where
  rf : e'.rf = e.rf
  cb : e'.cb = e.cb
  cd : e'.cd = e.cd
  ob : e'.ob = e.ob
  op : e'.op = e.op
  tk : e'.tk = e.tk
  mt : e'.ms true = e.ms true
  up : ∀ z t, isTag t → has e z t = true → has e' z t = true
  td : ∃ l, e'.td = e.td ++ l
theorem Tem.refl : Tem e e := ⟨rfl, rfl, rfl, rfl, rfl, rfl, rfl, fun _ _ _ h => h, [], by simp⟩
theorem Tem.trans {e2 : Es} (h : Tem e e') (h2 : Tem e' e2) : Tem e e2 := by
  obtain ⟨l, hl⟩ := h.td
  obtain ⟨l2, hl2⟩ := h2.td
  exact ⟨h2.rf.trans h.rf, h2.cb.trans h.cb, h2.cd.trans h.cd, h2.ob.trans h.ob, h2.op.trans h.op, h2.tk.trans h.tk, h2.mt.trans h.mt, fun z t ht hz => h2.up z t ht (h.up z t ht hz), l ++ l2, by rw [hl2, hl, List.append_assoc]⟩
theorem tem_tell (hby : ∀ q, isByte (e.mq q)) {q t : Int} (ht : isTag t) : Tem e (tell e q t) :=
  have h := tel_tell hby (q := q) ht
  ⟨h.rf, h.cb, tell_ob.2.1, tell_ob.1, tell_ob.2.2, h.tk, by rw [h.ms], h.up, h.td⟩
theorem Iv.plusS1 (hp : Pf T F n) (hs_ : m) (h : Iv T F n m G e) {r : Nat} {q : Int} (hr : r < T.rules.length) (hk : kindB T (kW false) r = true) (hq : q ∈ bodyM T r) (hn : G.a false r q = false) (hh : has e q 1 = true) :
    Iv T F n m { G with a := updB G.a false (mk2 (G.a false) r q) } (plusS1 T e r) ∧ Tem e (plusS1 T e r) ∧ ((plusS1 T e r).ms false r = 0 → has (plusS1 T e r) (headOf T r) 1 = true) ∧ ∀ u, u ≠ (r : Int) → (plusS1 T e r).ms false u = e.ms false u := by
  have h1 := h.met hp (b := false) hr hk hq hn hh
  have k1 : Tem e (metE e false r) := ⟨rfl, rfl, rfl, rfl, rfl, rfl, (show updB e.ms false (upd (e.ms false) r (dec (e.ms false r))) true = e.ms true from updB_off (by decide)), fun _ _ _ hz => hz, [], by simp [metE]⟩
  have m1 : ∀ u, u ≠ (r : Int) → (metE e false r).ms false u = e.ms false u := fun u hu => by
    show updB e.ms false (upd (e.ms false) r (dec (e.ms false r))) false u = e.ms false u
    rw [updB_at, upd_off hu]
  unfold Fa.plusS1
  dsimp only
  by_cases hc : (metE e false r).ms false r = 0
  · rw [if_pos hc]
    have t2 := tel_tell h1.y (q := headOf T r) tag1
    refine ⟨h1.tell tag1 (may1 hp hs_ h1.x h1.s hr hk hc), k1.trans (tem_tell h1.y tag1), fun _ => tell_has h1.y tag1, fun u hu => by rw [t2.ms]; exact m1 u hu⟩
  · rw [if_neg hc]
    exact ⟨h1, k1, fun h2 => absurd h2 hc, m1⟩
end
end Go.Proofs.YtcobmbclhhimjaaGreat.Fa
