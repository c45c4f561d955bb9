/- Withdrawing keeps what is accounted. PLAIN. -/
import Derived.Test.YthifoamnmhlghaaGreatGu
namespace Go.Proofs.YthifoamnmhlghaaGreat.Fa

section
variable {T : Th} {F : List Int} {n k : Nat} {m : List Int} {G G' : Gho} {e e' : Es}
/-- Rules and clashes beaten as they were; more may be told, counters of defenders and obstacles may fall. -/
structure Tel (e e' : Es) : Prop where
  ms : e'.ms = e.ms
  rf : e'.rf = e.rf
  cb : e'.cb = e.cb
  tk : e'.tk = e.tk
  up : ∀ z t, isTag t → has e z t = true → has e' z t = true
  td : ∃ l, e'.td = e.td ++ l
theorem Tel.refl : Tel e e := ⟨rfl, rfl, rfl, rfl, fun _ _ _ h => h, [], by simp⟩
theorem Tel.trans {e2 : Es} (h : Tel e e') (h2 : Tel e' e2) : Tel e e2 := by
  obtain ⟨l, hl⟩ := h.td
  obtain ⟨l2, hl2⟩ := h2.td
  exact ⟨h2.ms.trans h.ms, h2.rf.trans h.rf, h2.cb.trans h.cb, h2.tk.trans h.tk, fun z t ht hz => h2.up z t ht (h.up z t ht hz), l ++ l2, by rw [hl2, hl, List.append_assoc]⟩
theorem tel_tell (hby : ∀ q, isByte (e.mq q)) {q t : Int} (ht : isTag t) : Tel e (tell e q t) := by
  unfold Fa.tell
  split
  · exact Tel.refl
  · refine ⟨rfl, rfl, rfl, rfl, fun z u hu hz => ?_, [(q, t)], rfl⟩
    show hb (upd e.mq q (orB (e.mq q) t) z) u = true
    by_cases ez : z = q
    · subst ez
      have hz : hb (e.mq z) u = true := hz
      rw [upd_at, (or_facts (hby z) ht hu).1, hz]
      rfl
    · rw [upd_off ez]; exact hz
theorem tell_has (hby : ∀ q, isByte (e.mq q)) {q t : Int} (ht : isTag t) : has (tell e q t) q t = true := by
  unfold Fa.tell
  split
  · rename_i h; exact h
  · show hb (upd e.mq q (orB (e.mq q) t) q) t = true
    rw [upd_at, (or_facts (hby q) ht ht).1]
    simp
theorem tel_lose (hby : ∀ q, isByte (e.mq q)) {q : Int} : Tel e (loseE e q) := by
  unfold loseE
  split
  · exact tel_tell hby tag4
  · exact Tel.refl
theorem lose_has (hby : ∀ q, isByte (e.mq q)) {q : Int} (h : has e q 2 = true) : has (loseE e q) q 4 = true := by
  unfold loseE
  rw [if_pos h]
  exact tell_has hby tag4
/-- A used rule against a literal, against which nothing is left, refutes it. -/
theorem Iv.over (hp : Pf T F n) (hs_ : Sol T F m k) (h : Iv T F n m G e) {s q : Nat} (hq : q < n) (hsR : s < T.rules.length) (hpr : (q : Int) ∈ rivalsL T (headOf T s)) (hu : used e s = true) (hc : e.cd s q = 0) (h2 : has e q 2 = true) : hs m q 4 = true := by
  obtain ⟨x, hx, hh, x0, x1⟩ := head_in hp hsR
  refine may4 hp hs_ hq (h.s.mm q 2 (by omega) (by omega) tag2 h2) (.inr (.inr ⟨headOf T s, ?_, s, mem_rules.2 ⟨s, x, rfl, hx, rfl, hh.symm⟩, over_of hp h.x h.s hsR hpr hu hc⟩))
  exact foe_sym hp (by rw [hh]; exact x0) (by rw [hh]; exact x1) (mem_rival.1 hpr).1
/-- The marks alike but for what is withdrawn. -/
structure Agw (G G' : Gho) : Prop where
  a : G'.a = G.a
  n : G'.n = G.n
  c : G'.c = G.c
  f : G'.f = G.f
  r : G'.r = G.r
theorem Agw.refl : Agw G G := ⟨rfl, rfl, rfl, rfl, rfl⟩
theorem Agw.trans {G2 : Gho} (h : Agw G G') (h2 : Agw G' G2) : Agw G G2 := ⟨h2.a.trans h.a, h2.n.trans h.n, h2.c.trans h.c, h2.f.trans h.f, h2.r.trans h.r⟩
theorem Iv.with1 (hp : Pf T F n) (hs_ : Sol T F m k) (h : Iv T F n m G e) {r s q : Nat} (hq : q < n) (hsR : s < T.rules.length) (hpr : (q : Int) ∈ rivalsL T (headOf T s)) (hr : (r : Int) ∈ rulesL T kT q) (hb : beatB T r s = true) (hn : G.w r s = false) (hf : e.rf true r = true) :
    Iv T F n m { G with w := mk2 G.w r s } (with1 q e s) ∧ Tel e (with1 q e s) ∧ ((with1 q e s).cd s q = 0 → used e s = true → has e q 2 = true → has (with1 q e s) q 4 = true) := by
  have h1 := h.withd hp hsR hpr hr hb hn hf
  have k1 : Tel e { e with cd := upd e.cd s (upd (e.cd s) q (dec (e.cd s q))), up := inc e.up } := ⟨rfl, rfl, rfl, rfl, fun _ _ _ hz => hz, [], by simp⟩
  unfold Fa.with1
  by_cases hc : upd e.cd s (upd (e.cd s) q (dec (e.cd s q))) s q = 0 ∧ used e s = true
  · have hcond : (decide (({ e with cd := upd e.cd s (upd (e.cd s) q (dec (e.cd s q))), up := inc e.up } : Es).cd s q = 0) && used { e with cd := upd e.cd s (upd (e.cd s) q (dec (e.cd s q))), up := inc e.up } s) = true := by
      rw [Bool.and_eq_true]
      exact ⟨decide_eq_true hc.1, hc.2⟩
    dsimp only
    rw [if_pos hcond]
    refine ⟨h1.lose fun h2 => h1.over hp hs_ hq hsR hpr hc.2 hc.1 h2, k1.trans (tel_lose h1.y), fun _ _ h2 => lose_has h1.y h2⟩
  · have hcond : ¬ (decide (({ e with cd := upd e.cd s (upd (e.cd s) q (dec (e.cd s q))), up := inc e.up } : Es).cd s q = 0) && used { e with cd := upd e.cd s (upd (e.cd s) q (dec (e.cd s q))), up := inc e.up } s) = true := by
      rw [Bool.and_eq_true]
      rintro ⟨a, b⟩
      exact hc ⟨of_decide_eq_true a, b⟩
    dsimp only
    rw [if_neg hcond]
    exact ⟨h1, k1, fun a b => absurd ⟨a, b⟩ hc⟩
theorem lose_cd {q : Int} : (loseE e q).cd = e.cd ∧ (loseE e q).ob = e.ob ∧ (loseE e q).op = e.op := by
  unfold loseE Fa.tell
  split
  · split <;> exact ⟨rfl, rfl, rfl⟩
  · exact ⟨rfl, rfl, rfl⟩
theorem with_cd {q s u : Int} (h : u ≠ s) : (with1 q e s).cd u = e.cd u := by
  unfold Fa.with1
  dsimp only
  split
  · rw [lose_cd.1]; exact upd_off h
  · exact upd_off h
theorem with_op {q s : Int} : (with1 q e s).op = e.op ∧ (with1 q e s).ob = e.ob := by
  unfold Fa.with1
  dsimp only
  split
  · exact ⟨lose_cd.2.2, lose_cd.2.1⟩
  · exact ⟨rfl, rfl⟩
theorem Iv.withs (hp : Pf T F n) (hs_ : Sol T F m k) {r q : Nat} (hq : q < n) (hr : (r : Int) ∈ rulesL T kT q) : ∀ (l : List Int) {G : Gho} {e : Es}, l.Nodup → Iv T F n m G e → e.rf true r = true → (∀ s ∈ l, ∃ a : Nat, s = (a : Int) ∧ a < T.rules.length ∧ (q : Int) ∈ rivalsL T (headOf T a) ∧ beatB T r a = true ∧ G.w r a = false) →
    ∃ G', Iv T F n m G' (l.foldl (Fa.with1 q) e) ∧ Agw G G' ∧ Tel e (l.foldl (Fa.with1 q) e) ∧ (l.foldl (Fa.with1 q) e).op = e.op ∧ (∀ u v, G.w u v = true → G'.w u v = true) ∧ (∀ s ∈ l, G'.w r s = true) ∧ (∀ u v, G'.w u v = true → G.w u v = true ∨ u = r ∧ v ∈ l) ∧ (∀ u, u ∉ l → (l.foldl (Fa.with1 q) e).cd u = e.cd u) ∧ ∀ s ∈ l, (l.foldl (Fa.with1 q) e).cd s q = 0 → used e s = true → has e q 2 = true → has (l.foldl (Fa.with1 q) e) q 4 = true := by
  intro l
  induction l with
  | nil => intro G e _ h _ _; exact ⟨G, h, Agw.refl, Tel.refl, rfl, fun _ _ h => h, fun s hs => (by cases hs), fun _ _ h => .inl h, fun _ _ => rfl, fun s hs => (by cases hs)⟩
  | cons s l ih =>
    intro G e hnd h hf hl
    obtain ⟨hn1, hn2⟩ := List.nodup_cons.1 hnd
    obtain ⟨a, rfl, hal, hpr, hb, hw⟩ := hl s List.mem_cons_self
    obtain ⟨h1, t1, tr1⟩ := h.with1 hp hs_ hq hal hpr hr hb hw hf
    obtain ⟨G2, h2, g2, t2, o2, m2, w2, v2, c2, tr2⟩ := ih hn2 h1 (by rw [t1.rf]; exact hf) fun u hu => by
      obtain ⟨b, rfl, hbl, hpr2, hb2, hw2⟩ := hl u (List.mem_cons_of_mem _ hu)
      refine ⟨b, rfl, hbl, hpr2, hb2, ?_⟩
      cases hg : mk2 G.w r a r b with
      | false => exact hg
      | true =>
        rcases mk2_iff.1 hg with h3 | ⟨-, h3⟩
        · rw [hw2] at h3; cases h3
        · exact absurd (h3 ▸ hu) hn1
    refine ⟨G2, h2, ⟨g2.a, g2.n, g2.c, g2.f, g2.r⟩, t1.trans t2, o2.trans with_op.1, fun u v hg => m2 u v (mk2_le hg), fun u hu => ?_, fun u v hg => ?_, fun u hu => ?_, fun u hu hc hus h2q => ?_⟩
    · rcases List.mem_cons.1 hu with rfl | hu
      · exact m2 _ _ (mk2_iff.2 (.inr ⟨rfl, rfl⟩))
      · exact w2 u hu
    · rcases v2 u v hg with h3 | ⟨h3, h4⟩
      · rcases mk2_iff.1 h3 with h5 | ⟨h5, h6⟩
        · exact .inl h5
        · exact .inr ⟨h5, by rw [h6]; exact List.mem_cons_self⟩
      · exact .inr ⟨h3, List.mem_cons_of_mem _ h4⟩
    · rw [List.foldl_cons, c2 u fun h3 => hu (List.mem_cons_of_mem _ h3)]
      exact with_cd fun h3 => hu (by rw [h3]; exact List.mem_cons_self)
    · rcases List.mem_cons.1 hu with rfl | hu
      · have hc : (l.foldl (Fa.with1 q) (Fa.with1 q e a)).cd a q = 0 := hc
        rw [c2 _ hn1] at hc
        exact t2.up _ _ tag4 (tr1 hc hus h2q)
      · exact tr2 u hu hc (by unfold Fa.used at hus ⊢; rw [t1.ms]; exact hus) (t1.up _ _ tag2 h2q)
end
end Go.Proofs.YthifoamnmhlghaaGreat.Fa
