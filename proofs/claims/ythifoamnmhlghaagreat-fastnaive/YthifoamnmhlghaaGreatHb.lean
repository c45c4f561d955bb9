/- Each step keeps that all that is due is told. PLAIN. -/
import Derived.Test.YthifoamnmhlghaaGreatHa
namespace Go.Proofs.YthifoamnmhlghaaGreat.Fa

section
variable {T : Th} {F : List Int} {n k : Nat} {m : List Int} {G G' : Gho} {e e' : Es} {K : Int → Int → Bool}
theorem kind_mem {p : RuleM → Bool} {r : Nat} (hr : r < T.rules.length) (hk : kindB T p r = true) : (r : Int) ∈ rulesL T p (headOf T r) := by
  obtain ⟨x, hx⟩ := get_at hr
  obtain ⟨k1, k2, -⟩ := kind_at (p := p) hx
  exact mem_rules.2 ⟨r, x, rfl, hx, by rw [← k1]; exact hk, k2.symm⟩
theorem mem_kind {p : RuleM → Bool} {r : Nat} {z : Int} (h : (r : Int) ∈ rulesL T p z) : r < T.rules.length ∧ headOf T r = z ∧ kindB T p r = true := by
  obtain ⟨a, e1, ha, hh, hk⟩ := rule_lt h
  have : r = a := by omega
  subst this
  exact ⟨ha, hh, hk⟩
theorem op_one (hx : Exa T F n G e) {b : Bool} {r h : Nat} (hh : h < n) (hr : (r : Int) ∈ rulesL T (kL b) h) (hn : G.c b r = false) (ho : openZ T F b h = false) (hall : ∀ t ∈ rulesL T (kL b) h, t ≠ (r : Int) → G.c b t = true) : e.op b h = 1 := by
  have h1 := hx.op b h hh
  have hne : (rulesL T (kL b) (h : Int)).isEmpty = false := by
    cases hl : rulesL T (kL b) (h : Int) with
    | nil => rw [hl] at hr; cases hr
    | cons _ _ => rfl
  rw [ho, hne] at h1
  have hm := lf_mark rules_nd hr hn
  have hz : lf (rulesL T (kL b) (h : Int)) (upd (G.c b) r true) = 0 := lf_zero.2 fun t ht => by
    by_cases e1 : t = (r : Int)
    · rw [e1, upd_at]
    · rw [upd_off e1]; exact hall t ht e1
  have h1 : e.op b h = max 1 (lf (rulesL T (kL b) (h : Int)) (G.c b)) := h1
  omega
theorem open_not (hx : Exa T F n G e) {b : Bool} {h : Int} (hF : b = false → h ∉ F) (hall : ∀ t ∈ rulesL T (kL b) h, e.rf b t = true) : openZ T F b h = false := by
  unfold openZ
  rw [Bool.or_eq_false_iff]
  constructor
  · cases hb : bareB T (kL b) h with
    | false => rfl
    | true =>
      exfalso
      unfold bareB at hb
      obtain ⟨t, ht, h2⟩ := List.any_eq_true.1 hb
      obtain ⟨a, rfl, ha, -, -⟩ := rule_lt ht
      have h3 := hall a ht
      rw [hx.rf b a ha, List.isEmpty_iff.1 h2] at h3
      cases h3
  · cases b with
    | true => rfl
    | false =>
      have := hF rfl
      simp [this]
theorem Cmp.of (h : Cmp T F n K G e) (us : used e' = used e) (mf : e'.ms false = e.ms false) (rf : e'.rf true = e.rf true) (cb : e'.cb = e.cb) (cd : e'.cd = e.cd) (up : ∀ z t, isTag t → has e z t = true → has e' z t = true) (g1 : G'.r = G.r) (g2 : G'.w = G.w)
    (c2 : ∀ q : Nat, q < n → (q : Int) ∉ F → (∀ r ∈ rulesL T kS q, e'.rf false r = true) → has e' q 2 = true) (p3 : P3 T n e') (gc : ∀ b (r : Nat), r < T.rules.length → kindB T (kL b) r = true → e'.rf b r = true → G'.c b r = true) : Cmp T F n K G' e' :=
  ⟨fun r hr hk h0 => up _ _ tag1 (h.c1 r hr hk (by rw [mf] at h0; exact h0)), fun q hq => up _ _ tag1 (h.cf q hq), c2, p3, fun t ht1 ht hu => by rw [cb]; rw [us] at hu; exact h.cb t ht1 ht hu, fun s hs p hp ho => by rw [g1]; rw [rf, cb] at ho; exact h.gr s hs p hp ho, fun t ht1 ht hr => by rw [g2]; rw [rf] at hr; exact h.gw t ht1 ht hr, gc, fun q hq => up _ _ tag3 (h.c3 q hq), fun q hq hK hr => up _ _ tag4 (h.c4 q hq hK (by rw [rf] at hr; exact hr)), fun q hq hK s hs hr hu hc => up _ _ tag4 (h.co q hq hK s hs hr (by rw [us] at hu; exact hu) (by rw [cd] at hc; exact hc)), fun q hq hK f hf hKf => up _ _ tag4 (h.cr q hq hK f hf hKf), fun q hq => up _ _ tag2 (h.q2 q hq), fun q hq => up _ _ tag1 (h.q1 q hq)⟩
theorem upn_iff {g : Bool → Int → Int → Bool} {c b : Bool} {r q s x : Int} : updB g c (mk2 (g c) r q) b s x = true ↔ g b s x = true ∨ (b = c ∧ s = r ∧ x = q) := by
  by_cases eb : b = c
  · subst eb; rw [updB_at, mk2_iff]; simp
  · rw [updB_off eb]; simp [eb]
theorem ref_off {b c : Bool} {r s : Int} (h : ¬ (c = b ∧ s = r)) : (refE e b r).rf c s = e.rf c s := by
  unfold refE
  split
  · rfl
  · show updB e.rf b (upd (e.rf b) r true) c s = e.rf c s
    by_cases ec : c = b
    · subst ec; rw [updB_at, upd_off fun e1 => h ⟨rfl, e1⟩]
    · rw [updB_off ec]
theorem ref_same {b : Bool} {r : Int} : (refE e b r).ms = e.ms ∧ (refE e b r).cd = e.cd ∧ (refE e b r).ob = e.ob ∧ (refE e b r).op = e.op ∧ (refE e b r).cb = e.cb ∧ (refE e b r).mq = e.mq := by
  unfold refE
  split <;> exact ⟨rfl, rfl, rfl, rfl, rfl, rfl⟩
theorem cls_same {b : Bool} {r : Int} : (clsE e b r).ms = e.ms ∧ (clsE e b r).cd = e.cd ∧ (clsE e b r).ob = e.ob ∧ (clsE e b r).rf = e.rf ∧ (clsE e b r).cb = e.cb ∧ (clsE e b r).mq = e.mq := by
  unfold clsE
  split <;> exact ⟨rfl, rfl, rfl, rfl, rfl, rfl⟩
/-- A - of strict proof at a rule that waits for it. -/
theorem Iv.minusS1 (hp : Pf T F n) (hs_ : Sol T F m k) (h : Iv T F n m G e) (hc : Cmp T F n K G e) {r : Nat} {q : Int} (hr : r < T.rules.length) (hk : kindB T (kW false) r = true) (hb : q ∈ bodyM T r) (hq : has e q 2 = true) :
    ∃ G', Iv T F n m G' (minusS1 T e r) ∧ Cmp T F n K G' (minusS1 T e r) ∧ (∀ b s x, G'.n b s x = true ↔ G.n b s x = true ∨ (b = false ∧ s = (r : Int) ∧ x = q)) ∧ G'.a = G.a ∧ G'.f = G.f := by
  have i1 := h.ref (b := false) hr hb hq
  unfold Fa.minusS1
  by_cases hf : e.rf false r = true
  · have e1 : refE e false r = e := by unfold refE; rw [if_pos hf]
    rw [e1] at i1
    rw [if_pos hf]
    exact ⟨_, i1, hc.tem Tem.refl rfl rfl rfl hc.c1, fun b s x => upn_iff, rfl, rfl⟩
  · rw [if_neg hf]
    obtain ⟨hd, ehd, hdn⟩ := head_nat hp hr
    have hrm : (r : Int) ∈ rulesL T (kL false) hd := by rw [← ehd]; exact kind_mem hr hk
    have hn : G.c false r = false := by
      cases hg : G.c false r with
      | false => rfl
      | true => exact absurd (h.s.c false r hg) hf
    have i2 := i1.cls hp (b := false) hdn hrm hn rf_at
    dsimp only
    rw [ehd]
    have hrf : ∀ c s, ¬ (c = false ∧ s = (r : Int)) → (clsE (refE e false r) false hd).rf c s = e.rf c s := fun c s hcs => by rw [cls_same.2.2.2.1]; exact ref_off hcs
    have hms : (clsE (refE e false r) false hd).ms = e.ms := cls_same.1.trans ref_same.1
    have hcd : (clsE (refE e false r) false hd).cd = e.cd := cls_same.2.1.trans ref_same.2.1
    have hob : (clsE (refE e false r) false hd).ob = e.ob := cls_same.2.2.1.trans ref_same.2.2.1
    have hcb : (clsE (refE e false r) false hd).cb = e.cb := cls_same.2.2.2.2.1.trans ref_same.2.2.2.2.1
    have hhas : ∀ z t, has (clsE (refE e false r) false hd) z t = has e z t := fun z t => by unfold has; rw [cls_same.2.2.2.2.2, ref_same.2.2.2.2.2]
    have gc : ∀ b (s : Nat), s < T.rules.length → kindB T (kL b) s = true → (clsE (refE e false r) false hd).rf b s = true → updB G.c false (upd (G.c false) r true) b s = true := fun b s hs hks hfs => by
      by_cases ebs : b = false ∧ (s : Int) = r
      · obtain ⟨rfl, es⟩ := ebs
        rw [updB_at, es, upd_at]
      · rw [hrf b s ebs] at hfs
        have := hc.gc b s hs hks hfs
        by_cases eb : b = false
        · subst eb; rw [updB_at, upd_off fun e1 => ebs ⟨rfl, e1⟩]; exact this
        · rw [updB_off eb]; exact this
    have key : ∀ z : Nat, z < n → (z : Int) ∉ F → (∀ s ∈ rulesL T kS z, (clsE (refE e false r) false hd).rf false s = true) → has e z 2 = true ∨ z = hd ∧ clsB (refE e false r) false hd = true := fun z hz hF hall => by
      by_cases ez : z = hd
      · subst ez
        refine .inr ⟨rfl, decide_eq_true (op_one i1.x hdn hrm hn ?_ fun t ht hne => ?_)⟩
        · exact open_not i1.x (fun _ => hF) fun t ht => by have := hall t ht; rw [cls_same.2.2.2.1] at this; exact this
        · obtain ⟨a, rfl, ha, -, hka⟩ := rule_lt ht
          have h3 := hall a ht
          rw [hrf false a fun e1 => hne e1.2] at h3
          exact hc.gc false a ha hka h3
      · refine .inl (hc.c2 z hz hF fun s hs => ?_)
        have h3 := hall s hs
        obtain ⟨a, rfl, ha, hha, -⟩ := rule_lt hs
        rw [hrf false a fun e1 => ez (by have : a = r := by omega
                                         subst this; omega)] at h3
        exact h3
    have hus : ∀ {e2 : Es}, e2.ms = (clsE (refE e false r) false hd).ms → used e2 = used e := fun h0 => used_ms (h0.trans hms)
    have hp3 : ∀ {e2 : Es}, e2.ms = (clsE (refE e false r) false hd).ms → e2.ob = (clsE (refE e false r) false hd).ob → (∀ z, has e z 3 = true → has e2 z 3 = true) → P3 T n e2 := fun a b c => hc.p3.ms (by rw [a, hms]) (b.trans hob) c
    by_cases hcb2 : clsB (refE e false r) false hd = true
    · rw [if_pos hcb2]
      have hall := cls_all i1.x (b := false) hdn hrm hn (of_decide_eq_true hcb2)
      have hF : (hd : Int) ∉ F := fun hm => by
        have := hall.1
        unfold openZ at this
        rw [Bool.or_eq_false_iff] at this
        simp [hm] at this
      have hm2 : hs m hd 2 = true := may2 hp hs_ i2.x i2.s hdn hF fun t ht => by
        rw [cls_same.2.2.2.1]
        obtain ⟨a, rfl, ha, -, -⟩ := rule_lt ht
        rcases hall.2 a ht with h5 | h5
        · rw [h5]; exact rf_at
        · exact i1.s.c false a h5
      have t3 := tel_tell i2.y (q := (hd : Int)) tag2
      refine ⟨_, i2.tell tag2 hm2, hc.of (hus t3.ms) (by rw [t3.ms, hms]) (by rw [t3.rf]; funext s; exact hrf true s (by simp)) (t3.cb.trans hcb) (tell_ob.2.1.trans hcd) (fun z t ht hz => t3.up z t ht (by rw [hhas]; exact hz)) rfl rfl (fun z hz hFz hall2 => ?_) (hp3 t3.ms tell_ob.1 fun z hz => t3.up z 3 tag3 (by rw [hhas]; exact hz)) (fun b s hs hks hfs => gc b s hs hks (by rw [t3.rf] at hfs; exact hfs)), fun b s x => upn_iff, rfl, rfl⟩
      rcases key z hz hFz (by rw [t3.rf] at hall2; exact hall2) with h5 | ⟨h5, -⟩
      · exact t3.up _ _ tag2 (by rw [hhas]; exact h5)
      · rw [h5]; exact tell_has i2.y tag2
    · rw [if_neg hcb2]
      refine ⟨_, i2, hc.of (hus rfl) (by rw [hms]) (by funext s; exact hrf true s (by simp)) hcb hcd (fun z t ht hz => by rw [hhas]; exact hz) rfl rfl (fun z hz hFz hall2 => ?_) (hp3 rfl rfl fun z hz => by rw [hhas]; exact hz) gc, fun b s x => upn_iff, rfl, rfl⟩
      rcases key z hz hFz hall2 with h5 | ⟨-, h5⟩
      · rw [hhas]; exact h5
      · exact absurd h5 hcb2
theorem minusS_fold (hp : Pf T F n) (hs_ : Sol T F m k) {q : Int} : ∀ (l : List Int) {G : Gho} {e : Es}, (∀ r ∈ l, r ∈ usersL T false q) → Iv T F n m G e → Cmp T F n K G e → has e q 2 = true →
    ∃ G', Iv T F n m G' (l.foldl (Fa.minusS1 T) e) ∧ Cmp T F n K G' (l.foldl (Fa.minusS1 T) e) ∧ (∀ b s x, G'.n b s x = true ↔ G.n b s x = true ∨ (b = false ∧ s ∈ l ∧ x = q)) ∧ G'.a = G.a ∧ G'.f = G.f := by
  intro l
  induction l with
  | nil => intro G e _ h hc _; exact ⟨G, h, hc, fun b r x => by simp, rfl, rfl⟩
  | cons r0 l ih =>
    intro G e hl h hc hq
    obtain ⟨r, rfl, hr, hk, hb⟩ := user_in (hl r0 List.mem_cons_self)
    obtain ⟨G1, i1, c1, n1, a1, f1⟩ := h.minusS1 hp hs_ hc hr hk hb hq
    obtain ⟨G2, i2, c2, n2, a2, f2⟩ := ih (fun s hs => hl s (List.mem_cons_of_mem _ hs)) i1 c1 (((Gro.refl h.y).minusS1 (T := T) (r := r)).up _ _ tag2 hq)
    refine ⟨G2, i2, c2, fun b s x => ?_, a2.trans a1, f2.trans f1⟩
    rw [n2, n1]
    simp only [List.mem_cons]
    constructor
    · rintro ((h | ⟨h1, h2, h3⟩) | ⟨h1, h2, h3⟩)
      · exact .inl h
      · exact .inr ⟨h1, .inl h2, h3⟩
      · exact .inr ⟨h1, .inr h2, h3⟩
    · rintro (h | ⟨h1, h2 | h2, h3⟩)
      · exact .inl (.inl h)
      · exact .inl (.inr ⟨h1, h2, h3⟩)
      · exact .inr ⟨h1, h2, h3⟩
/-- A firm foe cleared. -/
theorem clr_fold (hp : Pf T F n) (hs_ : Sol T F m k) {q : Nat} (hqn : q < n) (hfm : firmB T F q = true) : ∀ (l : List Int) {G : Gho} {e : Es}, l.Nodup → (∀ p ∈ l, p ∈ rivalsL T q ∧ G.f q p = false) → Iv T F n m G e → Cmp T F n K G e → has e q 2 = true →
    ∃ G', Iv T F n m G' (l.foldl (clr1 T) e) ∧ Cmp T F n K G' (l.foldl (clr1 T) e) ∧ (∀ f p, G'.f f p = true ↔ G.f f p = true ∨ (f = (q : Int) ∧ p ∈ l)) ∧ G'.a = G.a ∧ G'.n = G.n := by
  intro l
  induction l with
  | nil => intro G e _ _ h hc _; exact ⟨G, h, hc, fun f p => by simp, rfl, rfl⟩
  | cons p0 l ih =>
    intro G e hnd hl h hc hq
    obtain ⟨hn1, hn2⟩ := List.nodup_cons.1 hnd
    obtain ⟨hpr, hg⟩ := hl p0 List.mem_cons_self
    obtain ⟨p00, p01⟩ := rival_in hp hqn hpr
    obtain ⟨p, rfl⟩ := Int.eq_ofNat_of_zero_le p00
    obtain ⟨hf2, ht⟩ := mem_rival.1 hpr
    have i1 := h.clearF hp (show p < n by omega) (foe_sym hp (by omega) (by omega) hf2) hfm hg ht hq
    obtain ⟨i2, t2, o2, c2, p2, v2⟩ := i1.prove hp hs_ (show p < n by omega)
    have k1 : Tel e (clearE e p) := ⟨rfl, rfl, rfl, rfl, fun _ _ _ hz => hz, [], by simp [clearE]⟩
    have t3 := k1.trans t2
    have cc : Cmp T F n K { G with f := mk2 G.f q p } (proveE T (clearE e p) p) := hc.of (used_ms t3.ms) (by rw [t3.ms]) (by rw [t3.rf]) t3.cb (by rw [c2]; rfl) t3.up rfl rfl (fun z hz hF hr => t3.up _ _ tag2 (hc.c2 z hz hF (by rw [t3.rf] at hr; exact hr))) (fun z hz hu h0 => by
      rw [used_ms t3.ms] at hu
      rw [o2] at h0
      by_cases ez : z = p
      · subst ez; exact v2 hu h0
      · refine t3.up _ _ tag3 (hc.p3 z hz hu ?_)
        have h0 : upd e.ob p (dec (e.ob p)) z = 0 := h0
        rw [upd_off (by omega)] at h0
        exact h0) fun b s hs hk hf => by rw [t3.rf] at hf; exact hc.gc b s hs hk hf
    obtain ⟨G2, j2, d2, f2, a2, n2⟩ := ih (e := clr1 T e p) hn2 (fun z hz => ⟨(hl z (List.mem_cons_of_mem _ hz)).1, by
      cases hg2 : mk2 G.f q p q z with
      | false => exact hg2
      | true =>
        rcases mk2_iff.1 hg2 with h5 | ⟨-, h5⟩
        · rw [(hl z (List.mem_cons_of_mem _ hz)).2] at h5; cases h5
        · exact absurd (h5 ▸ hz) hn1⟩) i2 cc (t3.up _ _ tag2 hq)
    refine ⟨G2, j2, d2, fun f z => ?_, a2, n2⟩
    rw [f2]
    show (mk2 G.f q p f z = true ∨ _) ↔ _
    rw [mk2_iff]
    simp only [List.mem_cons]
    constructor
    · rintro ((h | ⟨h1, h2⟩) | ⟨h1, h2⟩)
      · exact .inl h
      · exact .inr ⟨h1, .inl h2⟩
      · exact .inr ⟨h1, .inr h2⟩
    · rintro (h | ⟨h1, h2 | h2⟩)
      · exact .inl (.inl h)
      · exact .inl (.inr ⟨h1, h2⟩)
      · exact .inr ⟨h1, h2⟩
theorem Iv.disprove (hp : Pf T F n) (hs_ : Sol T F m k) (h : Iv T F n m G e) {q : Nat} (hq : q < n) : Iv T F n m G (disproveE T e q) ∧ Tem e (disproveE T e q) ∧ (disproveE T e q).ms = e.ms ∧ ((forsB T e q || refuB T e q || overB T e q) = true → has e q 2 = true → has (disproveE T e q) q 4 = true) := by
  unfold disproveE
  by_cases hc : (forsB T e q || refuB T e q || overB T e q) = true
  · rw [if_pos hc]
    refine ⟨h.lose fun h2 => ?_, tem_lose h.y, lose_ms, fun _ h2 => lose_has h.y h2⟩
    have h2m := h.s.mm q 2 (by omega) (by omega) tag2 h2
    rw [Bool.or_eq_true, Bool.or_eq_true] at hc
    have fors : (∀ r ∈ rulesL T kT q, e.rf true r = true) → hs m q 4 = true := fun hall => may4 hp hs_ hq h2m (.inl fun r hr => by
      obtain ⟨a, rfl, ha, -, -⟩ := rule_lt hr
      exact h.s.part hp h.x (b := true) ha (hall a hr))
    rcases hc with (hc | hc) | hc
    · refine fors fun r hr => ?_
      unfold forsB at hc
      rw [Bool.not_eq_true', List.any_eq_false] at hc
      have := hc r hr
      unfold dropped at this
      simpa using this
    · unfold refuB at hc
      obtain ⟨f, hf, hf1⟩ := List.any_eq_true.1 hc
      obtain ⟨f0, f1⟩ := hp.foe q hq f hf
      exact may4 hp hs_ hq h2m (.inr (.inl ⟨f, hf, h.s.mm f 1 f0 f1 tag1 hf1⟩))
    · unfold overB at hc
      obtain ⟨f, hf, hf1⟩ := List.any_eq_true.1 hc
      obtain ⟨s, hs2, hs3⟩ := List.any_eq_true.1 hf1
      rw [Bool.and_eq_true] at hs3
      obtain ⟨a, rfl, ha, hha, -⟩ := rule_lt hs2
      by_cases ht : rulesL T kT (q : Int) = []
      · exact fors fun r hr => by rw [ht] at hr; cases hr
      · exact h.over hp hs_ hq ha (mem_rival.2 ⟨by rw [hha]; exact foe_sym hp (by omega) (by omega) hf, ht⟩) hs3.1 (of_decide_eq_true hs3.2) h2
  · rw [if_neg hc]
    exact ⟨h, Tem.refl, rfl, fun h2 => absurd h2 hc⟩
end
end Go.Proofs.YthifoamnmhlghaaGreat.Fa
