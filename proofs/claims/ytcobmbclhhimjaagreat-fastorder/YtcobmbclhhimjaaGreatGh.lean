/- What the counters count: marks of a proof beside the engine's own. PLAIN. -/
import Derived.Test.YtcobmbclhhimjaaGreatSok
namespace Go.Proofs.YtcobmbclhhimjaaGreat.Fa

/-- What is accounted: at a rule of kind b a + (a), a - (n) of a literal of its body; a rule closed for its head (c); a firm foe (f), a rule against (r) cleared for a literal; a rule withdrawn against another (w); a rule that has defended against another (d). -/
structure Gho where
  a : Bool → Int → Int → Bool
  n : Bool → Int → Int → Bool
  c : Bool → Int → Bool
  f : Int → Int → Bool
  r : Int → Int → Bool
  w : Int → Int → Bool
  d : Int → Int → Bool
def lf (l : List Int) (P : Int → Bool) : Int := ((l.filter fun x => !P x).length : Nat)
section
variable {l : List Int} {P Q : Int → Bool} {x : Int}
theorem lf_nonneg : 0 ≤ lf l P := Int.natCast_nonneg _
theorem lf_le : lf l P ≤ (l.length : Int) := by unfold lf; have := List.length_filter_le (fun x => !P x) l; omega
theorem lf_zero : lf l P = 0 ↔ ∀ x ∈ l, P x = true := by
  unfold lf
  constructor
  · intro h y hy
    cases hp : P y with
    | true => rfl
    | false =>
      have h2 : y ∈ l.filter fun x => !P x := List.mem_filter.2 ⟨hy, by simp [hp]⟩
      have := List.length_pos_of_mem h2
      omega
  · intro h
    have : (l.filter fun x => !P x) = [] := List.filter_eq_nil_iff.2 fun y hy => by simp [h y hy]
    rw [this]
    rfl
theorem lf_congr (h : ∀ y ∈ l, P y = Q y) : lf l P = lf l Q := by
  unfold lf
  rw [List.filter_congr fun y hy => by rw [h y hy]]
theorem lf_mark (hn : l.Nodup) (hx : x ∈ l) (hp : P x = false) : lf l (upd P x true) = lf l P - 1 := by
  induction l with
  | nil => cases hx
  | cons y l ih =>
    obtain ⟨h1, h2⟩ := List.nodup_cons.1 hn
    by_cases e : x = y
    · subst e
      have h3 : lf l (upd P x true) = lf l P := lf_congr fun z hz => upd_off fun (e : z = x) => h1 (e ▸ hz)
      unfold lf at h3 ⊢
      rw [List.filter_cons_of_neg (by simp [upd_at]), List.filter_cons_of_pos (by simp [hp])]
      simp only [List.length_cons]
      omega
    · have hm : x ∈ l := (List.mem_cons.1 hx).resolve_left e
      have h3 := ih h2 hm
      unfold lf at h3 ⊢
      have e2 : upd P x true y = P y := upd_off fun (e' : y = x) => e e'.symm
      cases hy : P y with
      | true => rw [List.filter_cons_of_neg (by simp [e2, hy]), List.filter_cons_of_neg (by simp [hy])]; exact h3
      | false => rw [List.filter_cons_of_pos (by simp [e2, hy]), List.filter_cons_of_pos (by simp [hy])]; simp only [List.length_cons]; omega
theorem lf_off (hx : x ∉ l) : lf l (upd P x true) = lf l P := lf_congr fun z hz => upd_off fun (e : z = x) => hx (e ▸ hz)
end
/-- The counters, exactly. -/
structure Exa (T : Th) (F : List Int) (n : Nat) (G : Gho) (e : Es) : Prop where
  ms : ∀ b (r : Nat), r < T.rules.length → kindB T (kW b) r = true → e.ms b r = lf (bodyM T r) (G.a b r)
  rf : ∀ b (r : Nat), r < T.rules.length → e.rf b r = (bodyM T r).any (G.n b r)
  op : ∀ b (q : Nat), q < n → e.op b q = if openZ T F b q || (rulesL T (kL b) q).isEmpty then 0 else max 1 (lf (rulesL T (kL b) q) (G.c b))
  cd : ∀ s : Nat, s < T.rules.length → ∀ p ∈ rivalsL T (headOf T s), e.cd s p = lf ((rulesL T kT p).filter fun t => beatB T t s) fun t => G.w t s
  ob : ∀ p : Nat, p < n → rulesL T kT p ≠ [] → e.ob p = lf ((row T.foes p).filter (firmB T F)) (fun f => G.f f p) + lf (agL T p) fun s => G.r s p
def noG : Gho := ⟨fun _ _ _ => false, fun _ _ _ => false, fun _ _ => false, fun _ _ => false, fun _ _ => false, fun _ _ => false, fun _ _ => false⟩
theorem lf_none {l : List Int} : lf l (fun _ => false) = (l.length : Int) := congrArg (fun k : Nat => (k : Int)) (congrArg List.length (List.filter_eq_self.2 fun _ _ => rfl))
theorem Exa.start {T : Th} {F : List Int} {n : Nat} : Exa T F n noG (startE T F) := by
  refine ⟨fun b r hr hk => ?_, fun b r hr => ?_, fun b q hq => ?_, fun s hs p hp => ?_, fun p hp ht => ?_⟩
  · show (if kindB T (kW b) r then ((bodyM T r).length : Int) else 0) = lf _ fun _ => false
    rw [if_pos hk, lf_none]
  · show false = (bodyM T r).any fun _ => false
    simp
  · show (if openZ T F b q then 0 else ((rulesL T (kL b) q).length : Int)) = if openZ T F b q || (rulesL T (kL b) q).isEmpty then 0 else max 1 (lf (rulesL T (kL b) q) fun _ => false)
    rw [lf_none]
    cases openZ T F b q with
    | true => rfl
    | false =>
      cases h : rulesL T (kL b) (q : Int) with
      | nil => rfl
      | cons x l => simp; omega
  · show cnt (rulesL T kT p) (fun t => beatB T t s) = lf _ fun _ => false
    rw [lf_none]
    rfl
  · show (if (rulesL T kT (p : Int)).isEmpty then 0 else cnt (row T.foes p) (firmB T F) + ((agL T p).length : Nat)) = lf _ (fun _ => false) + lf _ fun _ => false
    rw [lf_none, lf_none, if_neg (by simpa using ht)]
    rfl
def mk2 (g : Int → Int → Bool) (x y : Int) : Int → Int → Bool := upd g x (upd (g x) y true)
theorem mk2_col {g : Int → Int → Bool} {x y z : Int} : (fun u => mk2 g x y u z) = if z = y then upd (fun u => g u y) x true else fun u => g u z := by
  funext u
  unfold mk2
  by_cases e : u = x
  · subst e
    rw [upd_at]
    by_cases e2 : z = y
    · subst e2; rw [if_pos rfl, upd_at, upd_at]
    · rw [if_neg e2, upd_off e2]
  · rw [upd_off e]
    by_cases e2 : z = y
    · subst e2; rw [if_pos rfl, upd_off e]
    · rw [if_neg e2]
theorem mk2_row {g : Int → Int → Bool} {x y : Int} : mk2 g x y x = upd (g x) y true := upd_at
theorem mk2_off {g : Int → Int → Bool} {x y u : Int} (h : u ≠ x) : mk2 g x y u = g u := upd_off h
theorem mk2_le {g : Int → Int → Bool} {x y u v : Int} (h : g u v = true) : mk2 g x y u v = true := by
  unfold mk2
  by_cases e : u = x
  · subst e
    rw [upd_at]
    by_cases e2 : v = y
    · subst e2; rw [upd_at]
    · rw [upd_off e2]; exact h
  · rw [upd_off e]; exact h
theorem mk2_iff {g : Int → Int → Bool} {x y u v : Int} : mk2 g x y u v = true ↔ g u v = true ∨ (u = x ∧ v = y) := by
  unfold mk2
  by_cases e : u = x
  · subst e
    rw [upd_at]
    by_cases e2 : v = y
    · subst e2; rw [upd_at]; simp
    · rw [upd_off e2]; simp [e2]
  · rw [upd_off e]; simp [e]
theorem dec_eq {v : Int} (h0 : 0 < v) (h1 : v < 1099511627776) : dec v = v - 1 := by
  unfold dec
  rw [IntKind.wrap_i64]
  omega
section
variable {T : Th} {F : List Int} {n : Nat} {G : Gho} {e e' : Es}
theorem Exa.same (h : Exa T F n G e) (h1 : e'.ms = e.ms) (h2 : e'.rf = e.rf) (h3 : e'.op = e.op) (h4 : e'.cd = e.cd) (h5 : e'.ob = e.ob) : Exa T F n G e' :=
  ⟨fun b r hr hk => by rw [h1]; exact h.ms b r hr hk, fun b r hr => by rw [h2]; exact h.rf b r hr, fun b q hq => by rw [h3]; exact h.op b q hq, fun s hs p hp => by rw [h4]; exact h.cd s hs p hp, fun p hp ht => by rw [h5]; exact h.ob p hp ht⟩
theorem Exa.tell (h : Exa T F n G e) {q t : Int} : Exa T F n G (tell e q t) := by
  unfold Fa.tell
  split
  · exact h
  · exact h.same rfl rfl rfl rfl rfl
theorem Exa.lose (h : Exa T F n G e) {q : Int} : Exa T F n G (loseE e q) := by
  unfold loseE
  split
  · exact h.tell
  · exact h
theorem lf_pos {l : List Int} {P : Int → Bool} {x : Int} (hx : x ∈ l) (hp : P x = false) : 0 < lf l P := by
  have h0 := lf_nonneg (l := l) (P := P)
  have : lf l P ≠ 0 := fun e => by have := lf_zero.1 e x hx; rw [hp] at this; cases this
  omega
theorem body_nd (hp : Pf T F n) {r : Nat} (hr : r < T.rules.length) : (bodyM T r).Nodup ∧ (bodyM T r).length ≤ 16 := by
  obtain ⟨x, hx⟩ := get_at hr
  obtain ⟨-, -, e⟩ := kind_at (p := kA) hx
  rw [e]
  have := hp.ok.rule x (List.mem_of_getElem? hx)
  exact ⟨pw_nodup (risesF_in2 (by omega) this.2.2.2.2.2).2, this.2.2.2.2.1⟩
theorem Exa.met (hp : Pf T F n) (h : Exa T F n G e) {b : Bool} {r : Nat} {q : Int} (hr : r < T.rules.length) (hk : kindB T (kW b) r = true) (hq : q ∈ bodyM T r) (hn : G.a b r q = false) : Exa T F n { G with a := updB G.a b (mk2 (G.a b) r q) } (metE e b r) := by
  obtain ⟨hnd, hl⟩ := body_nd hp hr
  refine ⟨fun c s hs hks => ?_, h.rf, h.op, h.cd, h.ob⟩
  show updB e.ms b (upd (e.ms b) r (dec (e.ms b r))) c s = lf (bodyM T s) (updB G.a b (mk2 (G.a b) r q) c s)
  by_cases ec : c = b
  · subst ec
    rw [updB_at, updB_at]
    by_cases es : s = r
    · subst es
      have h1 := h.ms c s hr hk
      have hpos := lf_pos hq hn
      have hle := lf_le (l := bodyM T s) (P := G.a c s)
      rw [upd_at, mk2_row, lf_mark hnd hq hn, h1, dec_eq hpos (by omega)]
    · rw [upd_off (by omega), mk2_off (by omega)]
      exact h.ms c s hs hks
  · rw [updB_off ec, updB_off ec]
    exact h.ms c s hs hks
theorem any_mark {l : List Int} {P : Int → Bool} {x : Int} (hx : x ∈ l) : l.any (upd P x true) = true := List.any_eq_true.2 ⟨x, hx, upd_at⟩
theorem Exa.ref (h : Exa T F n G e) {b : Bool} {r : Nat} {q : Int} (hr : r < T.rules.length) (hq : q ∈ bodyM T r) : Exa T F n { G with n := updB G.n b (mk2 (G.n b) r q) } (refE e b r) := by
  have key : ∀ c (s : Nat), s < T.rules.length → (if c = b ∧ s = r then true else e.rf c s) = (bodyM T s).any (updB G.n b (mk2 (G.n b) r q) c s) := by
    intro c s hs
    by_cases ec : c = b
    · subst ec
      rw [updB_at]
      by_cases es : s = r
      · subst es
        rw [if_pos ⟨rfl, rfl⟩, mk2_row, any_mark hq]
      · rw [if_neg fun a => es a.2, mk2_off (by omega)]
        exact h.rf c s hs
    · rw [if_neg fun a => ec a.1, updB_off ec]
      exact h.rf c s hs
  unfold refE
  by_cases hrf : e.rf b r = true
  · rw [if_pos hrf]
    refine ⟨h.ms, fun c s hs => ?_, h.op, h.cd, h.ob⟩
    rw [← key c s hs]
    by_cases ec : c = b ∧ s = r
    · rw [if_pos ec, ec.1, ec.2]; exact hrf
    · rw [if_neg ec]
  · rw [if_neg hrf]
    refine ⟨h.ms, fun c s hs => ?_, h.op, h.cd, h.ob⟩
    rw [← key c s hs]
    show updB e.rf b (upd (e.rf b) r true) c s = _
    by_cases ec : c = b
    · subst ec
      rw [updB_at]
      by_cases es : s = r
      · subst es; rw [upd_at, if_pos ⟨rfl, rfl⟩]
      · rw [upd_off (by omega), if_neg fun a => es a.2]
    · rw [updB_off ec, if_neg fun a => ec a.1]
theorem rules_nd {p : RuleM → Bool} {z : Int} : (rulesL T p z).Nodup := by
  unfold rulesL forL
  refine List.Pairwise.map _ (fun a b h => ?_) ((List.nodup_range).filter _)
  intro e
  exact h (Int.ofNat.inj e)
theorem Exa.cls (hp : Pf T F n) (h : Exa T F n G e) {b : Bool} {r : Int} {q : Nat} (hq : q < n) (hr : r ∈ rulesL T (kL b) q) (hn : G.c b r = false) : Exa T F n { G with c := updB G.c b (upd (G.c b) r true) } (clsE e b q) := by
  have hrl := hp.ok.rl
  have hlen : (rulesL T (kL b) (q : Int)).length ≤ T.rules.length := rules_len
  have hle := lf_le (l := rulesL T (kL b) (q : Int)) (P := G.c b)
  have hpos := lf_pos hr hn
  have hmk := lf_mark rules_nd hr hn
  have h1 := h.op b q hq
  have hne : (rulesL T (kL b) (q : Int)).isEmpty = false := by
    cases hh : rulesL T (kL b) (q : Int) with
    | nil => rw [hh] at hr; cases hr
    | cons _ _ => rfl
  have other : ∀ c (z : Nat), z < n → ¬ (c = b ∧ z = q) → lf (rulesL T (kL c) z) (updB G.c b (upd (G.c b) r true) c) = lf (rulesL T (kL c) z) (G.c c) := by
    intro c z hz hne2
    by_cases ec : c = b
    · subst ec
      rw [updB_at]
      refine lf_off fun hm => hne2 ⟨rfl, ?_⟩
      obtain ⟨a, x, e1, hx, -, hh⟩ := mem_rules.1 hm
      obtain ⟨a2, x2, e2, hx2, -, hh2⟩ := mem_rules.1 hr
      have : a = a2 := by omega
      subst this
      rw [hx] at hx2
      cases hx2
      omega
    · rw [updB_off ec]
  unfold clsE
  rw [hne, Bool.or_false] at h1
  by_cases h2 : 1 < e.op b q
  · rw [if_pos h2]
    refine ⟨h.ms, h.rf, fun c z hz => ?_, h.cd, h.ob⟩
    show updB e.op b (upd (e.op b) q (dec (e.op b q))) c z = if openZ T F c z || (rulesL T (kL c) z).isEmpty then 0 else max 1 (lf (rulesL T (kL c) z) (updB G.c b (upd (G.c b) r true) c))
    by_cases ec : c = b ∧ z = q
    · obtain ⟨rfl, rfl⟩ := ec
      rw [updB_at, upd_at, updB_at, hne, Bool.or_false, hmk]
      cases ho : openZ T F c z with
      | true => rw [ho] at h1; simp at h1; omega
      | false =>
        rw [ho] at h1
        simp only [Bool.false_eq_true, if_false] at h1 ⊢
        rw [dec_eq (by omega) (by omega)]
        omega
    · rw [other c z hz ec]
      have : updB e.op b (upd (e.op b) q (dec (e.op b q))) c z = e.op c z := by
        by_cases ec2 : c = b
        · subst ec2; rw [updB_at, upd_off (by intro e3; exact ec ⟨rfl, by omega⟩)]
        · rw [updB_off ec2]
      rw [this]
      exact h.op c z hz
  · rw [if_neg h2]
    refine ⟨h.ms, h.rf, fun c z hz => ?_, h.cd, h.ob⟩
    show e.op c z = if openZ T F c z || (rulesL T (kL c) z).isEmpty then 0 else max 1 (lf (rulesL T (kL c) z) (updB G.c b (upd (G.c b) r true) c))
    by_cases ec : c = b ∧ z = q
    · obtain ⟨rfl, rfl⟩ := ec
      rw [updB_at, hne, Bool.or_false, hmk, h1]
      rw [h1] at h2
      cases ho : openZ T F c z with
      | true => rfl
      | false =>
        rw [ho] at h2
        simp only [Bool.false_eq_true, if_false] at h2 ⊢
        omega
    · rw [other c z hz ec]
      exact h.op c z hz
theorem ag_nd {p : Int} : (agL T p).Nodup := by
  unfold agL
  refine List.Pairwise.map _ (fun a b h => ?_) ((List.nodup_range).filter _)
  intro e
  exact h (Int.ofNat.inj e)
theorem ag_len {p : Int} : (agL T p).length ≤ T.rules.length := by
  unfold agL
  rw [List.length_map]
  exact Nat.le_trans (List.length_filter_le _ _) (by simp)
theorem Exa.clearF (hp : Pf T F n) (h : Exa T F n G e) {f : Int} {p : Nat} (hpn : p < n) (hf : f ∈ row T.foes p) (hfm : firmB T F f = true) (hn : G.f f p = false) (ht : rulesL T kT p ≠ []) : Exa T F n { G with f := mk2 G.f f p } (clearE e p) := by
  have hm : f ∈ (row T.foes p).filter (firmB T F) := List.mem_filter.2 ⟨hf, hfm⟩
  have hnd : ((row T.foes (p : Int)).filter (firmB T F)).Nodup := (pw_nodup (foe_pw hp hpn).1).filter _
  have h64 : ((row T.foes (p : Int)).filter (firmB T F)).length ≤ 64 := Nat.le_trans (List.length_filter_le _ _) (foe_pw hp hpn).2
  have hmk := lf_mark (P := fun u => G.f u p) hnd hm hn
  have hpos := lf_pos (P := fun u => G.f u p) hm hn
  have hle := lf_le (l := (row T.foes (p : Int)).filter (firmB T F)) (P := fun u => G.f u p)
  have hr0 := lf_nonneg (l := agL T p) (P := fun s => G.r s p)
  have hr1 := lf_le (l := agL T p) (P := fun s => G.r s p)
  have hal := ag_len (T := T) (p := p)
  have hrl := hp.ok.rl
  refine ⟨h.ms, h.rf, h.op, h.cd, fun z hz htz => ?_⟩
  show upd e.ob p (dec (e.ob p)) z = lf _ (fun u => mk2 G.f f p u z) + lf _ fun s => G.r s z
  rw [mk2_col]
  by_cases ez : z = p
  · subst ez
    rw [upd_at, if_pos rfl, hmk, h.ob z hz htz, dec_eq (by omega) (by omega)]
    omega
  · rw [upd_off (by omega), if_neg (by omega)]
    exact h.ob z hz htz
theorem Exa.clearR (hp : Pf T F n) (h : Exa T F n G e) {s : Int} {p : Nat} (hpn : p < n) (hs : s ∈ agL T p) (hn : G.r s p = false) (ht : rulesL T kT p ≠ []) : Exa T F n { G with r := mk2 G.r s p } (clearE e p) := by
  have hmk := lf_mark (P := fun u => G.r u p) ag_nd hs hn
  have hpos := lf_pos (P := fun u => G.r u p) hs hn
  have h64 : ((row T.foes (p : Int)).filter (firmB T F)).length ≤ 64 := Nat.le_trans (List.length_filter_le _ _) (foe_pw hp hpn).2
  have hle := lf_le (l := (row T.foes (p : Int)).filter (firmB T F)) (P := fun u => G.f u p)
  have hle0 := lf_nonneg (l := (row T.foes (p : Int)).filter (firmB T F)) (P := fun u => G.f u p)
  have hr1 := lf_le (l := agL T p) (P := fun s => G.r s p)
  have hal := ag_len (T := T) (p := p)
  have hrl := hp.ok.rl
  refine ⟨h.ms, h.rf, h.op, h.cd, fun z hz htz => ?_⟩
  show upd e.ob p (dec (e.ob p)) z = lf _ (fun u => G.f u z) + lf _ fun u => mk2 G.r s p u z
  rw [mk2_col]
  by_cases ez : z = p
  · subst ez
    rw [upd_at, if_pos rfl, hmk, h.ob z hz htz, dec_eq (by omega) (by omega)]
    omega
  · rw [upd_off (by omega), if_neg (by omega)]
    exact h.ob z hz htz
theorem Exa.withd (hp : Pf T F n) (h : Exa T F n G e) {t : Int} {s p : Nat} (hs : s < T.rules.length) (hpr : (p : Int) ∈ rivalsL T (headOf T s)) (ht : t ∈ rulesL T kT p) (hb : beatB T t s = true) (hn : G.w t s = false) : Exa T F n { G with w := mk2 G.w t s } { e with cd := upd e.cd s (upd (e.cd s) p (dec (e.cd s p))), up := inc e.up } := by
  have hm : t ∈ (rulesL T kT (p : Int)).filter fun t => beatB T t s := List.mem_filter.2 ⟨ht, hb⟩
  have hmk := lf_mark (P := fun u => G.w u s) (rules_nd.filter _) hm hn
  have hpos := lf_pos (P := fun u => G.w u s) hm hn
  have hle := lf_le (l := (rulesL T kT (p : Int)).filter fun t => beatB T t s) (P := fun u => G.w u s)
  have hl2 : ((rulesL T kT (p : Int)).filter fun t => beatB T t s).length ≤ T.rules.length := Nat.le_trans (List.length_filter_le _ _) rules_len
  have hrl := hp.ok.rl
  refine ⟨h.ms, h.rf, h.op, fun u hu z hz => ?_, h.ob⟩
  show upd e.cd s (upd (e.cd s) p (dec (e.cd s p))) u z = lf ((rulesL T kT z).filter fun t => beatB T t u) fun v => mk2 G.w t s v u
  rw [mk2_col]
  by_cases eu : u = s
  · subst eu
    rw [upd_at, if_pos rfl]
    by_cases ez : z = (p : Int)
    · subst ez
      rw [upd_at, hmk, h.cd u hu _ hz, dec_eq hpos (by omega)]
    · rw [upd_off ez, lf_off, h.cd u hu z hz]
      intro hmm
      obtain ⟨a, x, e1, hx, -, hh⟩ := mem_rules.1 (List.mem_filter.1 hmm).1
      obtain ⟨a2, x2, e2, hx2, -, hh2⟩ := mem_rules.1 ht
      have : a = a2 := by omega
      subst this
      rw [hx] at hx2
      cases hx2
      exact ez (hh.symm.trans hh2)
  · rw [upd_off (by omega), if_neg (by omega)]
    exact h.cd u hu z hz
def tp (b : Bool) : Int := if b then 3 else 1
def tn (b : Bool) : Int := if b then 4 else 2
def rowM (n : Nat) (f : Int → Int) : List Int := (List.range n).map fun q : Nat => f q
/-- The marks. -/
abbrev Mq (n : Nat) (e : Es) : List Int := rowM n e.mq
theorem rowM_hs {n : Nat} {f : Int → Int} {q t : Int} (h0 : 0 ≤ q) (h1 : q < (n : Int)) : hs (rowM n f) q t = hb (f q) t := by
  obtain ⟨a, rfl⟩ := Int.eq_ofNat_of_zero_le h0
  unfold hs rowM
  rw [List.getD_eq_getElem?_getD, List.getElem?_map, Int.toNat_natCast, List.getElem?_range (by omega)]
  rfl
/-- The marks of what is told. -/
def mqOf (l : List (Int × Int)) : Int → Int := l.foldl (fun f x => upd f x.1 (orB (f x.1) x.2)) fun _ => 0
/-- Each that is told follows from those ahead. -/
structure Ord (T : Th) (F : List Int) (n : Nat) (e : Es) : Prop where
  mq : e.mq = mqOf e.td
  ok : ∀ (i : Nat) x, e.td[i]? = some x → condM T F (rowM n (mqOf (e.td.take i))) x.2 x.1 = true
theorem ord_same {T : Th} {F : List Int} {n : Nat} {e e' : Es} (h : Ord T F n e) (h1 : e'.mq = e.mq) (h2 : e'.td = e.td) : Ord T F n e' := ⟨by rw [h1, h2]; exact h.mq, by rw [h2]; exact h.ok⟩
theorem ord_start {T : Th} {F : List Int} {n : Nat} : Ord T F n (startE T F) := ⟨rfl, fun i x hx => by
  have hx : ([] : List (Int × Int))[i]? = some x := hx
  simp at hx⟩
theorem ord_tell {T : Th} {F : List Int} {n : Nat} {e : Es} (h : Ord T F n e) {q t : Int} (hc : condM T F (Mq n e) t q = true) : Ord T F n (tell e q t) := by
  unfold Fa.tell
  split
  · exact h
  · refine ⟨?_, fun i x hx => ?_⟩
    · show upd e.mq q (orB (e.mq q) t) = mqOf (e.td ++ [(q, t)])
      unfold mqOf
      rw [List.foldl_append]
      show upd e.mq q (orB (e.mq q) t) = upd (mqOf e.td) q (orB (mqOf e.td q) t)
      rw [h.mq]
    · have hx : (e.td ++ [(q, t)])[i]? = some x := hx
      show condM T F (rowM n (mqOf ((e.td ++ [(q, t)]).take i))) x.2 x.1 = true
      by_cases hi : i < e.td.length
      · rw [List.getElem?_append_left hi] at hx
        rw [List.take_append_of_le_length (by omega)]
        exact h.ok i x hx
      · have hl := (List.getElem?_eq_some_iff.1 hx).1
        rw [List.length_append, List.length_singleton] at hl
        have : i = e.td.length := by omega
        subst this
        rw [List.getElem?_append_right (Nat.le_refl _), Nat.sub_self] at hx
        have hx : (q, t) = x := by simpa using hx
        subst hx
        rw [List.take_append_of_le_length (Nat.le_refl _), List.take_length, ← h.mq]
        exact hc
/-- What is accounted is told. -/
structure Snd (T : Th) (n : Nat) (m : Prop) (G : Gho) (e : Es) : Prop where
  a : ∀ b (r : Nat) x, G.a b r x = true → has e x (tp b) = true
  nn : ∀ b (r : Nat) x, G.n b r x = true → has e x (tn b) = true
  c : ∀ b (r : Nat), G.c b r = true → e.rf b r = true
  f : ∀ f p, G.f f p = true → has e f 2 = true
  r : ∀ (s : Nat) p, G.r s p = true → e.rf true s = true ∨ e.cb s p = true
  w : ∀ (t : Nat) s, G.w t s = true → e.rf true t = true
  cb : ∀ (s : Nat) p, e.cb s p = true → ∃ t : Nat, (t : Int) ∈ rulesL T kT p ∧ beatB T t s = true ∧ ∀ x ∈ bodyM T t, G.a true t x = true
theorem Snd.start {m : Prop} : Snd T n m noG (startE T F) := ⟨fun b r x h => (by cases h), fun b r x h => (by cases h), fun b r h => (by cases h), fun f p h => (by cases h), fun s p h => (by cases h), fun t s h => (by cases h), fun s p h => (by cases h)⟩
theorem Snd.mm {m : Prop} (_ : Snd T n m G e) (q t : Int) (h0 : 0 ≤ q) (h1 : q < (n : Int)) (_ : isTag t) (hz : has e q t = true) : hs (Mq n e) q t = true := by
  rw [rowM_hs h0 h1]
  exact hz
section
variable {m : Prop}
theorem body_in (hp : Pf T F n) {r : Nat} (hr : r < T.rules.length) {x : Int} (hx : x ∈ bodyM T r) : 0 ≤ x ∧ x < (n : Int) := by
  obtain ⟨y, hy⟩ := get_at hr
  obtain ⟨-, -, e⟩ := kind_at (p := kA) hy
  rw [e] at hx
  exact hp.body y (List.mem_of_getElem? hy) x hx
/-- A used rule's body is whole. -/
theorem Snd.whole (hp : Pf T F n) (h : Snd T n m G e) {b : Bool} {r : Nat} (hr : r < T.rules.length) (ha : ∀ x ∈ bodyM T r, G.a b r x = true) : wholeB T (Mq n e) r (tp b) = true := by
  unfold wholeB
  rw [List.all_eq_true]
  intro x hx
  obtain ⟨x0, x1⟩ := body_in hp hr hx
  exact h.mm x (tp b) x0 x1 (by cases b; exact tag1; exact tag3) (h.a b r x (ha x hx))
theorem kA_kind {r : Nat} (hr : r < T.rules.length) : kindB T (kW true) r = true := by
  obtain ⟨y, hy⟩ := get_at hr
  exact (kind_at (p := kA) hy).1
theorem Exa.used (h : Exa T F n G e) {r : Nat} (hr : r < T.rules.length) : used e r = true ↔ ∀ x ∈ bodyM T r, G.a true r x = true := by
  unfold Fa.used
  rw [decide_eq_true_iff, h.ms true r hr (kA_kind hr), lf_zero]
theorem Snd.part (hp : Pf T F n) (hx : Exa T F n G e) (h : Snd T n m G e) {b : Bool} {r : Nat} (hr : r < T.rules.length) (hf : e.rf b r = true) : partB T (Mq n e) r (tn b) = true := by
  rw [hx.rf b r hr] at hf
  obtain ⟨x, hxb, hg⟩ := List.any_eq_true.1 hf
  unfold partB
  rw [List.any_eq_true]
  obtain ⟨x0, x1⟩ := body_in hp hr hxb
  exact ⟨x, hxb, h.mm x (tn b) x0 x1 (by cases b; exact tag2; exact tag4) (h.nn b r x hg)⟩
/-- What is against is done with. -/
theorem Snd.atk (hp : Pf T F n) (hx : Exa T F n G e) (h : Snd T n m G e) {s : Nat} {p : Int} (hs : s < T.rules.length) (hr : G.r s p = true) : atkP T (Mq n e) p s = true := by
  unfold atkP
  rcases h.r s p hr with hf | hc
  · have := h.part hp hx hs hf
    rw [show tn true = 4 from rfl] at this
    rw [this]
    rfl
  · obtain ⟨t, ht, hb, ha⟩ := h.cb s p hc
    have htR : t < T.rules.length := by obtain ⟨a, x, e1, hx, -⟩ := mem_rules.1 ht; have := (List.getElem?_eq_some_iff.1 hx).1; omega
    have hw := h.whole hp htR ha
    rw [Bool.or_eq_true]
    refine .inr (List.any_eq_true.2 ⟨t, ht, ?_⟩)
    rw [hb, show (3 : Int) = tp true from rfl, hw]
    rfl
end
end
end Go.Proofs.YtcobmbclhhimjaaGreat.Fa
/- What may be told. PLAIN. -/
namespace Go.Proofs.YtcobmbclhhimjaaGreat.Fa

section
variable {T : Th} {F : List Int} {n k : Nat} {m : Prop} {G : Gho} {e : Es}
theorem rule_lt {p : RuleM → Bool} {z r : Int} (h : r ∈ rulesL T p z) : ∃ a : Nat, r = (a : Int) ∧ a < T.rules.length ∧ headOf T a = z ∧ kindB T p a = true := by
  obtain ⟨a, x, e1, hx, hk, hh⟩ := mem_rules.1 h
  obtain ⟨k1, k2, -⟩ := kind_at (p := p) hx
  exact ⟨a, e1, (List.getElem?_eq_some_iff.1 hx).1, by rw [k2]; exact hh, by rw [k1]; exact hk⟩
theorem tell_key (hby : ∀ q, isByte (e.mq q)) {q t : Int} (ht : isTag t) {z u : Int} (hu : isTag u) (hz : has e z u = true) : has (tell e q t) z u = true := by
  unfold Fa.tell
  split
  · exact hz
  · show hb (upd e.mq q (orB (e.mq q) t) z) u = true
    by_cases ez : z = q
    · subst ez
      have hz : hb (e.mq z) u = true := hz
      rw [upd_at, (or_facts (hby z) ht hu).1, hz]
      rfl
    · rw [upd_off ez]; exact hz
theorem tell_alike {q t : Int} : (tell e q t).rf = e.rf ∧ (tell e q t).cb = e.cb := by unfold Fa.tell; split <;> exact ⟨rfl, rfl⟩
theorem Snd.tell (h : Snd T n m G e) (hby : ∀ q, isByte (e.mq q)) {q t : Int} (ht : isTag t) : Snd T n m G (tell e q t) := by
  have tpT : ∀ b, isTag (tp b) := fun b => by cases b; exact tag1; exact tag3
  have tnT : ∀ b, isTag (tn b) := fun b => by cases b; exact tag2; exact tag4
  obtain ⟨hr, hc⟩ := tell_alike (e := e) (q := q) (t := t)
  refine ⟨fun b r x hx => tell_key hby ht (tpT b) (h.a b r x hx), fun b r x hx => tell_key hby ht (tnT b) (h.nn b r x hx), fun b r hx => by rw [hr]; exact h.c b r hx, fun f p hf => tell_key hby ht tag2 (h.f f p hf), fun s p hx => by rw [hr, hc]; exact h.r s p hx, fun t s hx => by rw [hr]; exact h.w t s hx, fun s p hx => ?_⟩
  rw [hc] at hx
  exact h.cb s p hx
theorem may1 (hp : Pf T F n) (_ : m) (hx : Exa T F n G e) (h : Snd T n m G e) {r : Nat} (hr : r < T.rules.length) (hk : kindB T kS r = true) (h0 : e.ms false r = 0) : condM T F (Mq n e) 1 (headOf T r) = true := by
  obtain ⟨x, hxr, hh, -, -⟩ := head_in hp hr
  rw [hx.ms false r hr hk, lf_zero] at h0
  refine cond1.trans (plusS_iff.2 (.inr ⟨r, ?_, h.whole hp (b := false) hr h0⟩))
  exact mem_rules.2 ⟨r, x, rfl, hxr, by rw [← (kind_at (p := kS) hxr).1]; exact hk, hh.symm⟩
theorem may2 (hp : Pf T F n) (_ : m) (hx : Exa T F n G e) (h : Snd T n m G e) {q : Nat} (_ : q < n) (hF : (q : Int) ∉ F) (hc : ∀ r ∈ rulesL T kS q, e.rf false r = true) : condM T F (Mq n e) 2 q = true := by
  refine cond2.trans (minusS_iff.2 ⟨hF, fun r hr => ?_⟩)
  obtain ⟨a, rfl, ha, -, -⟩ := rule_lt hr
  exact h.part hp hx (b := false) ha (hc a hr)
theorem may3 (hp : Pf T F n) (hs_ : m) (hnf : m → ∀ q : Nat, q < n → firmB T F q = false → has e q 2 = true) (hx : Exa T F n G e) (h : Snd T n m G e) {q : Nat} (hq : q < n) (ho : e.ob q = 0) (hu : (rulesL T kT q).any (used e) = true) : condM T F (Mq n e) 3 q = true := by
  obtain ⟨r, hr, hur⟩ := List.any_eq_true.1 hu
  obtain ⟨a, rfl, ha, -, -⟩ := rule_lt hr
  have ht : rulesL T kT (q : Int) ≠ [] := fun e => by rw [e] at hr; cases hr
  rw [hx.ob q hq ht] at ho
  have n1 := lf_nonneg (l := (row T.foes (q : Int)).filter (firmB T F)) (P := fun f => G.f f q)
  have n2 := lf_nonneg (l := agL T q) (P := fun s => G.r s q)
  have z1 := lf_zero.1 (show lf ((row T.foes (q : Int)).filter (firmB T F)) (fun f => G.f f q) = 0 by omega)
  have z2 := lf_zero.1 (show lf (agL T q) (fun s => G.r s q) = 0 by omega)
  refine cond3.trans (plusD_iff.2 (.inr ⟨⟨a, hr, h.whole hp (b := true) ha ((hx.used ha).1 hur)⟩, fun f hf => ?_, fun f hf s hsf => ?_⟩))
  · obtain ⟨f0, f1⟩ := hp.foe q hq f hf
    cases hfm : firmB T F f with
    | true => exact h.mm f 2 f0 f1 tag2 (h.f f q (z1 f (List.mem_filter.2 ⟨hf, hfm⟩)))
    | false =>
      obtain ⟨z, rfl⟩ := Int.eq_ofNat_of_zero_le f0
      exact h.mm z 2 f0 f1 tag2 (hnf hs_ z (by omega) hfm)
  · obtain ⟨b, rfl, hb, hhb, -⟩ := rule_lt hsf
    refine h.atk hp hx hb (z2 b ?_)
    unfold agL
    refine List.mem_map.2 ⟨b, List.mem_filter.2 ⟨List.mem_range.2 hb, ?_⟩, rfl⟩
    rw [hhb]
    exact decide_eq_true hf
theorem may4 (_ : Pf T F n) (_ : m) {q : Nat} (_ : q < n) (h2 : hs (Mq n e) q 2 = true) (hc : (∀ r ∈ rulesL T kT q, partB T (Mq n e) r 4 = true) ∨ (∃ f ∈ row T.foes q, hs (Mq n e) f 1 = true) ∨ ∃ f ∈ row T.foes q, ∃ s ∈ rulesL T kA f, atkM T (Mq n e) q s = true) : condM T F (Mq n e) 4 q = true :=
  cond4.trans (minusD_iff.2 ⟨h2, hc⟩)
/-- A used rule against which nothing is left stands. -/
theorem over_of (hp : Pf T F n) (hx : Exa T F n G e) (h : Snd T n m G e) {s : Nat} {p : Int} (hs_ : s < T.rules.length) (hpr : p ∈ rivalsL T (headOf T s)) (hu : used e s = true) (hc : e.cd s p = 0) : atkM T (Mq n e) p s = true := by
  refine atkM_iff.2 ⟨h.whole hp (b := true) hs_ ((hx.used hs_).1 hu), fun t ht => ?_⟩
  rw [hx.cd s hs_ p hpr, lf_zero] at hc
  cases hb : beatB T t s with
  | false => exact .inr rfl
  | true =>
    obtain ⟨a, rfl, ha, -, -⟩ := rule_lt ht
    exact .inl (h.part hp hx (b := true) ha (h.w a s (hc a (List.mem_filter.2 ⟨ht, hb⟩))))
end
end Go.Proofs.YtcobmbclhhimjaaGreat.Fa
/- Each small step keeps what is accounted. PLAIN. -/
namespace Go.Proofs.YtcobmbclhhimjaaGreat.Fa

/-- The counters are exact, and all that is accounted or told is sound. -/
structure Iv (T : Th) (F : List Int) (n : Nat) (m : Prop) (G : Gho) (e : Es) : Prop where
  x : Exa T F n G e
  s : Snd T n m G e
  y : ∀ q, isByte (e.mq q)
  o : Ord T F n e
  nf : m → ∀ q : Nat, q < n → firmB T F q = false → has e q 2 = true
section
variable {T : Th} {F : List Int} {n k : Nat} {m : Prop} {G : Gho} {e : Es}
theorem Iv.start : Iv T F n False noG (startE T F) := ⟨Exa.start, Snd.start, fun _ => (show isByte 0 by unfold isByte; omega), ord_start, fun h => h.elim⟩
theorem tell_by (h : ∀ q, isByte (e.mq q)) {q t : Int} (ht : isTag t) : ∀ z, isByte ((tell e q t).mq z) := by
  intro z
  unfold Fa.tell
  split
  · exact h z
  · show isByte (upd e.mq q (orB (e.mq q) t) z)
    by_cases ez : z = q
    · subst ez; rw [upd_at]; exact (or_facts (h z) ht ht).2.1
    · rw [upd_off ez]; exact h z
theorem Iv.tell (h : Iv T F n m G e) {q t : Int} (ht : isTag t) (hm : condM T F (Mq n e) t q = true) : Iv T F n m G (tell e q t) := ⟨h.x.tell, h.s.tell h.y ht, tell_by h.y ht, ord_tell h.o hm, fun a z hz hf => tell_key h.y ht tag2 (h.nf a z hz hf)⟩
theorem Iv.lose (h : Iv T F n m G e) {q : Int} (hm : has e q 2 = true → condM T F (Mq n e) 4 q = true) : Iv T F n m G (loseE e q) := by
  unfold loseE
  split
  · rename_i h2; exact h.tell tag4 (hm h2)
  · exact h
theorem Iv.met (hp : Pf T F n) (h : Iv T F n m G e) {b : Bool} {r : Nat} {q : Int} (hr : r < T.rules.length) (hk : kindB T (kW b) r = true) (hq : q ∈ bodyM T r) (hn : G.a b r q = false) (hh : has e q (tp b) = true) : Iv T F n m { G with a := updB G.a b (mk2 (G.a b) r q) } (metE e b r) := by
  have le : ∀ c (s : Nat) x, G.a c s x = true → updB G.a b (mk2 (G.a b) r q) c s x = true := fun c s x hx => by
    by_cases ec : c = b
    · subst ec; rw [updB_at]; exact mk2_le hx
    · rw [updB_off ec]; exact hx
  refine ⟨h.x.met hp hr hk hq hn, ⟨fun c s x hx => ?_, h.s.nn, h.s.c, h.s.f, h.s.r, h.s.w, fun s p hc => ?_⟩, h.y, ord_same h.o rfl rfl, h.nf⟩
  · have hx : updB G.a b (mk2 (G.a b) r q) c s x = true := hx
    show has e x (tp c) = true
    by_cases ec : c = b
    · subst ec
      rw [updB_at] at hx
      rcases mk2_iff.1 hx with h1 | ⟨-, rfl⟩
      · exact h.s.a c s x h1
      · exact hh
    · rw [updB_off ec] at hx
      exact h.s.a c s x hx
  · obtain ⟨t, h1, h2, h3⟩ := h.s.cb s p hc
    exact ⟨t, h1, h2, fun x hx => le true t x (h3 x hx)⟩
theorem rf_mono {b c : Bool} {r : Int} {s : Int} (h : e.rf c s = true) : (refE e b r).rf c s = true := by
  unfold refE
  split
  · exact h
  · show updB e.rf b (upd (e.rf b) r true) c s = true
    by_cases ec : c = b
    · subst ec
      rw [updB_at]
      by_cases es : s = r
      · subst es; rw [upd_at]
      · rw [upd_off es]; exact h
    · rw [updB_off ec]; exact h
theorem rf_at {b : Bool} {r : Int} : (refE e b r).rf b r = true := by
  unfold refE
  split
  · rename_i h; exact h
  · show updB e.rf b (upd (e.rf b) r true) b r = true
    rw [updB_at, upd_at]
theorem ref_has {b : Bool} {r : Int} {q t : Int} : has (refE e b r) q t = has e q t := by unfold refE; split <;> rfl
theorem ref_cb {b : Bool} {r : Int} : (refE e b r).cb = e.cb := by unfold refE; split <;> rfl
theorem Iv.ref (h : Iv T F n m G e) {b : Bool} {r : Nat} {q : Int} (hr : r < T.rules.length) (hq : q ∈ bodyM T r) (hh : has e q (tn b) = true) : Iv T F n m { G with n := updB G.n b (mk2 (G.n b) r q) } (refE e b r) := by
  refine ⟨h.x.ref hr hq, ⟨fun c s x hx => by rw [ref_has]; exact h.s.a c s x hx, fun c s x hx => ?_, fun c s hc => rf_mono (h.s.c c s hc), fun f p hf => by rw [ref_has]; exact h.s.f f p hf, fun s p hg => ?_, fun t s hg => rf_mono (h.s.w t s hg), fun s p hc => h.s.cb s p (by rw [ref_cb] at hc; exact hc)⟩, fun z => by unfold refE; split; exact h.y z; exact h.y z, ord_same h.o (by unfold refE; split <;> rfl) (by unfold refE; split <;> rfl), fun a z hz hf => by rw [ref_has]; exact h.nf a z hz hf⟩
  · rw [ref_has]
    have hx : updB G.n b (mk2 (G.n b) r q) c s x = true := hx
    by_cases ec : c = b
    · subst ec
      rw [updB_at] at hx
      rcases mk2_iff.1 hx with h1 | ⟨-, rfl⟩
      · exact h.s.nn c s x h1
      · exact hh
    · rw [updB_off ec] at hx
      exact h.s.nn c s x hx
  · rcases h.s.r s p hg with h1 | h1
    · exact .inl (rf_mono h1)
    · exact .inr (by rw [ref_cb]; exact h1)
theorem Iv.cls (hp : Pf T F n) (h : Iv T F n m G e) {b : Bool} {r q : Nat} (hq : q < n) (hr : (r : Int) ∈ rulesL T (kL b) q) (hn : G.c b r = false) (hf : e.rf b r = true) : Iv T F n m { G with c := updB G.c b (upd (G.c b) r true) } (clsE e b q) := by
  have he : (clsE e b q).rf = e.rf ∧ (clsE e b q).cb = e.cb ∧ (clsE e b q).mq = e.mq := by unfold clsE; split <;> exact ⟨rfl, rfl, rfl⟩
  have hhas : ∀ z t, has (clsE e b q) z t = has e z t := fun z t => by unfold has; rw [he.2.2]
  refine ⟨h.x.cls hp hq hr hn, ⟨fun c s x hx => by rw [hhas]; exact h.s.a c s x hx, fun c s x hx => by rw [hhas]; exact h.s.nn c s x hx, fun c s hc => ?_, fun f p hf => by rw [hhas]; exact h.s.f f p hf, fun s p hg => by rw [he.1, he.2.1]; exact h.s.r s p hg, fun t s hg => by rw [he.1]; exact h.s.w t s hg, fun s p hc => h.s.cb s p (by rw [he.2.1] at hc; exact hc)⟩, fun z => by rw [he.2.2]; exact h.y z, ord_same h.o he.2.2 (by unfold clsE; split <;> rfl), fun a z hz hf => by rw [hhas]; exact h.nf a z hz hf⟩
  rw [he.1]
  have hc : updB G.c b (upd (G.c b) r true) c s = true := hc
  by_cases ec : c = b
  · subst ec
    rw [updB_at] at hc
    by_cases es : (s : Int) = r
    · rw [es]; exact hf
    · rw [upd_off es] at hc; exact h.s.c c s hc
  · rw [updB_off ec] at hc
    exact h.s.c c s hc
theorem Iv.clearF (hp : Pf T F n) (h : Iv T F n m G e) {f : Int} {p : Nat} (hpn : p < n) (hf : f ∈ row T.foes p) (hfm : firmB T F f = true) (hn : G.f f p = false) (ht : rulesL T kT p ≠ []) (hh : has e f 2 = true) : Iv T F n m { G with f := mk2 G.f f p } (clearE e p) :=
  ⟨h.x.clearF hp hpn hf hfm hn ht, ⟨h.s.a, h.s.nn, h.s.c, fun g z hg => by
    rcases mk2_iff.1 hg with h1 | ⟨rfl, -⟩
    · exact h.s.f g z h1
    · exact hh, h.s.r, h.s.w, h.s.cb⟩, h.y, ord_same h.o rfl rfl, h.nf⟩
theorem Iv.clearR (hp : Pf T F n) (h : Iv T F n m G e) {s p : Nat} (hpn : p < n) (hs_ : (s : Int) ∈ agL T p) (hn : G.r s p = false) (ht : rulesL T kT p ≠ []) (hh : e.rf true s = true ∨ e.cb s p = true) : Iv T F n m { G with r := mk2 G.r s p } (clearE e p) :=
  ⟨h.x.clearR hp hpn hs_ hn ht, ⟨h.s.a, h.s.nn, h.s.c, h.s.f, fun g z hg => by
    rcases mk2_iff.1 hg with h1 | ⟨h1, h2⟩
    · exact h.s.r g z h1
    · rw [h1, h2]; exact hh, h.s.w, h.s.cb⟩, h.y, ord_same h.o rfl rfl, h.nf⟩
theorem Iv.withd (hp : Pf T F n) (h : Iv T F n m G e) {t s p : Nat} (hs_ : s < T.rules.length) (hpr : (p : Int) ∈ rivalsL T (headOf T s)) (ht : (t : Int) ∈ rulesL T kT p) (hb : beatB T t s = true) (hn : G.w t s = false) (hf : e.rf true t = true) : Iv T F n m { G with w := mk2 G.w t s } { e with cd := upd e.cd s (upd (e.cd s) p (dec (e.cd s p))), up := inc e.up } :=
  ⟨h.x.withd hp hs_ hpr ht hb hn, ⟨h.s.a, h.s.nn, h.s.c, h.s.f, h.s.r, fun g z hg => by
    rcases mk2_iff.1 hg with h1 | ⟨h1, -⟩
    · exact h.s.w g z h1
    · show e.rf true g = true
      rw [h1]; exact hf, h.s.cb⟩, h.y, ord_same h.o rfl rfl, h.nf⟩
theorem Iv.beat (h : Iv T F n m G e) {t s : Nat} {p : Int} (ht : (t : Int) ∈ rulesL T kT p) (hb : beatB T t s = true) (ha : ∀ x ∈ bodyM T t, G.a true t x = true) : Iv T F n m G { e with cb := upd e.cb s (upd (e.cb s) p true), up := inc e.up } := by
  have key : ∀ (u : Nat) (z : Int), upd e.cb s (upd (e.cb s) p true) u z = true ↔ e.cb u z = true ∨ ((u : Int) = s ∧ z = p) := fun u z => mk2_iff (g := e.cb) (x := s) (y := p)
  refine ⟨h.x.same rfl rfl rfl rfl rfl, ⟨h.s.a, h.s.nn, h.s.c, h.s.f, fun u z hg => ?_, h.s.w, fun u z hc => ?_⟩, h.y, ord_same h.o rfl rfl, h.nf⟩
  · rcases h.s.r u z hg with h1 | h1
    · exact .inl h1
    · exact .inr ((key u z).2 (.inl h1))
  · rcases (key u z).1 hc with h1 | ⟨h1, h2⟩
    · exact h.s.cb u z h1
    · rw [h1, h2]
      exact ⟨t, ht, hb, ha⟩
end
end Go.Proofs.YtcobmbclhhimjaaGreat.Fa
