/- What the counters count: marks of a proof beside the engine's own. PLAIN. -/
import Derived.Test.YthifoamnmhlghaaGreatSlp
namespace Go.Proofs.YthifoamnmhlghaaGreat.Fa

/-- What is accounted: at a rule of kind b a + (a), a - (n) of a literal of its body; a rule closed for its head (c); a firm foe (f), a rule against (r) cleared for a literal; a rule withdrawn against another (w); a rule that has defended against another (d). -/
structure Gho where
  a : Bool → Int → Int → Bool
  n : Bool → Int → Int → Bool
  c : Bool → Int → Bool
  f : Int → Int → Bool
  r : Int → Int → Bool
  w : Int → Int → Bool
  d : Int → Int → Bool
def lf (l : List Int) (P : Int → Bool) : Int := ((l.filter fun x => !P x).length : Nat)
section
variable {l : List Int} {P Q : Int → Bool} {x : Int}
theorem lf_nonneg : 0 ≤ lf l P := Int.natCast_nonneg _
theorem lf_le : lf l P ≤ (l.length : Int) := by unfold lf; have := List.length_filter_le (fun x => !P x) l; omega
theorem lf_zero : lf l P = 0 ↔ ∀ x ∈ l, P x = true := by
  unfold lf
  constructor
  · intro h y hy
    cases hp : P y with
    | true => rfl
    | false =>
      have h2 : y ∈ l.filter fun x => !P x := List.mem_filter.2 ⟨hy, by simp [hp]⟩
      have := List.length_pos_of_mem h2
      omega
  · intro h
    have : (l.filter fun x => !P x) = [] := List.filter_eq_nil_iff.2 fun y hy => by simp [h y hy]
    rw [this]
    rfl
theorem lf_congr (h : ∀ y ∈ l, P y = Q y) : lf l P = lf l Q := by
  unfold lf
  rw [List.filter_congr fun y hy => by rw [h y hy]]
theorem lf_mark (hn : l.Nodup) (hx : x ∈ l) (hp : P x = false) : lf l (upd P x true) = lf l P - 1 := by
  induction l with
  | nil => cases hx
  | cons y l ih =>
    obtain ⟨h1, h2⟩ := List.nodup_cons.1 hn
    by_cases e : x = y
    · subst e
      have h3 : lf l (upd P x true) = lf l P := lf_congr fun z hz => upd_off fun (e : z = x) => h1 (e ▸ hz)
      unfold lf at h3 ⊢
      rw [List.filter_cons_of_neg (by simp [upd_at]), List.filter_cons_of_pos (by simp [hp])]
      simp only [List.length_cons]
      omega
    · have hm : x ∈ l := (List.mem_cons.1 hx).resolve_left e
      have h3 := ih h2 hm
      unfold lf at h3 ⊢
      have e2 : upd P x true y = P y := upd_off fun (e' : y = x) => e e'.symm
      cases hy : P y with
      | true => rw [List.filter_cons_of_neg (by simp [e2, hy]), List.filter_cons_of_neg (by simp [hy])]; exact h3
      | false => rw [List.filter_cons_of_pos (by simp [e2, hy]), List.filter_cons_of_pos (by simp [hy])]; simp only [List.length_cons]; omega
theorem lf_off (hx : x ∉ l) : lf l (upd P x true) = lf l P := lf_congr fun z hz => upd_off fun (e : z = x) => hx (e ▸ hz)
end
/-- The counters, exactly. -/
structure Exa (T : Th) (F : List Int) (n : Nat) (G : Gho) (e : Es) : Prop where
  ms : ∀ b (r : Nat), r < T.rules.length → kindB T (kW b) r = true → e.ms b r = lf (bodyM T r) (G.a b r)
  rf : ∀ b (r : Nat), r < T.rules.length → e.rf b r = (bodyM T r).any (G.n b r)
  op : ∀ b (q : Nat), q < n → e.op b q = if openZ T F b q || (rulesL T (kL b) q).isEmpty then 0 else max 1 (lf (rulesL T (kL b) q) (G.c b))
  cd : ∀ s : Nat, s < T.rules.length → ∀ p ∈ rivalsL T (headOf T s), e.cd s p = lf ((rulesL T kT p).filter fun t => beatB T t s) fun t => G.w t s
  ob : ∀ p : Nat, p < n → rulesL T kT p ≠ [] → e.ob p = lf ((row T.foes p).filter (firmB T F)) (fun f => G.f f p) + lf (agL T p) fun s => G.r s p
def noG : Gho := ⟨fun _ _ _ => false, fun _ _ _ => false, fun _ _ => false, fun _ _ => false, fun _ _ => false, fun _ _ => false, fun _ _ => false⟩
theorem lf_none {l : List Int} : lf l (fun _ => false) = (l.length : Int) := congrArg (fun k : Nat => (k : Int)) (congrArg List.length (List.filter_eq_self.2 fun _ _ => rfl))
theorem Exa.start {T : Th} {F : List Int} {n : Nat} : Exa T F n noG (startE T F) := by
  refine ⟨fun b r hr hk => ?_, fun b r hr => ?_, fun b q hq => ?_, fun s hs p hp => ?_, fun p hp ht => ?_⟩
  · show (if kindB T (kW b) r then ((bodyM T r).length : Int) else 0) = lf _ fun _ => false
    rw [if_pos hk, lf_none]
  · show false = (bodyM T r).any fun _ => false
    simp
  · show (if openZ T F b q then 0 else ((rulesL T (kL b) q).length : Int)) = if openZ T F b q || (rulesL T (kL b) q).isEmpty then 0 else max 1 (lf (rulesL T (kL b) q) fun _ => false)
    rw [lf_none]
    cases openZ T F b q with
    | true => rfl
    | false =>
      cases h : rulesL T (kL b) (q : Int) with
      | nil => rfl
      | cons x l => simp; omega
  · show cnt (rulesL T kT p) (fun t => beatB T t s) = lf _ fun _ => false
    rw [lf_none]
    rfl
  · show (if (rulesL T kT (p : Int)).isEmpty then 0 else cnt (row T.foes p) (firmB T F) + ((agL T p).length : Nat)) = lf _ (fun _ => false) + lf _ fun _ => false
    rw [lf_none, lf_none, if_neg (by simpa using ht)]
    rfl
def mk2 (g : Int → Int → Bool) (x y : Int) : Int → Int → Bool := upd g x (upd (g x) y true)
theorem mk2_col {g : Int → Int → Bool} {x y z : Int} : (fun u => mk2 g x y u z) = if z = y then upd (fun u => g u y) x true else fun u => g u z := by
  funext u
  unfold mk2
  by_cases e : u = x
  · subst e
    rw [upd_at]
    by_cases e2 : z = y
    · subst e2; rw [if_pos rfl, upd_at, upd_at]
    · rw [if_neg e2, upd_off e2]
  · rw [upd_off e]
    by_cases e2 : z = y
    · subst e2; rw [if_pos rfl, upd_off e]
    · rw [if_neg e2]
theorem mk2_row {g : Int → Int → Bool} {x y : Int} : mk2 g x y x = upd (g x) y true := upd_at
theorem mk2_off {g : Int → Int → Bool} {x y u : Int} (h : u ≠ x) : mk2 g x y u = g u := upd_off h
theorem mk2_le {g : Int → Int → Bool} {x y u v : Int} (h : g u v = true) : mk2 g x y u v = true := by
  unfold mk2
  by_cases e : u = x
  · subst e
    rw [upd_at]
    by_cases e2 : v = y
    · subst e2; rw [upd_at]
    · rw [upd_off e2]; exact h
  · rw [upd_off e]; exact h
theorem mk2_iff {g : Int → Int → Bool} {x y u v : Int} : mk2 g x y u v = true ↔ g u v = true ∨ (u = x ∧ v = y) := by
  unfold mk2
  by_cases e : u = x
  · subst e
    rw [upd_at]
    by_cases e2 : v = y
    · subst e2; rw [upd_at]; simp
    · rw [upd_off e2]; simp [e2]
  · rw [upd_off e]; simp [e]
theorem dec_eq {v : Int} (h0 : 0 < v) (h1 : v < 1099511627776) : dec v = v - 1 := by
  unfold dec
  rw [IntKind.wrap_i64]
  omega
section
variable {T : Th} {F : List Int} {n : Nat} {G : Gho} {e e' : Es}
theorem Exa.same (h : Exa T F n G e) (h1 : e'.ms = e.ms) (h2 : e'.rf = e.rf) (h3 : e'.op = e.op) (h4 : e'.cd = e.cd) (h5 : e'.ob = e.ob) : Exa T F n G e' :=
  ⟨fun b r hr hk => by rw [h1]; exact h.ms b r hr hk, fun b r hr => by rw [h2]; exact h.rf b r hr, fun b q hq => by rw [h3]; exact h.op b q hq, fun s hs p hp => by rw [h4]; exact h.cd s hs p hp, fun p hp ht => by rw [h5]; exact h.ob p hp ht⟩
theorem Exa.tell (h : Exa T F n G e) {q t : Int} : Exa T F n G (tell e q t) := by
  unfold Fa.tell
  split
  · exact h
  · exact h.same rfl rfl rfl rfl rfl
theorem Exa.lose (h : Exa T F n G e) {q : Int} : Exa T F n G (loseE e q) := by
  unfold loseE
  split
  · exact h.tell
  · exact h
theorem lf_pos {l : List Int} {P : Int → Bool} {x : Int} (hx : x ∈ l) (hp : P x = false) : 0 < lf l P := by
  have h0 := lf_nonneg (l := l) (P := P)
  have : lf l P ≠ 0 := fun e => by have := lf_zero.1 e x hx; rw [hp] at this; cases this
  omega
theorem body_nd (hp : Pf T F n) {r : Nat} (hr : r < T.rules.length) : (bodyM T r).Nodup ∧ (bodyM T r).length ≤ 16 := by
  obtain ⟨x, hx⟩ := get_at hr
  obtain ⟨-, -, e⟩ := kind_at (p := kA) hx
  rw [e]
  have := hp.ok.rule x (List.mem_of_getElem? hx)
  exact ⟨pw_nodup (risesF_in2 (by omega) this.2.2.2.2.2).2, this.2.2.2.2.1⟩
theorem Exa.met (hp : Pf T F n) (h : Exa T F n G e) {b : Bool} {r : Nat} {q : Int} (hr : r < T.rules.length) (hk : kindB T (kW b) r = true) (hq : q ∈ bodyM T r) (hn : G.a b r q = false) : Exa T F n { G with a := updB G.a b (mk2 (G.a b) r q) } (metE e b r) := by
  obtain ⟨hnd, hl⟩ := body_nd hp hr
  refine ⟨fun c s hs hks => ?_, h.rf, h.op, h.cd, h.ob⟩
  show updB e.ms b (upd (e.ms b) r (dec (e.ms b r))) c s = lf (bodyM T s) (updB G.a b (mk2 (G.a b) r q) c s)
  by_cases ec : c = b
  · subst ec
    rw [updB_at, updB_at]
    by_cases es : s = r
    · subst es
      have h1 := h.ms c s hr hk
      have hpos := lf_pos hq hn
      have hle := lf_le (l := bodyM T s) (P := G.a c s)
      rw [upd_at, mk2_row, lf_mark hnd hq hn, h1, dec_eq hpos (by omega)]
    · rw [upd_off (by omega), mk2_off (by omega)]
      exact h.ms c s hs hks
  · rw [updB_off ec, updB_off ec]
    exact h.ms c s hs hks
theorem any_mark {l : List Int} {P : Int → Bool} {x : Int} (hx : x ∈ l) : l.any (upd P x true) = true := List.any_eq_true.2 ⟨x, hx, upd_at⟩
theorem Exa.ref (h : Exa T F n G e) {b : Bool} {r : Nat} {q : Int} (hr : r < T.rules.length) (hq : q ∈ bodyM T r) : Exa T F n { G with n := updB G.n b (mk2 (G.n b) r q) } (refE e b r) := by
  have key : ∀ c (s : Nat), s < T.rules.length → (if c = b ∧ s = r then true else e.rf c s) = (bodyM T s).any (updB G.n b (mk2 (G.n b) r q) c s) := by
    intro c s hs
    by_cases ec : c = b
    · subst ec
      rw [updB_at]
      by_cases es : s = r
      · subst es
        rw [if_pos ⟨rfl, rfl⟩, mk2_row, any_mark hq]
      · rw [if_neg fun a => es a.2, mk2_off (by omega)]
        exact h.rf c s hs
    · rw [if_neg fun a => ec a.1, updB_off ec]
      exact h.rf c s hs
  unfold refE
  by_cases hrf : e.rf b r = true
  · rw [if_pos hrf]
    refine ⟨h.ms, fun c s hs => ?_, h.op, h.cd, h.ob⟩
    rw [← key c s hs]
    by_cases ec : c = b ∧ s = r
    · rw [if_pos ec, ec.1, ec.2]; exact hrf
    · rw [if_neg ec]
  · rw [if_neg hrf]
    refine ⟨h.ms, fun c s hs => ?_, h.op, h.cd, h.ob⟩
    rw [← key c s hs]
    show updB e.rf b (upd (e.rf b) r true) c s = _
    by_cases ec : c = b
    · subst ec
      rw [updB_at]
      by_cases es : s = r
      · subst es; rw [upd_at, if_pos ⟨rfl, rfl⟩]
      · rw [upd_off (by omega), if_neg fun a => es a.2]
    · rw [updB_off ec, if_neg fun a => ec a.1]
theorem rules_nd {p : RuleM → Bool} {z : Int} : (rulesL T p z).Nodup := by
  unfold rulesL forL
  refine List.Pairwise.map _ (fun a b h => ?_) ((List.nodup_range).filter _)
  intro e
  exact h (Int.ofNat.inj e)
theorem Exa.cls (hp : Pf T F n) (h : Exa T F n G e) {b : Bool} {r : Int} {q : Nat} (hq : q < n) (hr : r ∈ rulesL T (kL b) q) (hn : G.c b r = false) : Exa T F n { G with c := updB G.c b (upd (G.c b) r true) } (clsE e b q) := by
  have hrl := hp.ok.rl
  have hlen : (rulesL T (kL b) (q : Int)).length ≤ T.rules.length := rules_len
  have hle := lf_le (l := rulesL T (kL b) (q : Int)) (P := G.c b)
  have hpos := lf_pos hr hn
  have hmk := lf_mark rules_nd hr hn
  have h1 := h.op b q hq
  have hne : (rulesL T (kL b) (q : Int)).isEmpty = false := by
    cases hh : rulesL T (kL b) (q : Int) with
    | nil => rw [hh] at hr; cases hr
    | cons _ _ => rfl
  have other : ∀ c (z : Nat), z < n → ¬ (c = b ∧ z = q) → lf (rulesL T (kL c) z) (updB G.c b (upd (G.c b) r true) c) = lf (rulesL T (kL c) z) (G.c c) := by
    intro c z hz hne2
    by_cases ec : c = b
    · subst ec
      rw [updB_at]
      refine lf_off fun hm => hne2 ⟨rfl, ?_⟩
      obtain ⟨a, x, e1, hx, -, hh⟩ := mem_rules.1 hm
      obtain ⟨a2, x2, e2, hx2, -, hh2⟩ := mem_rules.1 hr
      have : a = a2 := by omega
      subst this
      rw [hx] at hx2
      cases hx2
      omega
    · rw [updB_off ec]
  unfold clsE
  rw [hne, Bool.or_false] at h1
  by_cases h2 : 1 < e.op b q
  · rw [if_pos h2]
    refine ⟨h.ms, h.rf, fun c z hz => ?_, h.cd, h.ob⟩
    show updB e.op b (upd (e.op b) q (dec (e.op b q))) c z = if openZ T F c z || (rulesL T (kL c) z).isEmpty then 0 else max 1 (lf (rulesL T (kL c) z) (updB G.c b (upd (G.c b) r true) c))
    by_cases ec : c = b ∧ z = q
    · obtain ⟨rfl, rfl⟩ := ec
      rw [updB_at, upd_at, updB_at, hne, Bool.or_false, hmk]
      cases ho : openZ T F c z with
      | true => rw [ho] at h1; simp at h1; omega
      | false =>
        rw [ho] at h1
        simp only [Bool.false_eq_true, if_false] at h1 ⊢
        rw [dec_eq (by omega) (by omega)]
        omega
    · rw [other c z hz ec]
      have : updB e.op b (upd (e.op b) q (dec (e.op b q))) c z = e.op c z := by
        by_cases ec2 : c = b
        · subst ec2; rw [updB_at, upd_off (by intro e3; exact ec ⟨rfl, by omega⟩)]
        · rw [updB_off ec2]
      rw [this]
      exact h.op c z hz
  · rw [if_neg h2]
    refine ⟨h.ms, h.rf, fun c z hz => ?_, h.cd, h.ob⟩
    show e.op c z = if openZ T F c z || (rulesL T (kL c) z).isEmpty then 0 else max 1 (lf (rulesL T (kL c) z) (updB G.c b (upd (G.c b) r true) c))
    by_cases ec : c = b ∧ z = q
    · obtain ⟨rfl, rfl⟩ := ec
      rw [updB_at, hne, Bool.or_false, hmk, h1]
      rw [h1] at h2
      cases ho : openZ T F c z with
      | true => rfl
      | false =>
        rw [ho] at h2
        simp only [Bool.false_eq_true, if_false] at h2 ⊢
        omega
    · rw [other c z hz ec]
      exact h.op c z hz
theorem ag_nd {p : Int} : (agL T p).Nodup := by
  unfold agL
  refine List.Pairwise.map _ (fun a b h => ?_) ((List.nodup_range).filter _)
  intro e
  exact h (Int.ofNat.inj e)
theorem ag_len {p : Int} : (agL T p).length ≤ T.rules.length := by
  unfold agL
  rw [List.length_map]
  exact Nat.le_trans (List.length_filter_le _ _) (by simp)
theorem Exa.clearF (hp : Pf T F n) (h : Exa T F n G e) {f : Int} {p : Nat} (hpn : p < n) (hf : f ∈ row T.foes p) (hfm : firmB T F f = true) (hn : G.f f p = false) (ht : rulesL T kT p ≠ []) : Exa T F n { G with f := mk2 G.f f p } (clearE e p) := by
  have hm : f ∈ (row T.foes p).filter (firmB T F) := List.mem_filter.2 ⟨hf, hfm⟩
  have hnd : ((row T.foes (p : Int)).filter (firmB T F)).Nodup := (pw_nodup (foe_pw hp hpn).1).filter _
  have h64 : ((row T.foes (p : Int)).filter (firmB T F)).length ≤ 64 := Nat.le_trans (List.length_filter_le _ _) (foe_pw hp hpn).2
  have hmk := lf_mark (P := fun u => G.f u p) hnd hm hn
  have hpos := lf_pos (P := fun u => G.f u p) hm hn
  have hle := lf_le (l := (row T.foes (p : Int)).filter (firmB T F)) (P := fun u => G.f u p)
  have hr0 := lf_nonneg (l := agL T p) (P := fun s => G.r s p)
  have hr1 := lf_le (l := agL T p) (P := fun s => G.r s p)
  have hal := ag_len (T := T) (p := p)
  have hrl := hp.ok.rl
  refine ⟨h.ms, h.rf, h.op, h.cd, fun z hz htz => ?_⟩
  show upd e.ob p (dec (e.ob p)) z = lf _ (fun u => mk2 G.f f p u z) + lf _ fun s => G.r s z
  rw [mk2_col]
  by_cases ez : z = p
  · subst ez
    rw [upd_at, if_pos rfl, hmk, h.ob z hz htz, dec_eq (by omega) (by omega)]
    omega
  · rw [upd_off (by omega), if_neg (by omega)]
    exact h.ob z hz htz
theorem Exa.clearR (hp : Pf T F n) (h : Exa T F n G e) {s : Int} {p : Nat} (hpn : p < n) (hs : s ∈ agL T p) (hn : G.r s p = false) (ht : rulesL T kT p ≠ []) : Exa T F n { G with r := mk2 G.r s p } (clearE e p) := by
  have hmk := lf_mark (P := fun u => G.r u p) ag_nd hs hn
  have hpos := lf_pos (P := fun u => G.r u p) hs hn
  have h64 : ((row T.foes (p : Int)).filter (firmB T F)).length ≤ 64 := Nat.le_trans (List.length_filter_le _ _) (foe_pw hp hpn).2
  have hle := lf_le (l := (row T.foes (p : Int)).filter (firmB T F)) (P := fun u => G.f u p)
  have hle0 := lf_nonneg (l := (row T.foes (p : Int)).filter (firmB T F)) (P := fun u => G.f u p)
  have hr1 := lf_le (l := agL T p) (P := fun s => G.r s p)
  have hal := ag_len (T := T) (p := p)
  have hrl := hp.ok.rl
  refine ⟨h.ms, h.rf, h.op, h.cd, fun z hz htz => ?_⟩
  show upd e.ob p (dec (e.ob p)) z = lf _ (fun u => G.f u z) + lf _ fun u => mk2 G.r s p u z
  rw [mk2_col]
  by_cases ez : z = p
  · subst ez
    rw [upd_at, if_pos rfl, hmk, h.ob z hz htz, dec_eq (by omega) (by omega)]
    omega
  · rw [upd_off (by omega), if_neg (by omega)]
    exact h.ob z hz htz
theorem Exa.withd (hp : Pf T F n) (h : Exa T F n G e) {t : Int} {s p : Nat} (hs : s < T.rules.length) (hpr : (p : Int) ∈ rivalsL T (headOf T s)) (ht : t ∈ rulesL T kT p) (hb : beatB T t s = true) (hn : G.w t s = false) : Exa T F n { G with w := mk2 G.w t s } { e with cd := upd e.cd s (upd (e.cd s) p (dec (e.cd s p))), up := inc e.up } := by
  have hm : t ∈ (rulesL T kT (p : Int)).filter fun t => beatB T t s := List.mem_filter.2 ⟨ht, hb⟩
  have hmk := lf_mark (P := fun u => G.w u s) (rules_nd.filter _) hm hn
  have hpos := lf_pos (P := fun u => G.w u s) hm hn
  have hle := lf_le (l := (rulesL T kT (p : Int)).filter fun t => beatB T t s) (P := fun u => G.w u s)
  have hl2 : ((rulesL T kT (p : Int)).filter fun t => beatB T t s).length ≤ T.rules.length := Nat.le_trans (List.length_filter_le _ _) rules_len
  have hrl := hp.ok.rl
  refine ⟨h.ms, h.rf, h.op, fun u hu z hz => ?_, h.ob⟩
  show upd e.cd s (upd (e.cd s) p (dec (e.cd s p))) u z = lf ((rulesL T kT z).filter fun t => beatB T t u) fun v => mk2 G.w t s v u
  rw [mk2_col]
  by_cases eu : u = s
  · subst eu
    rw [upd_at, if_pos rfl]
    by_cases ez : z = (p : Int)
    · subst ez
      rw [upd_at, hmk, h.cd u hu _ hz, dec_eq hpos (by omega)]
    · rw [upd_off ez, lf_off, h.cd u hu z hz]
      intro hmm
      obtain ⟨a, x, e1, hx, -, hh⟩ := mem_rules.1 (List.mem_filter.1 hmm).1
      obtain ⟨a2, x2, e2, hx2, -, hh2⟩ := mem_rules.1 ht
      have : a = a2 := by omega
      subst this
      rw [hx] at hx2
      cases hx2
      exact ez (hh.symm.trans hh2)
  · rw [upd_off (by omega), if_neg (by omega)]
    exact h.cd u hu z hz
def tp (b : Bool) : Int := if b then 3 else 1
def tn (b : Bool) : Int := if b then 4 else 2
/-- What is accounted is told; what is told holds where the rounds end. -/
structure Snd (T : Th) (n : Nat) (m : List Int) (G : Gho) (e : Es) : Prop where
  a : ∀ b (r : Nat) x, G.a b r x = true → has e x (tp b) = true
  nn : ∀ b (r : Nat) x, G.n b r x = true → has e x (tn b) = true
  c : ∀ b (r : Nat), G.c b r = true → e.rf b r = true
  f : ∀ f p, G.f f p = true → has e f 2 = true
  r : ∀ (s : Nat) p, G.r s p = true → e.rf true s = true ∨ e.cb s p = true
  w : ∀ (t : Nat) s, G.w t s = true → e.rf true t = true
  cb : ∀ (s : Nat) p, e.cb s p = true → ∃ t : Nat, (t : Int) ∈ rulesL T kT p ∧ beatB T t s = true ∧ ∀ x ∈ bodyM T t, G.a true t x = true
  mm : ∀ q t : Int, 0 ≤ q → q < (n : Int) → isTag t → has e q t = true → hs m q t = true
theorem Snd.start {m : List Int} : Snd T n m noG (startE T F) := by
  refine ⟨fun b r x h => (by cases h), fun b r x h => (by cases h), fun b r h => (by cases h), fun f p h => (by cases h), fun s p h => (by cases h), fun t s h => (by cases h), fun s p h => (by cases h), fun q t h0 h1 ht h => ?_⟩
  have : has (startE T F) q t = hb 0 t := rfl
  rw [this, hb_zero ht] at h
  cases h
section
variable {m : List Int}
theorem body_in (hp : Pf T F n) {r : Nat} (hr : r < T.rules.length) {x : Int} (hx : x ∈ bodyM T r) : 0 ≤ x ∧ x < (n : Int) := by
  obtain ⟨y, hy⟩ := get_at hr
  obtain ⟨-, -, e⟩ := kind_at (p := kA) hy
  rw [e] at hx
  exact hp.body y (List.mem_of_getElem? hy) x hx
/-- A used rule's body is whole. -/
theorem Snd.whole (hp : Pf T F n) (h : Snd T n m G e) {b : Bool} {r : Nat} (hr : r < T.rules.length) (ha : ∀ x ∈ bodyM T r, G.a b r x = true) : wholeB T m r (tp b) = true := by
  unfold wholeB
  rw [List.all_eq_true]
  intro x hx
  obtain ⟨x0, x1⟩ := body_in hp hr hx
  exact h.mm x (tp b) x0 x1 (by cases b; exact tag1; exact tag3) (h.a b r x (ha x hx))
theorem kA_kind {r : Nat} (hr : r < T.rules.length) : kindB T (kW true) r = true := by
  obtain ⟨y, hy⟩ := get_at hr
  exact (kind_at (p := kA) hy).1
theorem Exa.used (h : Exa T F n G e) {r : Nat} (hr : r < T.rules.length) : used e r = true ↔ ∀ x ∈ bodyM T r, G.a true r x = true := by
  unfold Fa.used
  rw [decide_eq_true_iff, h.ms true r hr (kA_kind hr), lf_zero]
theorem Snd.part (hp : Pf T F n) (hx : Exa T F n G e) (h : Snd T n m G e) {b : Bool} {r : Nat} (hr : r < T.rules.length) (hf : e.rf b r = true) : partB T m r (tn b) = true := by
  rw [hx.rf b r hr] at hf
  obtain ⟨x, hxb, hg⟩ := List.any_eq_true.1 hf
  unfold partB
  rw [List.any_eq_true]
  obtain ⟨x0, x1⟩ := body_in hp hr hxb
  exact ⟨x, hxb, h.mm x (tn b) x0 x1 (by cases b; exact tag2; exact tag4) (h.nn b r x hg)⟩
/-- What is against is done with. -/
theorem Snd.atk (hp : Pf T F n) (hx : Exa T F n G e) (h : Snd T n m G e) {s : Nat} {p : Int} (hs : s < T.rules.length) (hr : G.r s p = true) : atkP T m p s = true := by
  unfold atkP
  rcases h.r s p hr with hf | hc
  · have := h.part hp hx hs hf
    rw [show tn true = 4 from rfl] at this
    rw [this]
    rfl
  · obtain ⟨t, ht, hb, ha⟩ := h.cb s p hc
    have htR : t < T.rules.length := by obtain ⟨a, x, e1, hx, -⟩ := mem_rules.1 ht; have := (List.getElem?_eq_some_iff.1 hx).1; omega
    have hw := h.whole hp htR ha
    rw [Bool.or_eq_true]
    refine .inr (List.any_eq_true.2 ⟨t, ht, ?_⟩)
    rw [hb, show (3 : Int) = tp true from rfl, hw]
    rfl
end
end
end Go.Proofs.YthifoamnmhlghaaGreat.Fa
