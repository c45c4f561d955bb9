import Derived.Test.YthifoamnmhlghaaGreatSok
namespace Go.Proofs.YthifoamnmhlghaaGreat.Fa
structure ct where
 a : Bool → Int → Int → Bool
 n : Bool → Int → Int → Bool
 c : Bool → Int → Bool
 f : Int → Int → Bool
 r : Int → Int → Bool
 w : Int → Int → Bool
 d : Int → Int → Bool
def lf (l : List Int) (P : Int → Bool) : Int := ((l.filter fun x => !P x).length : Nat)
section
variable {l : List Int} {P Q : Int → Bool} {x : Int}
theorem fY : 0 ≤ lf l P := Int.natCast_nonneg _
theorem iU : lf l P ≤ (l.length : Int) := by unfold lf; have := List.length_filter_le (fun x => !P x) l; omega
theorem cV : lf l P = 0 ↔ ∀ x ∈ l, P x = true := by
 unfold lf
 constructor
 · intro h y hy
   cases hp : P y with
   | true => rfl
   | false =>
    have h2 : y ∈ l.filter fun x => !P x := List.mem_filter.2 ⟨hy, by simp [hp]⟩
    have := List.length_pos_of_mem h2
    omega
 · intro h
   have : (l.filter fun x => !P x) = [] := List.filter_eq_nil_iff.2 fun y hy => by simp [h y hy]
   rw [this]
   rfl
theorem mN (h : ∀ y ∈ l, P y = Q y) : lf l P = lf l Q := by
 unfold lf
 rw [List.filter_congr fun y hy => by rw [h y hy]]
theorem fL (hn : l.Nodup) (hx : x ∈ l) (hp : P x = false) : lf l (ar P x true) = lf l P - 1 := by
 induction l with
 | nil => cases hx
 | cons y l ih =>
  obtain ⟨h1, h2⟩ := List.nodup_cons.1 hn
  by_cases e : x = y
  · subst e
    have h3 : lf l (ar P x true) = lf l P := mN fun z hz => aw fun (e : z = x) => h1 (e ▸ hz)
    unfold lf at h3 ⊢
    rw [List.filter_cons_of_neg (by simp [ay]), List.filter_cons_of_pos (by simp [hp])]
    simp only [List.length_cons]
    omega
  · have hm : x ∈ l := (List.mem_cons.1 hx).resolve_left e
    have h3 := ih h2 hm
    unfold lf at h3 ⊢
    have e2 : ar P x true y = P y := aw fun (e' : y = x) => e e'.symm
    cases hy : P y with
    | true => rw [List.filter_cons_of_neg (by simp [e2, hy]), List.filter_cons_of_neg (by simp [hy])]; exact h3
    | false => rw [List.filter_cons_of_pos (by simp [e2, hy]), List.filter_cons_of_pos (by simp [hy])]; simp only [List.length_cons]; omega
theorem qw (hx : x ∉ l) : lf l (ar P x true) = lf l P := mN fun z hz => aw fun (e : z = x) => hx (e ▸ hz)
end
structure Exa (T : Th) (F : List Int) (n : Nat) (G : ct) (e : Es) : Prop where
 ms : ∀ b (r : Nat), r < T.rules.length → aC T (kW b) r = true → e.ms b r = lf (aB T r) (G.a b r)
 rf : ∀ b (r : Nat), r < T.rules.length → e.rf b r = (aB T r).any (G.n b r)
 op : ∀ b (q : Nat), q < n → e.op b q = if ci T F b q || (af T (kL b) q).isEmpty then 0 else max 1 (lf (af T (kL b) q) (G.c b))
 cd : ∀ s : Nat, s < T.rules.length → ∀ p ∈ ak T (ag T s), e.cd s p = lf ((af T kT p).filter fun t => beatB T t s) fun t => G.w t s
 ob : ∀ p : Nat, p < n → af T kT p ≠ [] → e.ob p = lf ((row T.foes p).filter (aD T F)) (fun f => G.f f p) + lf (ed T p) fun s => G.r s p
def oI : ct := ⟨fun _ _ _ => false, fun _ _ _ => false, fun _ _ => false, fun _ _ => false, fun _ _ => false, fun _ _ => false, fun _ _ => false⟩
theorem iu {l : List Int} : lf l (fun _ => false) = (l.length : Int) := congrArg (fun k : Nat => (k : Int)) (congrArg List.length (List.filter_eq_self.2 fun _ _ => rfl))
theorem Exa.start {T : Th} {F : List Int} {n : Nat} : Exa T F n oI (aS T F) := by
 refine ⟨fun b r hr hk => ?_, fun b r hr => ?_, fun b q hq => ?_, fun s hs p hp => ?_, fun p hp ht => ?_⟩
 · show (if aC T (kW b) r then ((aB T r).length : Int) else 0) = lf _ fun _ => false
   rw [if_pos hk, iu]
 · show false = (aB T r).any fun _ => false
   simp
 · show (if ci T F b q then 0 else ((af T (kL b) q).length : Int)) = if ci T F b q || (af T (kL b) q).isEmpty then 0 else max 1 (lf (af T (kL b) q) fun _ => false)
   rw [iu]
   cases ci T F b q with
   | true => rfl
   | false =>
    cases h : af T (kL b) (q : Int) with
    | nil => rfl
    | cons x l => simp; omega
 · show gJ (af T kT p) (fun t => beatB T t s) = lf _ fun _ => false
   rw [iu]
   rfl
 · show (if (af T kT (p : Int)).isEmpty then 0 else gJ (row T.foes p) (aD T F) + ((ed T p).length : Nat)) = lf _ (fun _ => false) + lf _ fun _ => false
   rw [iu, iu, if_neg (by simpa using ht)]
   rfl
def b4 (g : Int → Int → Bool) (x y : Int) : Int → Int → Bool := ar g x (ar (g x) y true)
theorem lT {g : Int → Int → Bool} {x y z : Int} : (fun u => b4 g x y u z) = if z = y then ar (fun u => g u y) x true else fun u => g u z := by
 funext u
 unfold b4
 by_cases e : u = x
 · subst e
   rw [ay]
   by_cases e2 : z = y
   · subst e2; rw [if_pos rfl, ay, ay]
   · rw [if_neg e2, aw e2]
 · rw [aw e]
   by_cases e2 : z = y
   · subst e2; rw [if_pos rfl, aw e]
   · rw [if_neg e2]
theorem oi {g : Int → Int → Bool} {x y : Int} : b4 g x y x = ar (g x) y true := ay
theorem oq {g : Int → Int → Bool} {x y u : Int} (h : u ≠ x) : b4 g x y u = g u := aw h
theorem iF {g : Int → Int → Bool} {x y u v : Int} (h : g u v = true) : b4 g x y u v = true := by
 unfold b4
 by_cases e : u = x
 · subst e
   rw [ay]
   by_cases e2 : v = y
   · subst e2; rw [ay]
   · rw [aw e2]; exact h
 · rw [aw e]; exact h
theorem bM {g : Int → Int → Bool} {x y u v : Int} : b4 g x y u v = true ↔ g u v = true ∨ (u = x ∧ v = y) := by
 unfold b4
 by_cases e : u = x
 · subst e
   rw [ay]
   by_cases e2 : v = y
   · subst e2; rw [ay]; simp
   · rw [aw e2]; simp [e2]
 · rw [aw e]; simp [e]
theorem jw {v : Int} (h0 : 0 < v) (h1 : v < 1099511627776) : cC v = v - 1 := by
 unfold cC
 rw [IntKind.wrap_i64]
 omega
section
variable {T : Th} {F : List Int} {n : Nat} {G : ct} {e e' : Es}
theorem Exa.same (h : Exa T F n G e) (h1 : e'.ms = e.ms) (h2 : e'.rf = e.rf) (h3 : e'.op = e.op) (h4 : e'.cd = e.cd) (h5 : e'.ob = e.ob) : Exa T F n G e' :=
 ⟨fun b r hr hk => by rw [h1]; exact h.ms b r hr hk, fun b r hr => by rw [h2]; exact h.rf b r hr, fun b q hq => by rw [h3]; exact h.op b q hq, fun s hs p hp => by rw [h4]; exact h.cd s hs p hp, fun p hp ht => by rw [h5]; exact h.ob p hp ht⟩
theorem Exa.tell (h : Exa T F n G e) {q t : Int} : Exa T F n G (tell e q t) := by
 unfold Fa.tell
 split
 · exact h
 · exact h.same rfl rfl rfl rfl rfl
theorem Exa.lose (h : Exa T F n G e) {q : Int} : Exa T F n G (aI e q) := by
 unfold aI
 split
 · exact h.tell
 · exact h
theorem iD {l : List Int} {P : Int → Bool} {x : Int} (hx : x ∈ l) (hp : P x = false) : 0 < lf l P := by
 have h0 := fY (l := l) (P := P)
 have : lf l P ≠ 0 := fun e => by have := cV.1 e x hx; rw [hp] at this; cases this
 omega
theorem sH (hp : Pf T F n) {r : Nat} (hr : r < T.rules.length) : (aB T r).Nodup ∧ (aB T r).length ≤ 16 := by
 obtain ⟨x, hx⟩ := ap hr
 obtain ⟨-, -, e⟩ := dp (p := kA) hx
 rw [e]
 have := hp.ok.rule x (List.mem_of_getElem? hx)
 exact ⟨cq (bG (by omega) this.2.2.2.2.2).2, this.2.2.2.2.1⟩
theorem Exa.met (hp : Pf T F n) (h : Exa T F n G e) {b : Bool} {r : Nat} {q : Int} (hr : r < T.rules.length) (hk : aC T (kW b) r = true) (hq : q ∈ aB T r) (hn : G.a b r q = false) : Exa T F n { G with a := aJ G.a b (b4 (G.a b) r q) } (bA e b r) := by
 obtain ⟨hnd, hl⟩ := sH hp hr
 refine ⟨fun c s hs hks => ?_, h.rf, h.op, h.cd, h.ob⟩
 show aJ e.ms b (ar (e.ms b) r (cC (e.ms b r))) c s = lf (aB T s) (aJ G.a b (b4 (G.a b) r q) c s)
 by_cases ec : c = b
 · subst ec
   rw [aF, aF]
   by_cases es : s = r
   · subst es
     have h1 := h.ms c s hr hk
     have hpos := iD hq hn
     have hle := iU (l := aB T s) (P := G.a c s)
     rw [ay, oi, fL hnd hq hn, h1, jw hpos (by omega)]
   · rw [aw (by omega), oq (by omega)]
     exact h.ms c s hs hks
 · rw [aM ec, aM ec]
   exact h.ms c s hs hks
theorem rg {l : List Int} {P : Int → Bool} {x : Int} (hx : x ∈ l) : l.any (ar P x true) = true := List.any_eq_true.2 ⟨x, hx, ay⟩
theorem Exa.ref (h : Exa T F n G e) {b : Bool} {r : Nat} {q : Int} (hr : r < T.rules.length) (hq : q ∈ aB T r) : Exa T F n { G with n := aJ G.n b (b4 (G.n b) r q) } (refE e b r) := by
 have key : ∀ c (s : Nat), s < T.rules.length → (if c = b ∧ s = r then true else e.rf c s) = (aB T s).any (aJ G.n b (b4 (G.n b) r q) c s) := by
  intro c s hs
  by_cases ec : c = b
  · subst ec
    rw [aF]
    by_cases es : s = r
    · subst es
      rw [if_pos ⟨rfl, rfl⟩, oi, rg hq]
    · rw [if_neg fun a => es a.2, oq (by omega)]
      exact h.rf c s hs
  · rw [if_neg fun a => ec a.1, aM ec]
    exact h.rf c s hs
 unfold refE
 by_cases hrf : e.rf b r = true
 · rw [if_pos hrf]
   refine ⟨h.ms, fun c s hs => ?_, h.op, h.cd, h.ob⟩
   rw [← key c s hs]
   by_cases ec : c = b ∧ s = r
   · rw [if_pos ec, ec.1, ec.2]; exact hrf
   · rw [if_neg ec]
 · rw [if_neg hrf]
   refine ⟨h.ms, fun c s hs => ?_, h.op, h.cd, h.ob⟩
   rw [← key c s hs]
   show aJ e.rf b (ar (e.rf b) r true) c s = _
   by_cases ec : c = b
   · subst ec
     rw [aF]
     by_cases es : s = r
     · subst es; rw [ay, if_pos ⟨rfl, rfl⟩]
     · rw [aw (by omega), if_neg fun a => es a.2]
   · rw [aM ec, if_neg fun a => ec a.1]
theorem rules_nd {p : RuleM → Bool} {z : Int} : (af T p z).Nodup := by
 unfold af bQ
 refine List.Pairwise.map _ (fun a b h => ?_) ((List.nodup_range).filter _)
 intro e
 exact h (Int.ofNat.inj e)
theorem Exa.cls (hp : Pf T F n) (h : Exa T F n G e) {b : Bool} {r : Int} {q : Nat} (hq : q < n) (hr : r ∈ af T (kL b) q) (hn : G.c b r = false) : Exa T F n { G with c := aJ G.c b (ar (G.c b) r true) } (aH e b q) := by
 have hrl := hp.ok.rl
 have hlen : (af T (kL b) (q : Int)).length ≤ T.rules.length := eN
 have hle := iU (l := af T (kL b) (q : Int)) (P := G.c b)
 have hpos := iD hr hn
 have hmk := fL rules_nd hr hn
 have h1 := h.op b q hq
 have hne : (af T (kL b) (q : Int)).isEmpty = false := by
  cases hh : af T (kL b) (q : Int) with
  | nil => rw [hh] at hr; cases hr
  | cons _ _ => rfl
 have other : ∀ c (z : Nat), z < n → ¬ (c = b ∧ z = q) → lf (af T (kL c) z) (aJ G.c b (ar (G.c b) r true) c) = lf (af T (kL c) z) (G.c c) := by
  intro c z hz hne2
  by_cases ec : c = b
  · subst ec
    rw [aF]
    refine qw fun hm => hne2 ⟨rfl, ?_⟩
    obtain ⟨a, x, e1, hx, -, hh⟩ := bV.1 hm
    obtain ⟨a2, x2, e2, hx2, -, hh2⟩ := bV.1 hr
    have : a = a2 := by omega
    subst this
    rw [hx] at hx2
    cases hx2
    omega
  · rw [aM ec]
 unfold aH
 rw [hne, Bool.or_false] at h1
 by_cases h2 : 1 < e.op b q
 · rw [if_pos h2]
   refine ⟨h.ms, h.rf, fun c z hz => ?_, h.cd, h.ob⟩
   show aJ e.op b (ar (e.op b) q (cC (e.op b q))) c z = if ci T F c z || (af T (kL c) z).isEmpty then 0 else max 1 (lf (af T (kL c) z) (aJ G.c b (ar (G.c b) r true) c))
   by_cases ec : c = b ∧ z = q
   · obtain ⟨rfl, rfl⟩ := ec
     rw [aF, ay, aF, hne, Bool.or_false, hmk]
     cases ho : ci T F c z with
     | true => rw [ho] at h1; simp at h1; omega
     | false =>
      rw [ho] at h1
      simp only [Bool.false_eq_true, if_false] at h1 ⊢
      rw [jw (by omega) (by omega)]
      omega
   · rw [other c z hz ec]
     have : aJ e.op b (ar (e.op b) q (cC (e.op b q))) c z = e.op c z := by
      by_cases ec2 : c = b
      · subst ec2; rw [aF, aw (by intro e3; exact ec ⟨rfl, by omega⟩)]
      · rw [aM ec2]
     rw [this]
     exact h.op c z hz
 · rw [if_neg h2]
   refine ⟨h.ms, h.rf, fun c z hz => ?_, h.cd, h.ob⟩
   show e.op c z = if ci T F c z || (af T (kL c) z).isEmpty then 0 else max 1 (lf (af T (kL c) z) (aJ G.c b (ar (G.c b) r true) c))
   by_cases ec : c = b ∧ z = q
   · obtain ⟨rfl, rfl⟩ := ec
     rw [aF, hne, Bool.or_false, hmk, h1]
     rw [h1] at h2
     cases ho : ci T F c z with
     | true => rfl
     | false =>
      rw [ho] at h2
      simp only [Bool.false_eq_true, if_false] at h2 ⊢
      omega
   · rw [other c z hz ec]
     exact h.op c z hz
theorem tX {p : Int} : (ed T p).Nodup := by
 unfold ed
 refine List.Pairwise.map _ (fun a b h => ?_) ((List.nodup_range).filter _)
 intro e
 exact h (Int.ofNat.inj e)
theorem qd {p : Int} : (ed T p).length ≤ T.rules.length := by
 unfold ed
 rw [List.length_map]
 exact Nat.le_trans (List.length_filter_le _ _) (by simp)
theorem Exa.clearF (hp : Pf T F n) (h : Exa T F n G e) {f : Int} {p : Nat} (hpn : p < n) (hf : f ∈ row T.foes p) (hfm : aD T F f = true) (hn : G.f f p = false) (ht : af T kT p ≠ []) : Exa T F n { G with f := b4 G.f f p } (bZ e p) := by
 have hm : f ∈ (row T.foes p).filter (aD T F) := List.mem_filter.2 ⟨hf, hfm⟩
 have hnd : ((row T.foes (p : Int)).filter (aD T F)).Nodup := (cq (en hp hpn).1).filter _
 have h64 : ((row T.foes (p : Int)).filter (aD T F)).length ≤ 64 := Nat.le_trans (List.length_filter_le _ _) (en hp hpn).2
 have hmk := fL (P := fun u => G.f u p) hnd hm hn
 have hpos := iD (P := fun u => G.f u p) hm hn
 have hle := iU (l := (row T.foes (p : Int)).filter (aD T F)) (P := fun u => G.f u p)
 have hr0 := fY (l := ed T p) (P := fun s => G.r s p)
 have hr1 := iU (l := ed T p) (P := fun s => G.r s p)
 have hal := qd (T := T) (p := p)
 have hrl := hp.ok.rl
 refine ⟨h.ms, h.rf, h.op, h.cd, fun z hz htz => ?_⟩
 show ar e.ob p (cC (e.ob p)) z = lf _ (fun u => b4 G.f f p u z) + lf _ fun s => G.r s z
 rw [lT]
 by_cases ez : z = p
 · subst ez
   rw [ay, if_pos rfl, hmk, h.ob z hz htz, jw (by omega) (by omega)]
   omega
 · rw [aw (by omega), if_neg (by omega)]
   exact h.ob z hz htz
theorem Exa.clearR (hp : Pf T F n) (h : Exa T F n G e) {s : Int} {p : Nat} (hpn : p < n) (hs : s ∈ ed T p) (hn : G.r s p = false) (ht : af T kT p ≠ []) : Exa T F n { G with r := b4 G.r s p } (bZ e p) := by
 have hmk := fL (P := fun u => G.r u p) tX hs hn
 have hpos := iD (P := fun u => G.r u p) hs hn
 have h64 : ((row T.foes (p : Int)).filter (aD T F)).length ≤ 64 := Nat.le_trans (List.length_filter_le _ _) (en hp hpn).2
 have hle := iU (l := (row T.foes (p : Int)).filter (aD T F)) (P := fun u => G.f u p)
 have hle0 := fY (l := (row T.foes (p : Int)).filter (aD T F)) (P := fun u => G.f u p)
 have hr1 := iU (l := ed T p) (P := fun s => G.r s p)
 have hal := qd (T := T) (p := p)
 have hrl := hp.ok.rl
 refine ⟨h.ms, h.rf, h.op, h.cd, fun z hz htz => ?_⟩
 show ar e.ob p (cC (e.ob p)) z = lf _ (fun u => G.f u z) + lf _ fun u => b4 G.r s p u z
 rw [lT]
 by_cases ez : z = p
 · subst ez
   rw [ay, if_pos rfl, hmk, h.ob z hz htz, jw (by omega) (by omega)]
   omega
 · rw [aw (by omega), if_neg (by omega)]
   exact h.ob z hz htz
theorem Exa.withd (hp : Pf T F n) (h : Exa T F n G e) {t : Int} {s p : Nat} (hs : s < T.rules.length) (hpr : (p : Int) ∈ ak T (ag T s)) (ht : t ∈ af T kT p) (hb : beatB T t s = true) (hn : G.w t s = false) : Exa T F n { G with w := b4 G.w t s } { e with cd := ar e.cd s (ar (e.cd s) p (cC (e.cd s p))), up := aE e.up } := by
 have hm : t ∈ (af T kT (p : Int)).filter fun t => beatB T t s := List.mem_filter.2 ⟨ht, hb⟩
 have hmk := fL (P := fun u => G.w u s) (rules_nd.filter _) hm hn
 have hpos := iD (P := fun u => G.w u s) hm hn
 have hle := iU (l := (af T kT (p : Int)).filter fun t => beatB T t s) (P := fun u => G.w u s)
 have hl2 : ((af T kT (p : Int)).filter fun t => beatB T t s).length ≤ T.rules.length := Nat.le_trans (List.length_filter_le _ _) eN
 have hrl := hp.ok.rl
 refine ⟨h.ms, h.rf, h.op, fun u hu z hz => ?_, h.ob⟩
 show ar e.cd s (ar (e.cd s) p (cC (e.cd s p))) u z = lf ((af T kT z).filter fun t => beatB T t u) fun v => b4 G.w t s v u
 rw [lT]
 by_cases eu : u = s
 · subst eu
   rw [ay, if_pos rfl]
   by_cases ez : z = (p : Int)
   · subst ez
     rw [ay, hmk, h.cd u hu _ hz, jw hpos (by omega)]
   · rw [aw ez, qw, h.cd u hu z hz]
     intro hmm
     obtain ⟨a, x, e1, hx, -, hh⟩ := bV.1 (List.mem_filter.1 hmm).1
     obtain ⟨a2, x2, e2, hx2, -, hh2⟩ := bV.1 ht
     have : a = a2 := by omega
     subst this
     rw [hx] at hx2
     cases hx2
     exact ez (hh.symm.trans hh2)
 · rw [aw (by omega), if_neg (by omega)]
   exact h.cd u hu z hz
def tp (b : Bool) : Int := if b then 3 else 1
def tn (b : Bool) : Int := if b then 4 else 2
structure Snd (T : Th) (n : Nat) (m : List Int) (G : ct) (e : Es) : Prop where
 a : ∀ b (r : Nat) x, G.a b r x = true → has e x (tp b) = true
 nn : ∀ b (r : Nat) x, G.n b r x = true → has e x (tn b) = true
 c : ∀ b (r : Nat), G.c b r = true → e.rf b r = true
 f : ∀ f p, G.f f p = true → has e f 2 = true
 r : ∀ (s : Nat) p, G.r s p = true → e.rf true s = true ∨ e.cb s p = true
 w : ∀ (t : Nat) s, G.w t s = true → e.rf true t = true
 cb : ∀ (s : Nat) p, e.cb s p = true → ∃ t : Nat, (t : Int) ∈ af T kT p ∧ beatB T t s = true ∧ ∀ x ∈ aB T t, G.a true t x = true
 mm : ∀ q t : Int, 0 ≤ q → q < (n : Int) → ax t → has e q t = true → hs m q t = true
theorem Snd.start {m : List Int} : Snd T n m oI (aS T F) := by
 refine ⟨fun b r x h => (by cases h), fun b r x h => (by cases h), fun b r h => (by cases h), fun f p h => (by cases h), fun s p h => (by cases h), fun t s h => (by cases h), fun s p h => (by cases h), fun q t h0 h1 ht h => ?_⟩
 have : has (aS T F) q t = hb 0 t := rfl
 rw [this, iy ht] at h
 cases h
section
variable {m : List Int}
theorem fF (hp : Pf T F n) {r : Nat} (hr : r < T.rules.length) {x : Int} (hx : x ∈ aB T r) : 0 ≤ x ∧ x < (n : Int) := by
 obtain ⟨y, hy⟩ := ap hr
 obtain ⟨-, -, e⟩ := dp (p := kA) hy
 rw [e] at hx
 exact hp.body y (List.mem_of_getElem? hy) x hx
theorem Snd.whole (hp : Pf T F n) (h : Snd T n m G e) {b : Bool} {r : Nat} (hr : r < T.rules.length) (ha : ∀ x ∈ aB T r, G.a b r x = true) : wholeB T m r (tp b) = true := by
 unfold wholeB
 rw [List.all_eq_true]
 intro x hx
 obtain ⟨x0, x1⟩ := fF hp hr hx
 exact h.mm x (tp b) x0 x1 (by cases b; exact tag1; exact tag3) (h.a b r x (ha x hx))
theorem fG {r : Nat} (hr : r < T.rules.length) : aC T (kW true) r = true := by
 obtain ⟨y, hy⟩ := ap hr
 exact (dp (p := kA) hy).1
theorem Exa.used (h : Exa T F n G e) {r : Nat} (hr : r < T.rules.length) : used e r = true ↔ ∀ x ∈ aB T r, G.a true r x = true := by
 unfold Fa.used
 rw [decide_eq_true_iff, h.ms true r hr (fG hr), cV]
theorem Snd.part (hp : Pf T F n) (hx : Exa T F n G e) (h : Snd T n m G e) {b : Bool} {r : Nat} (hr : r < T.rules.length) (hf : e.rf b r = true) : partB T m r (tn b) = true := by
 rw [hx.rf b r hr] at hf
 obtain ⟨x, hxb, hg⟩ := List.any_eq_true.1 hf
 unfold partB
 rw [List.any_eq_true]
 obtain ⟨x0, x1⟩ := fF hp hr hxb
 exact ⟨x, hxb, h.mm x (tn b) x0 x1 (by cases b; exact tag2; exact tag4) (h.nn b r x hg)⟩
theorem Snd.atk (hp : Pf T F n) (hx : Exa T F n G e) (h : Snd T n m G e) {s : Nat} {p : Int} (hs : s < T.rules.length) (hr : G.r s p = true) : gi T m p s = true := by
 unfold gi
 rcases h.r s p hr with hf | hc
 · have := h.part hp hx hs hf
   rw [show tn true = 4 from rfl] at this
   rw [this]
   rfl
 · obtain ⟨t, ht, hb, ha⟩ := h.cb s p hc
   have htR : t < T.rules.length := by obtain ⟨a, x, e1, hx, -⟩ := bV.1 ht; have := (List.getElem?_eq_some_iff.1 hx).1; omega
   have hw := h.whole hp htR ha
   rw [Bool.or_eq_true]
   refine .inr (List.any_eq_true.2 ⟨t, ht, ?_⟩)
   rw [hb, show (3 : Int) = tp true from rfl, hw]
   rfl
end
end
end Go.Proofs.YthifoamnmhlghaaGreat.Fa
namespace Go.Proofs.YthifoamnmhlghaaGreat.Fa
section
variable {T : Th} {F : List Int} {n k : Nat} {m : List Int} {G : ct} {e : Es}
theorem bB {p : RuleM → Bool} {z r : Int} (h : r ∈ af T p z) : ∃ a : Nat, r = (a : Int) ∧ a < T.rules.length ∧ ag T a = z ∧ aC T p a = true := by
 obtain ⟨a, x, e1, hx, hk, hh⟩ := bV.1 h
 obtain ⟨k1, k2, -⟩ := dp (p := p) hx
 exact ⟨a, e1, (List.getElem?_eq_some_iff.1 hx).1, by rw [k2]; exact hh, by rw [k1]; exact hk⟩
theorem Snd.tell (h : Snd T n m G e) (hby : ∀ q, aU (e.mq q)) {q t : Int} (ht : ax t) (hm : hs m q t = true) : Snd T n m G (tell e q t) := by
 unfold Fa.tell
 split
 · exact h
 · have key : ∀ z u : Int, ax u → has { e with mq := ar e.mq q (cw (e.mq q) t), td := e.td ++ [(q, t)], up := aE (aE e.up) } z u = (has e z u || decide (z = q ∧ t = u)) := by
    intro z u hu
    show hb (ar e.mq q (cw (e.mq q) t) z) u = _
    by_cases ez : z = q
    · subst ez
      rw [ay, (dM (hby z) ht hu).1]
      simp [has]
    · rw [aw ez]
      simp [ez, has]
   have up : ∀ z u : Int, ax u → has e z u = true → has { e with mq := ar e.mq q (cw (e.mq q) t), td := e.td ++ [(q, t)], up := aE (aE e.up) } z u = true := fun z u hu hz => by rw [key z u hu, hz]; rfl
   have tpT : ∀ b, ax (tp b) := fun b => by cases b; exact tag1; exact tag3
   have tnT : ∀ b, ax (tn b) := fun b => by cases b; exact tag2; exact tag4
   refine ⟨fun b r x hx => up _ _ (tpT b) (h.a b r x hx), fun b r x hx => up _ _ (tnT b) (h.nn b r x hx), h.c, fun f p hf => up _ _ tag2 (h.f f p hf), h.r, h.w, h.cb, fun z u h0 h1 hu hz => ?_⟩
   rw [key z u hu, Bool.or_eq_true] at hz
   rcases hz with hz | hz
   · exact h.mm z u h0 h1 hu hz
   · obtain ⟨rfl, rfl⟩ := of_decide_eq_true hz
     exact hm
theorem um (hp : Pf T F n) (hs_ : bo T F m k) (hx : Exa T F n G e) (h : Snd T n m G e) {r : Nat} (hr : r < T.rules.length) (hk : aC T kS r = true) (h0 : e.ms false r = 0) : hs m (ag T r) 1 = true := by
 obtain ⟨x, hxr, hh, x0, x1⟩ := cB hp hr
 rw [hx.ms false r hr hk, cV] at h0
 refine (eq hp hs_ (by rw [hh]; exact x0) (by rw [hh]; exact x1) tag1).2 (eL.2 (.inr ⟨r, ?_, h.whole hp (b := false) hr h0⟩))
 exact bV.2 ⟨r, x, rfl, hxr, by rw [← (dp (p := kS) hxr).1]; exact hk, hh.symm⟩
theorem uh (hp : Pf T F n) (hs_ : bo T F m k) (hx : Exa T F n G e) (h : Snd T n m G e) {q : Nat} (hq : q < n) (hF : (q : Int) ∉ F) (hc : ∀ r ∈ af T kS q, e.rf false r = true) : hs m q 2 = true := by
 refine (eq hp hs_ (by omega) (by omega) tag2).2 (eA.2 ⟨hF, fun r hr => ?_⟩)
 obtain ⟨a, rfl, ha, -, -⟩ := bB hr
 exact h.part hp hx (b := false) ha (hc a hr)
theorem tQ (hp : Pf T F n) (hs_ : bo T F m k) (hx : Exa T F n G e) (h : Snd T n m G e) {q : Nat} (hq : q < n) (ho : e.ob q = 0) (hu : (af T kT q).any (used e) = true) : hs m q 3 = true := by
 obtain ⟨r, hr, hur⟩ := List.any_eq_true.1 hu
 obtain ⟨a, rfl, ha, -, -⟩ := bB hr
 have ht : af T kT (q : Int) ≠ [] := fun e => by rw [e] at hr; cases hr
 rw [hx.ob q hq ht] at ho
 have n1 := fY (l := (row T.foes (q : Int)).filter (aD T F)) (P := fun f => G.f f q)
 have n2 := fY (l := ed T q) (P := fun s => G.r s q)
 have z1 := cV.1 (show lf ((row T.foes (q : Int)).filter (aD T F)) (fun f => G.f f q) = 0 by omega)
 have z2 := cV.1 (show lf (ed T q) (fun s => G.r s q) = 0 by omega)
 refine (eq hp hs_ (by omega) (by omega) tag3).2 (eo.2 (.inr ⟨⟨a, hr, h.whole hp (b := true) ha ((hx.used ha).1 hur)⟩, fun f hf => ?_, fun f hf s hsf => ?_⟩))
 · obtain ⟨f0, f1⟩ := hp.foe q hq f hf
   cases hfm : aD T F f with
   | true => exact h.mm f 2 f0 f1 tag2 (h.f f q (z1 f (List.mem_filter.2 ⟨hf, hfm⟩)))
   | false =>
    unfold aD at hfm
    simp only [Bool.or_eq_false_iff, decide_eq_false_iff_not, Bool.not_eq_false', List.isEmpty_iff] at hfm
    refine (eq hp hs_ f0 f1 tag2).2 (eA.2 ⟨hfm.1, fun r hr => ?_⟩)
    rw [hfm.2] at hr
    cases hr
 · obtain ⟨b, rfl, hb, hhb, -⟩ := bB hsf
   refine h.atk hp hx hb (z2 b ?_)
   unfold ed
   refine List.mem_map.2 ⟨b, List.mem_filter.2 ⟨List.mem_range.2 hb, ?_⟩, rfl⟩
   rw [hhb]
   exact decide_eq_true hf
theorem mO (hp : Pf T F n) (hs_ : bo T F m k) {q : Nat} (hq : q < n) (h2 : hs m q 2 = true) (hc : (∀ r ∈ af T kT q, partB T m r 4 = true) ∨ (∃ f ∈ row T.foes q, hs m f 1 = true) ∨ ∃ f ∈ row T.foes q, ∃ s ∈ af T kA f, gh T m q s = true) : hs m q 4 = true :=
 (eq hp hs_ (by omega) (by omega) tag4).2 (gz.2 ⟨h2, hc⟩)
theorem sL (hp : Pf T F n) (hx : Exa T F n G e) (h : Snd T n m G e) {s : Nat} {p : Int} (hs_ : s < T.rules.length) (hpr : p ∈ ak T (ag T s)) (hu : used e s = true) (hc : e.cd s p = 0) : gh T m p s = true := by
 refine jf.2 ⟨h.whole hp (b := true) hs_ ((hx.used hs_).1 hu), fun t ht => ?_⟩
 rw [hx.cd s hs_ p hpr, cV] at hc
 cases hb : beatB T t s with
 | false => exact .inr rfl
 | true =>
  obtain ⟨a, rfl, ha, -, -⟩ := bB ht
  exact .inl (h.part hp hx (b := true) ha (h.w a s (hc a (List.mem_filter.2 ⟨ht, hb⟩))))
end
end Go.Proofs.YthifoamnmhlghaaGreat.Fa
namespace Go.Proofs.YthifoamnmhlghaaGreat.Fa
structure Iv (T : Th) (F : List Int) (n : Nat) (m : List Int) (G : ct) (e : Es) : Prop where
 x : Exa T F n G e
 s : Snd T n m G e
 y : ∀ q, aU (e.mq q)
section
variable {T : Th} {F : List Int} {n k : Nat} {m : List Int} {G : ct} {e : Es}
theorem Iv.start : Iv T F n m oI (aS T F) := ⟨Exa.start, Snd.start, fun _ => (show aU 0 by unfold aU; omega)⟩
theorem sE (h : ∀ q, aU (e.mq q)) {q t : Int} (ht : ax t) : ∀ z, aU ((tell e q t).mq z) := by
 intro z
 unfold Fa.tell
 split
 · exact h z
 · show aU (ar e.mq q (cw (e.mq q) t) z)
   by_cases ez : z = q
   · subst ez; rw [ay]; exact (dM (h z) ht ht).2.1
   · rw [aw ez]; exact h z
theorem Iv.tell (h : Iv T F n m G e) {q t : Int} (ht : ax t) (hm : hs m q t = true) : Iv T F n m G (tell e q t) := ⟨h.x.tell, h.s.tell h.y ht hm, sE h.y ht⟩
theorem Iv.lose (h : Iv T F n m G e) {q : Int} (hm : has e q 2 = true → hs m q 4 = true) : Iv T F n m G (aI e q) := by
 unfold aI
 split
 · rename_i h2; exact h.tell tag4 (hm h2)
 · exact h
theorem Iv.met (hp : Pf T F n) (h : Iv T F n m G e) {b : Bool} {r : Nat} {q : Int} (hr : r < T.rules.length) (hk : aC T (kW b) r = true) (hq : q ∈ aB T r) (hn : G.a b r q = false) (hh : has e q (tp b) = true) : Iv T F n m { G with a := aJ G.a b (b4 (G.a b) r q) } (bA e b r) := by
 have le : ∀ c (s : Nat) x, G.a c s x = true → aJ G.a b (b4 (G.a b) r q) c s x = true := fun c s x hx => by
  by_cases ec : c = b
  · subst ec; rw [aF]; exact iF hx
  · rw [aM ec]; exact hx
 refine ⟨h.x.met hp hr hk hq hn, ⟨fun c s x hx => ?_, h.s.nn, h.s.c, h.s.f, h.s.r, h.s.w, fun s p hc => ?_, h.s.mm⟩, h.y⟩
 · have hx : aJ G.a b (b4 (G.a b) r q) c s x = true := hx
   show has e x (tp c) = true
   by_cases ec : c = b
   · subst ec
     rw [aF] at hx
     rcases bM.1 hx with h1 | ⟨-, rfl⟩
     · exact h.s.a c s x h1
     · exact hh
   · rw [aM ec] at hx
     exact h.s.a c s x hx
 · obtain ⟨t, h1, h2, h3⟩ := h.s.cb s p hc
   exact ⟨t, h1, h2, fun x hx => le true t x (h3 x hx)⟩
theorem lK {b c : Bool} {r : Int} {s : Int} (h : e.rf c s = true) : (refE e b r).rf c s = true := by
 unfold refE
 split
 · exact h
 · show aJ e.rf b (ar (e.rf b) r true) c s = true
   by_cases ec : c = b
   · subst ec
     rw [aF]
     by_cases es : s = r
     · subst es; rw [ay]
     · rw [aw es]; exact h
   · rw [aM ec]; exact h
theorem pi {b : Bool} {r : Int} : (refE e b r).rf b r = true := by
 unfold refE
 split
 · rename_i h; exact h
 · show aJ e.rf b (ar (e.rf b) r true) b r = true
   rw [aF, ay]
theorem iA {b : Bool} {r : Int} {q t : Int} : has (refE e b r) q t = has e q t := by unfold refE; split <;> rfl
theorem pW {b : Bool} {r : Int} : (refE e b r).cb = e.cb := by unfold refE; split <;> rfl
theorem Iv.ref (h : Iv T F n m G e) {b : Bool} {r : Nat} {q : Int} (hr : r < T.rules.length) (hq : q ∈ aB T r) (hh : has e q (tn b) = true) : Iv T F n m { G with n := aJ G.n b (b4 (G.n b) r q) } (refE e b r) := by
 refine ⟨h.x.ref hr hq, ⟨fun c s x hx => by rw [iA]; exact h.s.a c s x hx, fun c s x hx => ?_, fun c s hc => lK (h.s.c c s hc), fun f p hf => by rw [iA]; exact h.s.f f p hf, fun s p hg => ?_, fun t s hg => lK (h.s.w t s hg), fun s p hc => h.s.cb s p (by rw [pW] at hc; exact hc), fun z u h0 h1 hu hz => h.s.mm z u h0 h1 hu (by rw [iA] at hz; exact hz)⟩, fun z => by unfold refE; split; exact h.y z; exact h.y z⟩
 · rw [iA]
   have hx : aJ G.n b (b4 (G.n b) r q) c s x = true := hx
   by_cases ec : c = b
   · subst ec
     rw [aF] at hx
     rcases bM.1 hx with h1 | ⟨-, rfl⟩
     · exact h.s.nn c s x h1
     · exact hh
   · rw [aM ec] at hx
     exact h.s.nn c s x hx
 · rcases h.s.r s p hg with h1 | h1
   · exact .inl (lK h1)
   · exact .inr (by rw [pW]; exact h1)
theorem Iv.cls (hp : Pf T F n) (h : Iv T F n m G e) {b : Bool} {r q : Nat} (hq : q < n) (hr : (r : Int) ∈ af T (kL b) q) (hn : G.c b r = false) (hf : e.rf b r = true) : Iv T F n m { G with c := aJ G.c b (ar (G.c b) r true) } (aH e b q) := by
 have he : (aH e b q).rf = e.rf ∧ (aH e b q).cb = e.cb ∧ (aH e b q).mq = e.mq := by unfold aH; split <;> exact ⟨rfl, rfl, rfl⟩
 have hhas : ∀ z t, has (aH e b q) z t = has e z t := fun z t => by unfold has; rw [he.2.2]
 refine ⟨h.x.cls hp hq hr hn, ⟨fun c s x hx => by rw [hhas]; exact h.s.a c s x hx, fun c s x hx => by rw [hhas]; exact h.s.nn c s x hx, fun c s hc => ?_, fun f p hf => by rw [hhas]; exact h.s.f f p hf, fun s p hg => by rw [he.1, he.2.1]; exact h.s.r s p hg, fun t s hg => by rw [he.1]; exact h.s.w t s hg, fun s p hc => h.s.cb s p (by rw [he.2.1] at hc; exact hc), fun z u h0 h1 hu hz => h.s.mm z u h0 h1 hu (by rw [hhas] at hz; exact hz)⟩, fun z => by rw [he.2.2]; exact h.y z⟩
 rw [he.1]
 have hc : aJ G.c b (ar (G.c b) r true) c s = true := hc
 by_cases ec : c = b
 · subst ec
   rw [aF] at hc
   by_cases es : (s : Int) = r
   · rw [es]; exact hf
   · rw [aw es] at hc; exact h.s.c c s hc
 · rw [aM ec] at hc
   exact h.s.c c s hc
theorem Iv.clearF (hp : Pf T F n) (h : Iv T F n m G e) {f : Int} {p : Nat} (hpn : p < n) (hf : f ∈ row T.foes p) (hfm : aD T F f = true) (hn : G.f f p = false) (ht : af T kT p ≠ []) (hh : has e f 2 = true) : Iv T F n m { G with f := b4 G.f f p } (bZ e p) :=
 ⟨h.x.clearF hp hpn hf hfm hn ht, ⟨h.s.a, h.s.nn, h.s.c, fun g z hg => by
  rcases bM.1 hg with h1 | ⟨rfl, -⟩
  · exact h.s.f g z h1
  · exact hh, h.s.r, h.s.w, h.s.cb, h.s.mm⟩, h.y⟩
theorem Iv.clearR (hp : Pf T F n) (h : Iv T F n m G e) {s p : Nat} (hpn : p < n) (hs_ : (s : Int) ∈ ed T p) (hn : G.r s p = false) (ht : af T kT p ≠ []) (hh : e.rf true s = true ∨ e.cb s p = true) : Iv T F n m { G with r := b4 G.r s p } (bZ e p) :=
 ⟨h.x.clearR hp hpn hs_ hn ht, ⟨h.s.a, h.s.nn, h.s.c, h.s.f, fun g z hg => by
  rcases bM.1 hg with h1 | ⟨h1, h2⟩
  · exact h.s.r g z h1
  · rw [h1, h2]; exact hh, h.s.w, h.s.cb, h.s.mm⟩, h.y⟩
theorem Iv.withd (hp : Pf T F n) (h : Iv T F n m G e) {t s p : Nat} (hs_ : s < T.rules.length) (hpr : (p : Int) ∈ ak T (ag T s)) (ht : (t : Int) ∈ af T kT p) (hb : beatB T t s = true) (hn : G.w t s = false) (hf : e.rf true t = true) : Iv T F n m { G with w := b4 G.w t s } { e with cd := ar e.cd s (ar (e.cd s) p (cC (e.cd s p))), up := aE e.up } :=
 ⟨h.x.withd hp hs_ hpr ht hb hn, ⟨h.s.a, h.s.nn, h.s.c, h.s.f, h.s.r, fun g z hg => by
  rcases bM.1 hg with h1 | ⟨h1, -⟩
  · exact h.s.w g z h1
  · show e.rf true g = true
    rw [h1]; exact hf, h.s.cb, h.s.mm⟩, h.y⟩
theorem Iv.beat (h : Iv T F n m G e) {t s : Nat} {p : Int} (ht : (t : Int) ∈ af T kT p) (hb : beatB T t s = true) (ha : ∀ x ∈ aB T t, G.a true t x = true) : Iv T F n m G { e with cb := ar e.cb s (ar (e.cb s) p true), up := aE e.up } := by
 have key : ∀ (u : Nat) (z : Int), ar e.cb s (ar (e.cb s) p true) u z = true ↔ e.cb u z = true ∨ ((u : Int) = s ∧ z = p) := fun u z => bM (g := e.cb) (x := s) (y := p)
 refine ⟨h.x.same rfl rfl rfl rfl rfl, ⟨h.s.a, h.s.nn, h.s.c, h.s.f, fun u z hg => ?_, h.s.w, fun u z hc => ?_, h.s.mm⟩, h.y⟩
 · rcases h.s.r u z hg with h1 | h1
   · exact .inl h1
   · exact .inr ((key u z).2 (.inl h1))
 · rcases (key u z).1 hc with h1 | ⟨h1, h2⟩
   · exact h.s.cb u z h1
   · rw [h1, h2]
     exact ⟨t, ht, hb, ha⟩
end
end Go.Proofs.YthifoamnmhlghaaGreat.Fa
