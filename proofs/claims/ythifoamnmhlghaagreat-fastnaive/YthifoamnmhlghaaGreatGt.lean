/- Each small step keeps what is accounted. PLAIN. -/
import Derived.Test.YthifoamnmhlghaaGreatGs
namespace Go.Proofs.YthifoamnmhlghaaGreat.Fa

/-- The counters are exact, and all that is accounted or told is sound. -/
structure Iv (T : Th) (F : List Int) (n : Nat) (m : List Int) (G : Gho) (e : Es) : Prop where
  x : Exa T F n G e
  s : Snd T n m G e
  y : ∀ q, isByte (e.mq q)
section
variable {T : Th} {F : List Int} {n k : Nat} {m : List Int} {G : Gho} {e : Es}
theorem Iv.start : Iv T F n m noG (startE T F) := ⟨Exa.start, Snd.start, fun _ => (show isByte 0 by unfold isByte; omega)⟩
theorem tell_by (h : ∀ q, isByte (e.mq q)) {q t : Int} (ht : isTag t) : ∀ z, isByte ((tell e q t).mq z) := by
  intro z
  unfold Fa.tell
  split
  · exact h z
  · show isByte (upd e.mq q (orB (e.mq q) t) z)
    by_cases ez : z = q
    · subst ez; rw [upd_at]; exact (or_facts (h z) ht ht).2.1
    · rw [upd_off ez]; exact h z
theorem Iv.tell (h : Iv T F n m G e) {q t : Int} (ht : isTag t) (hm : hs m q t = true) : Iv T F n m G (tell e q t) := ⟨h.x.tell, h.s.tell h.y ht hm, tell_by h.y ht⟩
theorem Iv.lose (h : Iv T F n m G e) {q : Int} (hm : has e q 2 = true → hs m q 4 = true) : Iv T F n m G (loseE e q) := by
  unfold loseE
  split
  · rename_i h2; exact h.tell tag4 (hm h2)
  · exact h
theorem Iv.met (hp : Pf T F n) (h : Iv T F n m G e) {b : Bool} {r : Nat} {q : Int} (hr : r < T.rules.length) (hk : kindB T (kW b) r = true) (hq : q ∈ bodyM T r) (hn : G.a b r q = false) (hh : has e q (tp b) = true) : Iv T F n m { G with a := updB G.a b (mk2 (G.a b) r q) } (metE e b r) := by
  have le : ∀ c (s : Nat) x, G.a c s x = true → updB G.a b (mk2 (G.a b) r q) c s x = true := fun c s x hx => by
    by_cases ec : c = b
    · subst ec; rw [updB_at]; exact mk2_le hx
    · rw [updB_off ec]; exact hx
  refine ⟨h.x.met hp hr hk hq hn, ⟨fun c s x hx => ?_, h.s.nn, h.s.c, h.s.f, h.s.r, h.s.w, fun s p hc => ?_, h.s.mm⟩, h.y⟩
  · have hx : updB G.a b (mk2 (G.a b) r q) c s x = true := hx
    show has e x (tp c) = true
    by_cases ec : c = b
    · subst ec
      rw [updB_at] at hx
      rcases mk2_iff.1 hx with h1 | ⟨-, rfl⟩
      · exact h.s.a c s x h1
      · exact hh
    · rw [updB_off ec] at hx
      exact h.s.a c s x hx
  · obtain ⟨t, h1, h2, h3⟩ := h.s.cb s p hc
    exact ⟨t, h1, h2, fun x hx => le true t x (h3 x hx)⟩
theorem rf_mono {b c : Bool} {r : Int} {s : Int} (h : e.rf c s = true) : (refE e b r).rf c s = true := by
  unfold refE
  split
  · exact h
  · show updB e.rf b (upd (e.rf b) r true) c s = true
    by_cases ec : c = b
    · subst ec
      rw [updB_at]
      by_cases es : s = r
      · subst es; rw [upd_at]
      · rw [upd_off es]; exact h
    · rw [updB_off ec]; exact h
theorem rf_at {b : Bool} {r : Int} : (refE e b r).rf b r = true := by
  unfold refE
  split
  · rename_i h; exact h
  · show updB e.rf b (upd (e.rf b) r true) b r = true
    rw [updB_at, upd_at]
theorem ref_has {b : Bool} {r : Int} {q t : Int} : has (refE e b r) q t = has e q t := by unfold refE; split <;> rfl
theorem ref_cb {b : Bool} {r : Int} : (refE e b r).cb = e.cb := by unfold refE; split <;> rfl
theorem Iv.ref (h : Iv T F n m G e) {b : Bool} {r : Nat} {q : Int} (hr : r < T.rules.length) (hq : q ∈ bodyM T r) (hh : has e q (tn b) = true) : Iv T F n m { G with n := updB G.n b (mk2 (G.n b) r q) } (refE e b r) := by
  refine ⟨h.x.ref hr hq, ⟨fun c s x hx => by rw [ref_has]; exact h.s.a c s x hx, fun c s x hx => ?_, fun c s hc => rf_mono (h.s.c c s hc), fun f p hf => by rw [ref_has]; exact h.s.f f p hf, fun s p hg => ?_, fun t s hg => rf_mono (h.s.w t s hg), fun s p hc => h.s.cb s p (by rw [ref_cb] at hc; exact hc), fun z u h0 h1 hu hz => h.s.mm z u h0 h1 hu (by rw [ref_has] at hz; exact hz)⟩, fun z => by unfold refE; split; exact h.y z; exact h.y z⟩
  · rw [ref_has]
    have hx : updB G.n b (mk2 (G.n b) r q) c s x = true := hx
    by_cases ec : c = b
    · subst ec
      rw [updB_at] at hx
      rcases mk2_iff.1 hx with h1 | ⟨-, rfl⟩
      · exact h.s.nn c s x h1
      · exact hh
    · rw [updB_off ec] at hx
      exact h.s.nn c s x hx
  · rcases h.s.r s p hg with h1 | h1
    · exact .inl (rf_mono h1)
    · exact .inr (by rw [ref_cb]; exact h1)
theorem Iv.cls (hp : Pf T F n) (h : Iv T F n m G e) {b : Bool} {r q : Nat} (hq : q < n) (hr : (r : Int) ∈ rulesL T (kL b) q) (hn : G.c b r = false) (hf : e.rf b r = true) : Iv T F n m { G with c := updB G.c b (upd (G.c b) r true) } (clsE e b q) := by
  have he : (clsE e b q).rf = e.rf ∧ (clsE e b q).cb = e.cb ∧ (clsE e b q).mq = e.mq := by unfold clsE; split <;> exact ⟨rfl, rfl, rfl⟩
  have hhas : ∀ z t, has (clsE e b q) z t = has e z t := fun z t => by unfold has; rw [he.2.2]
  refine ⟨h.x.cls hp hq hr hn, ⟨fun c s x hx => by rw [hhas]; exact h.s.a c s x hx, fun c s x hx => by rw [hhas]; exact h.s.nn c s x hx, fun c s hc => ?_, fun f p hf => by rw [hhas]; exact h.s.f f p hf, fun s p hg => by rw [he.1, he.2.1]; exact h.s.r s p hg, fun t s hg => by rw [he.1]; exact h.s.w t s hg, fun s p hc => h.s.cb s p (by rw [he.2.1] at hc; exact hc), fun z u h0 h1 hu hz => h.s.mm z u h0 h1 hu (by rw [hhas] at hz; exact hz)⟩, fun z => by rw [he.2.2]; exact h.y z⟩
  rw [he.1]
  have hc : updB G.c b (upd (G.c b) r true) c s = true := hc
  by_cases ec : c = b
  · subst ec
    rw [updB_at] at hc
    by_cases es : (s : Int) = r
    · rw [es]; exact hf
    · rw [upd_off es] at hc; exact h.s.c c s hc
  · rw [updB_off ec] at hc
    exact h.s.c c s hc
theorem Iv.clearF (hp : Pf T F n) (h : Iv T F n m G e) {f : Int} {p : Nat} (hpn : p < n) (hf : f ∈ row T.foes p) (hfm : firmB T F f = true) (hn : G.f f p = false) (ht : rulesL T kT p ≠ []) (hh : has e f 2 = true) : Iv T F n m { G with f := mk2 G.f f p } (clearE e p) :=
  ⟨h.x.clearF hp hpn hf hfm hn ht, ⟨h.s.a, h.s.nn, h.s.c, fun g z hg => by
    rcases mk2_iff.1 hg with h1 | ⟨rfl, -⟩
    · exact h.s.f g z h1
    · exact hh, h.s.r, h.s.w, h.s.cb, h.s.mm⟩, h.y⟩
theorem Iv.clearR (hp : Pf T F n) (h : Iv T F n m G e) {s p : Nat} (hpn : p < n) (hs_ : (s : Int) ∈ agL T p) (hn : G.r s p = false) (ht : rulesL T kT p ≠ []) (hh : e.rf true s = true ∨ e.cb s p = true) : Iv T F n m { G with r := mk2 G.r s p } (clearE e p) :=
  ⟨h.x.clearR hp hpn hs_ hn ht, ⟨h.s.a, h.s.nn, h.s.c, h.s.f, fun g z hg => by
    rcases mk2_iff.1 hg with h1 | ⟨h1, h2⟩
    · exact h.s.r g z h1
    · rw [h1, h2]; exact hh, h.s.w, h.s.cb, h.s.mm⟩, h.y⟩
theorem Iv.withd (hp : Pf T F n) (h : Iv T F n m G e) {t s p : Nat} (hs_ : s < T.rules.length) (hpr : (p : Int) ∈ rivalsL T (headOf T s)) (ht : (t : Int) ∈ rulesL T kT p) (hb : beatB T t s = true) (hn : G.w t s = false) (hf : e.rf true t = true) : Iv T F n m { G with w := mk2 G.w t s } { e with cd := upd e.cd s (upd (e.cd s) p (dec (e.cd s p))), up := inc e.up } :=
  ⟨h.x.withd hp hs_ hpr ht hb hn, ⟨h.s.a, h.s.nn, h.s.c, h.s.f, h.s.r, fun g z hg => by
    rcases mk2_iff.1 hg with h1 | ⟨h1, -⟩
    · exact h.s.w g z h1
    · show e.rf true g = true
      rw [h1]; exact hf, h.s.cb, h.s.mm⟩, h.y⟩
theorem Iv.beat (h : Iv T F n m G e) {t s : Nat} {p : Int} (ht : (t : Int) ∈ rulesL T kT p) (hb : beatB T t s = true) (ha : ∀ x ∈ bodyM T t, G.a true t x = true) : Iv T F n m G { e with cb := upd e.cb s (upd (e.cb s) p true), up := inc e.up } := by
  have key : ∀ (u : Nat) (z : Int), upd e.cb s (upd (e.cb s) p true) u z = true ↔ e.cb u z = true ∨ ((u : Int) = s ∧ z = p) := fun u z => mk2_iff (g := e.cb) (x := s) (y := p)
  refine ⟨h.x.same rfl rfl rfl rfl rfl, ⟨h.s.a, h.s.nn, h.s.c, h.s.f, fun u z hg => ?_, h.s.w, fun u z hc => ?_, h.s.mm⟩, h.y⟩
  · rcases h.s.r u z hg with h1 | h1
    · exact .inl h1
    · exact .inr ((key u z).2 (.inl h1))
  · rcases (key u z).1 hc with h1 | ⟨h1, h2⟩
    · exact h.s.cb u z h1
    · rw [h1, h2]
      exact ⟨t, ht, hb, ha⟩
end
end Go.Proofs.YthifoamnmhlghaaGreat.Fa
