/- Proving, dropping and using keep what is accounted. PLAIN. -/
import Derived.Test.YthifoamnmhlghaaGreatGv
namespace Go.Proofs.YthifoamnmhlghaaGreat.Fa

section
variable {T : Th} {F : List Int} {n k : Nat} {m : List Int} {G G' : Gho} {e e' : Es}
/-- Where a team has a used rule and nothing stands between, +d is told. -/
def P3 (T : Th) (n : Nat) (e : Es) : Prop := ∀ q : Nat, q < n → (rulesL T kT q).any (used e) = true → e.ob q = 0 → has e q 3 = true
theorem tell_ob {q t : Int} : (tell e q t).ob = e.ob ∧ (tell e q t).cd = e.cd ∧ (tell e q t).op = e.op := by
  unfold Fa.tell
  split <;> exact ⟨rfl, rfl, rfl⟩
theorem used_ms (h : e'.ms = e.ms) : used e' = used e := by funext r; unfold Fa.used; rw [h]
theorem P3.tel (h : P3 T n e) (ht : Tel e e') (ho : e'.ob = e.ob) : P3 T n e' := fun q hq hu h0 => ht.up _ _ tag3 (h q hq (by rw [used_ms ht.ms] at hu; exact hu) (by rw [ho] at h0; exact h0))
theorem Iv.prove (hp : Pf T F n) (hs_ : Sol T F m k) (h : Iv T F n m G e) {q : Nat} (hq : q < n) : Iv T F n m G (proveE T e q) ∧ Tel e (proveE T e q) ∧ (proveE T e q).ob = e.ob ∧ (proveE T e q).cd = e.cd ∧ (proveE T e q).op = e.op ∧ ((rulesL T kT q).any (used e) = true → e.ob q = 0 → has (proveE T e q) q 3 = true) := by
  unfold proveE
  by_cases hc : (decide (e.ob q = 0) && (rulesL T kT q).any (used e)) = true
  · rw [if_pos hc]
    rw [Bool.and_eq_true] at hc
    exact ⟨h.tell tag3 (may3 hp hs_ h.x h.s hq (of_decide_eq_true hc.1) hc.2), tel_tell h.y tag3, tell_ob.1, tell_ob.2.1, tell_ob.2.2, fun _ _ => tell_has h.y tag3⟩
  · rw [if_neg hc]
    exact ⟨h, Tel.refl, rfl, rfl, rfl, fun a b => absurd (by rw [a, decide_eq_true b]; rfl) hc⟩
theorem Iv.drop1 (hp : Pf T F n) (hs_ : Sol T F m k) (h : Iv T F n m G e) (h3 : P3 T n e) {r q : Nat} (hq : q < n) (hr : r < T.rules.length) (hpr : (q : Int) ∈ rivalsL T (headOf T r)) (hf : e.rf true r = true) (hn : e.cb r q = false → G.r r q = false) :
    ∃ G', Iv T F n m G' (drop1 T r e q) ∧ Tel e (drop1 T r e q) ∧ (drop1 T r e q).cd = e.cd ∧ (drop1 T r e q).op = e.op ∧ P3 T n (drop1 T r e q) ∧ Agh G G' ∧ (∀ u v, G'.r u v = true → G.r u v = true ∨ u = r ∧ v = q) ∧ (∀ u v, G.r u v = true → G'.r u v = true) ∧ (e.cb r q = false → G'.r r q = true) := by
  unfold Fa.drop1
  by_cases hc : e.cb r q = true
  · rw [if_pos hc]
    exact ⟨G, h, Tel.refl, rfl, rfl, h3, Agh.refl, fun _ _ h => .inl h, fun _ _ h => h, fun h2 => absurd hc (by rw [h2]; decide)⟩
  · rw [if_neg hc]
    have hc : e.cb r q = false := by cases h2 : e.cb r q; rfl; exact absurd h2 hc
    obtain ⟨hf2, ht⟩ := mem_rival.1 hpr
    obtain ⟨x, -, hh, x0, x1⟩ := head_in hp hr
    have hag : (r : Int) ∈ agL T q := ag_mem hr (foe_sym hp (by rw [hh]; exact x0) (by rw [hh]; exact x1) hf2)
    have h1 := h.clearR hp hq hag (hn hc) ht (.inl hf)
    have k1 : Tel e (clearE e q) := ⟨rfl, rfl, rfl, rfl, fun _ _ _ hz => hz, [], by simp [clearE]⟩
    obtain ⟨h2, t2, o2, c2, p2, v2⟩ := h1.prove hp hs_ hq
    refine ⟨_, h2, k1.trans t2, c2, p2, fun z hz hu h0 => ?_, ⟨rfl, rfl, rfl, rfl, rfl⟩, fun u v hg => mk2_iff.1 hg, fun u v hg => mk2_le hg, fun _ => mk2_iff.2 (.inr ⟨rfl, rfl⟩)⟩
    rw [used_ms (k1.trans t2).ms] at hu
    rw [o2] at h0
    by_cases ez : z = q
    · subst ez
      exact v2 hu h0
    · refine (k1.trans t2).up _ _ tag3 (h3 z hz hu ?_)
      have h0 : upd e.ob q (dec (e.ob q)) z = 0 := h0
      rw [upd_off (by omega)] at h0
      exact h0
theorem Iv.drops (hp : Pf T F n) (hs_ : Sol T F m k) {r : Nat} (hr : r < T.rules.length) : ∀ (l : List Int) {G : Gho} {e : Es}, l.Nodup → Iv T F n m G e → P3 T n e → e.rf true r = true → (∀ z ∈ l, z ∈ rivalsL T (headOf T r) ∧ (e.cb r z = false → G.r r z = false)) →
    ∃ G', Iv T F n m G' (l.foldl (Fa.drop1 T r) e) ∧ Tel e (l.foldl (Fa.drop1 T r) e) ∧ (l.foldl (Fa.drop1 T r) e).cd = e.cd ∧ (l.foldl (Fa.drop1 T r) e).op = e.op ∧ P3 T n (l.foldl (Fa.drop1 T r) e) ∧ Agh G G' ∧ (∀ u v, G.r u v = true → G'.r u v = true) ∧ ∀ z ∈ l, e.cb r z = false → G'.r r z = true := by
  intro l
  induction l with
  | nil => intro G e _ h h3 _ _; exact ⟨G, h, Tel.refl, rfl, rfl, h3, Agh.refl, fun _ _ h => h, fun z hz => (by cases hz)⟩
  | cons z l ih =>
    intro G e hnd h h3 hf hl
    obtain ⟨hn1, hn2⟩ := List.nodup_cons.1 hnd
    obtain ⟨hz, hg⟩ := hl z List.mem_cons_self
    obtain ⟨hm, hhm, hmn⟩ := head_nat hp hr
    obtain ⟨z0, z1⟩ := rival_in hp hmn (by rw [← hhm]; exact hz)
    obtain ⟨q, rfl⟩ := Int.eq_ofNat_of_zero_le z0
    obtain ⟨G1, h1, t1, c1, o1, p1, g1, v1, m1, d1⟩ := h.drop1 hp hs_ h3 (show q < n by omega) hr hz hf hg
    obtain ⟨G2, h2, t2, c2, o2, p2, g2, m2, d2⟩ := ih hn2 h1 p1 (by rw [t1.rf]; exact hf) fun u hu => ⟨(hl u (List.mem_cons_of_mem _ hu)).1, fun hc => by
      rw [t1.cb] at hc
      cases hg2 : G1.r r u with
      | false => rfl
      | true =>
        rcases v1 r u hg2 with h5 | ⟨-, h5⟩
        · rw [(hl u (List.mem_cons_of_mem _ hu)).2 hc] at h5; cases h5
        · exact absurd (h5 ▸ hu) hn1⟩
    refine ⟨G2, h2, t1.trans t2, c2.trans c1, o2.trans o1, p2, g1.trans g2, fun u v hg => m2 u v (m1 u v hg), fun u hu hc => ?_⟩
    rcases List.mem_cons.1 hu with rfl | hu
    · exact m2 _ _ (d1 hc)
    · exact d2 u hu (by rw [t1.cb]; exact hc)
end
end Go.Proofs.YthifoamnmhlghaaGreat.Fa
