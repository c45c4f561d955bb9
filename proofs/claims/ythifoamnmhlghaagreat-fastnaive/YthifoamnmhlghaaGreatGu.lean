/- Defending keeps what is accounted. PLAIN. -/
import Derived.Test.YthifoamnmhlghaaGreatGt
namespace Go.Proofs.YthifoamnmhlghaaGreat.Fa

section
variable {T : Th} {F : List Int} {n k : Nat} {m : List Int} {G G' : Gho} {e e' : Es}
/-- What a rule beats. -/
theorem beats_in (hp : Pf T F n) {r : Nat} (hr : r < T.rules.length) {s : Int} (hs_ : s ∈ row T.beats r) : ∃ a : Nat, s = (a : Int) ∧ a < T.rules.length ∧ headOf T a ∈ row T.foes (headOf T r) := by
  have hbl := hp.ok.bl
  obtain ⟨l, hl⟩ := get_at (l := T.beats) (i := r) (by omega)
  rw [row_at (l := l) (by rw [Int.toNat_natCast]; exact hl)] at hs_
  obtain ⟨hb1, hb2⟩ := hp.ok.beat r l hl
  obtain ⟨hin, -⟩ := risesF_in2 (by omega) hb1
  obtain ⟨s0, s1⟩ := hin s hs_
  obtain ⟨a, rfl⟩ := Int.eq_ofNat_of_zero_le (show 0 ≤ s by omega)
  exact ⟨a, rfl, by omega, hb2 _ hs_⟩
theorem ag_mem {p : Int} {a : Nat} (ha : a < T.rules.length) (h : headOf T a ∈ row T.foes p) : (a : Int) ∈ agL T p := by
  unfold agL
  exact List.mem_map.2 ⟨a, List.mem_filter.2 ⟨List.mem_range.2 ha, decide_eq_true h⟩, rfl⟩
theorem head_nat (hp : Pf T F n) {r : Nat} (hr : r < T.rules.length) : ∃ h : Nat, headOf T r = (h : Int) ∧ h < n := by
  obtain ⟨x, -, e1, x0, x1⟩ := head_in hp hr
  obtain ⟨h, hh⟩ := Int.eq_ofNat_of_zero_le x0
  exact ⟨h, by rw [e1, hh], by omega⟩
/-- Alike but for clashes, obstacles and updates. -/
structure Alk (e e' : Es) : Prop where
  ms : e'.ms = e.ms
  rf : e'.rf = e.rf
  op : e'.op = e.op
  cd : e'.cd = e.cd
  mq : e'.mq = e.mq
  td : e'.td = e.td
  tk : e'.tk = e.tk
theorem Alk.refl : Alk e e := ⟨rfl, rfl, rfl, rfl, rfl, rfl, rfl⟩
theorem Alk.trans {e2 : Es} (h : Alk e e') (h2 : Alk e' e2) : Alk e e2 := ⟨h2.ms.trans h.ms, h2.rf.trans h.rf, h2.op.trans h.op, h2.cd.trans h.cd, h2.mq.trans h.mq, h2.td.trans h.td, h2.tk.trans h.tk⟩
/-- The marks alike but for rules cleared. -/
structure Agh (G G' : Gho) : Prop where
  a : G'.a = G.a
  n : G'.n = G.n
  c : G'.c = G.c
  f : G'.f = G.f
  w : G'.w = G.w
theorem Agh.refl : Agh G G := ⟨rfl, rfl, rfl, rfl, rfl⟩
theorem Agh.trans {G2 : Gho} (h : Agh G G') (h2 : Agh G' G2) : Agh G G2 := ⟨h2.a.trans h.a, h2.n.trans h.n, h2.c.trans h.c, h2.f.trans h.f, h2.w.trans h.w⟩
/-- What is refuted or beaten is cleared for its rivals. -/
def Grr (T : Th) (G : Gho) (e : Es) : Prop := ∀ s : Nat, s < T.rules.length → ∀ p ∈ rivalsL T (headOf T s), e.rf true s = true ∨ e.cb s p = true → G.r s p = true
theorem Iv.beat1 (hp : Pf T F n) (h : Iv T F n m G e) {r s q : Nat} (hq : q < n) (hs_ : s < T.rules.length) (hr : (r : Int) ∈ rulesL T kT q) (hf : headOf T s ∈ row T.foes q) (hb : beatB T r s = true) (ha : ∀ x ∈ bodyM T r, G.a true r x = true) : ∃ G', Iv T F n m G' (beat1 q e s) ∧ Agh G G' ∧ Alk e (beat1 q e s) ∧ (beat1 q e s).cb s q = true ∧ (∀ u z, e.cb u z = true → (beat1 q e s).cb u z = true) ∧ (Grr T G e → Grr T G' (beat1 q e s)) := by
  have ht : rulesL T kT (q : Int) ≠ [] := fun e0 => by rw [e0] at hr; cases hr
  have mono : ∀ u z, e.cb u z = true → upd e.cb s (upd (e.cb s) q true) u z = true := fun u z hz => mk2_le (g := e.cb) hz
  have self : upd e.cb s (upd (e.cb s) q true) s q = true := by rw [upd_at, upd_at]
  unfold Fa.beat1
  by_cases hc : e.cb s q = true
  · rw [if_pos hc]
    exact ⟨G, h, Agh.refl, Alk.refl, hc, fun u z hz => hz, fun hg => hg⟩
  · rw [if_neg hc]
    have h1 := h.beat hr hb ha
    by_cases hd : e.rf true s = true
    · rw [if_pos (show dropped { e with cb := upd e.cb s (upd (e.cb s) q true), up := inc e.up } s = true from hd)]
      refine ⟨G, h1, Agh.refl, ⟨rfl, rfl, rfl, rfl, rfl, rfl, rfl⟩, self, mono, fun hg u hu z hz ho => ?_⟩
      rcases ho with ho | ho
      · exact hg u hu z hz (.inl ho)
      · rcases (mk2_iff (g := e.cb) (x := s) (y := q)).1 ho with h2 | ⟨h2, -⟩
        · exact hg u hu z hz (.inr h2)
        · exact hg u hu z hz (.inl (by rw [h2]; exact hd))
    · rw [if_neg (show ¬ dropped { e with cb := upd e.cb s (upd (e.cb s) q true), up := inc e.up } s = true from hd)]
      have hn : G.r s q = false := by
        cases hg : G.r s q with
        | false => rfl
        | true =>
          rcases h.s.r s q hg with h2 | h2
          · exact absurd h2 hd
          · exact absurd h2 hc
      refine ⟨_, h1.clearR hp hq (ag_mem hs_ hf) hn ht (.inr self), ⟨rfl, rfl, rfl, rfl, rfl⟩, ⟨rfl, rfl, rfl, rfl, rfl, rfl, rfl⟩, self, mono, fun hg u hu z hz ho => ?_⟩
      show mk2 G.r s q u z = true
      rcases ho with ho | ho
      · exact mk2_le (hg u hu z hz (.inl ho))
      · rcases (mk2_iff (g := e.cb) (x := s) (y := q)).1 ho with h2 | h2
        · exact mk2_le (hg u hu z hz (.inr h2))
        · exact mk2_iff.2 (.inr h2)
theorem Iv.beats (hp : Pf T F n) {r q : Nat} (hq : q < n) (hr : (r : Int) ∈ rulesL T kT q) : ∀ (l : List Int) {G : Gho} {e : Es}, Iv T F n m G e → (∀ x ∈ bodyM T r, G.a true r x = true) → (∀ s ∈ l, ∃ a : Nat, s = (a : Int) ∧ a < T.rules.length ∧ headOf T a ∈ row T.foes q ∧ beatB T r a = true) →
    ∃ G', Iv T F n m G' (l.foldl (Fa.beat1 q) e) ∧ Agh G G' ∧ Alk e (l.foldl (Fa.beat1 q) e) ∧ (∀ s ∈ l, (l.foldl (Fa.beat1 q) e).cb s q = true) ∧ (∀ u z, e.cb u z = true → (l.foldl (Fa.beat1 q) e).cb u z = true) ∧ (Grr T G e → Grr T G' (l.foldl (Fa.beat1 q) e)) := by
  intro l
  induction l with
  | nil => intro G e h _ _; exact ⟨G, h, Agh.refl, Alk.refl, fun s hs => (by cases hs), fun u z hz => hz, fun hg => hg⟩
  | cons s l ih =>
    intro G e h ha hl
    obtain ⟨a, rfl, hal, hf, hb⟩ := hl s List.mem_cons_self
    obtain ⟨G1, h1, g1, k1, c1, m1, r1⟩ := h.beat1 hp hq hal hr hf hb ha
    obtain ⟨G2, h2, g2, k2, c2, m2, r2⟩ := ih h1 (by rw [g1.a]; exact ha) fun s hs => hl s (List.mem_cons_of_mem _ hs)
    refine ⟨G2, h2, g1.trans g2, k1.trans k2, fun s hs => ?_, fun u z hz => m2 u z (m1 u z hz), fun hg => r2 (r1 hg)⟩
    rcases List.mem_cons.1 hs with rfl | hs
    · exact m2 _ _ c1
    · exact c2 s hs
/-- A used rule defends. -/
theorem Iv.defend (hp : Pf T F n) (h : Iv T F n m G e) {r : Nat} (hr : r < T.rules.length) (ht : teamB T r = true) (ha : ∀ x ∈ bodyM T r, G.a true r x = true) : ∃ G', Iv T F n m G' (defendE T e r) ∧ Agh G G' ∧ Alk e (defendE T e r) ∧ (∀ s ∈ row T.beats r, (defendE T e r).cb s (headOf T r) = true) ∧ (∀ u z, e.cb u z = true → (defendE T e r).cb u z = true) ∧ (Grr T G e → Grr T G' (defendE T e r)) := by
  obtain ⟨q, hq, hqn⟩ := head_nat hp hr
  unfold defendE
  rw [hq]
  refine h.beats hp hqn ?_ _ ha fun s hs => ?_
  · rw [← hq]; exact team_mem ht
  · obtain ⟨a, rfl, ha, hf⟩ := beats_in hp hr hs
    exact ⟨a, rfl, ha, by rw [← hq]; exact hf, decide_eq_true hs⟩
end
end Go.Proofs.YthifoamnmhlghaaGreat.Fa
