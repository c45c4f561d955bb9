/- A rule dropped keeps what is accounted. PLAIN. -/
import Derived.Test.YthifoamnmhlghaaGreatGw
namespace Go.Proofs.YthifoamnmhlghaaGreat.Fa

section
variable {T : Th} {F : List Int} {n k : Nat} {m : List Int} {G G' : Gho} {e e' : Es}
theorem cls_all (hx : Exa T F n G e) {b : Bool} {r q : Nat} (hq : q < n) (hr : (r : Int) ∈ rulesL T (kL b) q) (hn : G.c b r = false) (h1 : e.op b q = 1) : openZ T F b q = false ∧ ∀ t ∈ rulesL T (kL b) q, t = (r : Int) ∨ G.c b t = true := by
  have h := hx.op b q hq
  rw [h1] at h
  split at h
  · omega
  · rename_i ho
    have ho : openZ T F b q = false := by
      cases hh : openZ T F b q with
      | false => rfl
      | true => rw [hh] at ho; exact absurd rfl ho
    refine ⟨ho, fun t ht => ?_⟩
    have hpos := lf_pos hr hn
    have hmk := lf_mark rules_nd hr hn
    have hz : lf (rulesL T (kL b) (q : Int)) (upd (G.c b) r true) = 0 := by omega
    have := lf_zero.1 hz t ht
    by_cases e1 : t = (r : Int)
    · exact .inl e1
    · rw [upd_off e1] at this; exact .inr this
theorem tel_cls {b : Bool} {q : Int} : Tel e (clsE e b q) ∧ (clsE e b q).ob = e.ob ∧ (clsE e b q).cd = e.cd := by
  unfold clsE
  split
  · exact ⟨⟨rfl, rfl, rfl, rfl, fun _ _ _ hz => hz, [], by simp⟩, rfl, rfl⟩
  · exact ⟨Tel.refl, rfl, rfl⟩
theorem Alk.tel (h : Alk e e') (hc : e'.cb = e.cb) : Tel e e' := ⟨h.ms, h.rf, hc, h.tk, fun z t _ hz => by unfold has at hz ⊢; rw [h.mq]; exact hz, [], by rw [h.td]; simp⟩
theorem with_ob {q : Int} : ∀ (l : List Int) {e : Es}, (l.foldl (Fa.with1 q) e).ob = e.ob := by
  intro l
  induction l with
  | nil => intro e; rfl
  | cons s l ih => intro e; rw [List.foldl_cons, ih, with_op.2]
theorem with_cd2 {q s u z : Int} (h : z ≠ q) : (with1 q e s).cd u z = e.cd u z := by
  have key : upd e.cd s (upd (e.cd s) q (dec (e.cd s q))) u z = e.cd u z := by
    by_cases e1 : u = s
    · subst e1; rw [upd_at, upd_off h]
    · rw [upd_off e1]
  unfold Fa.with1
  dsimp only
  split
  · rw [lose_cd.1]; exact key
  · exact key
theorem withs_cd {q u z : Int} (h : z ≠ q) : ∀ {l : List Int} {e : Es}, (l.foldl (Fa.with1 q) e).cd u z = e.cd u z := by
  intro l
  induction l with
  | nil => intro e; rfl
  | cons s l ih => intro e; rw [List.foldl_cons, ih, with_cd2 h]
theorem beats_nd (hp : Pf T F n) {r : Nat} (hr : r < T.rules.length) : (row T.beats (r : Int)).Nodup := by
  have hbl := hp.ok.bl
  obtain ⟨l, hl⟩ := get_at (l := T.beats) (i := r) (by omega)
  rw [row_at (l := l) (by rw [Int.toNat_natCast]; exact hl)]
  exact pw_nodup (hp.beat l (List.mem_of_getElem? hl))
/-- A rule that is refuted anew is dropped. -/
theorem Iv.drop (hp : Pf T F n) (hs_ : Sol T F m k) (h : Iv T F n m G e) (h3 : P3 T n e) {r : Nat} (hr : r < T.rules.length) (hf : e.rf true r = true) (f1 : ∀ z ∈ rivalsL T (headOf T r), e.cb r z = false → G.r r z = false) (f2 : ∀ s ∈ row T.beats r, G.w r s = false) (f3 : G.c true r = false) :
    ∃ G', Iv T F n m G' (dropE T e r) ∧ Tel e (dropE T e r) ∧ P3 T n (dropE T e r) ∧ G'.a = G.a ∧ G'.n = G.n ∧ G'.f = G.f ∧ (∀ u v, G.r u v = true → G'.r u v = true) ∧ (∀ u v, G.w u v = true → G'.w u v = true) ∧ (∀ u, G.c true u = true → G'.c true u = true) ∧ G'.c false = G.c false ∧
      (∀ z ∈ rivalsL T (headOf T r), e.cb r z = false → G'.r r z = true) ∧ (teamB T r = true → (∀ s ∈ row T.beats r, G'.w r s = true) ∧ G'.c true r = true) ∧
      (teamB T r = true → e.op true (headOf T r) = 1 → has e (headOf T r) 2 = true → has (dropE T e r) (headOf T r) 4 = true) ∧ (∀ u z, z ≠ headOf T r ∨ u ∉ row T.beats r ∨ teamB T r = false → (dropE T e r).cd u z = e.cd u z) ∧ (teamB T r = true → ∀ s ∈ row T.beats r, (dropE T e r).cd s (headOf T r) = 0 → used e s = true → has e (headOf T r) 2 = true → has (dropE T e r) (headOf T r) 4 = true) := by
  obtain ⟨q, hq, hqn⟩ := head_nat hp hr
  obtain ⟨G1, i1, t1, c1, o1, p1, g1, m1, d1⟩ := h.drops (l := rivalsL T (headOf T r)) hp hs_ hr (rivals_nd hp hr) h3 hf fun z hz => ⟨hz, f1 z hz⟩
  unfold dropE
  by_cases ht : teamB T r = true
  · dsimp only
    rw [if_pos ht]
    have hrm : (r : Int) ∈ rulesL T kT q := by rw [← hq]; exact team_mem ht
    obtain ⟨G2, i2, g2, t2, o2, m2, w2, v2, cc2, tr2⟩ := Iv.withs (m := m) hp hs_ hqn hrm (row T.beats r) (beats_nd hp hr) i1 (by rw [t1.rf]; exact hf) fun s hs => by
      obtain ⟨a, rfl, ha, hfo⟩ := beats_in hp hr hs
      exact ⟨a, rfl, ha, by rw [← hq]; exact beaten_rival hp hr ht hfo, decide_eq_true hs, by rw [g1.w]; exact f2 _ hs⟩
    have hc2 : G2.c true r = false := by rw [g2.c, g1.c]; exact f3
    have hrf2 : ((row T.beats r).foldl (Fa.with1 q) ((rivalsL T (headOf T r)).foldl (Fa.drop1 T r) e)).rf true r = true := by rw [t2.rf, t1.rf]; exact hf
    have hE : withE T ((rivalsL T (headOf T r)).foldl (Fa.drop1 T r) e) r = (row T.beats r).foldl (Fa.with1 q) ((rivalsL T (headOf T r)).foldl (Fa.drop1 T r) e) := by unfold withE; rw [hq]
    rw [hE, hq]
    have p2 : P3 T n ((row T.beats r).foldl (Fa.with1 q) ((rivalsL T (headOf T r)).foldl (Fa.drop1 T r) e)) := p1.tel t2 (with_ob _)
    have t12 := t1.trans t2
    have op2 := o2.trans o1
    have cd2 : ∀ u z, z ≠ (q : Int) ∨ u ∉ row T.beats r → ((row T.beats r).foldl (Fa.with1 q) ((rivalsL T (headOf T r)).foldl (Fa.drop1 T r) e)).cd u z = e.cd u z := fun u z hz => by
      rcases hz with hz | hz
      · rw [withs_cd hz, c1]
      · rw [cc2 u hz, c1]
    have tr3 : ∀ s ∈ row T.beats r, ((row T.beats r).foldl (Fa.with1 q) ((rivalsL T (headOf T r)).foldl (Fa.drop1 T r) e)).cd s q = 0 → used e s = true → has e q 2 = true → has ((row T.beats r).foldl (Fa.with1 q) ((rivalsL T (headOf T r)).foldl (Fa.drop1 T r) e)) q 4 = true := fun s hs hc hu h2 => tr2 s hs hc (by rw [used_ms t1.ms]; exact hu) (t1.up _ _ tag2 h2)
    rw [hq] at i2 t12 p2 hrf2 d1 op2 cd2 tr3
    clear o2 cc2 tr2 t2 c1 o1 p1 i1 t1 hE
    generalize (row T.beats r).foldl (Fa.with1 q) ((rivalsL T (q : Int)).foldl (Fa.drop1 T r) e) = e2 at *
    have i3 := i2.cls hp (b := true) hqn hrm hc2 hrf2
    have t3 := tel_cls (e := e2) (b := true) (q := q)
    have p3 : P3 T n (clsE e2 true q) := p2.tel t3.1 t3.2.1
    have marks : (∀ u v, G.r u v = true → G2.r u v = true) ∧ (∀ z ∈ rivalsL T (q : Int), e.cb r z = false → G2.r r z = true) := ⟨fun u v hg => by rw [g2.r]; exact m1 u v hg, fun z hz hc => by rw [g2.r]; exact d1 z hz hc⟩
    by_cases hb : clsB e2 true q = true
    · rw [if_pos hb]
      have hall := cls_all i2.x (b := true) hqn hrm hc2 (of_decide_eq_true hb)
      refine ⟨_, i3.lose fun h2 => ?_, t12.trans (t3.1.trans (tel_lose i3.y)), p3.tel (tel_lose i3.y) lose_cd.2.1, g2.a.trans g1.a, g2.n.trans g1.n, g2.f.trans g1.f, marks.1, fun u v hg => m2 u v (by rw [g1.w]; exact hg), fun u hu => ?_, ?_, marks.2, fun _ => ⟨w2, ?_⟩, fun _ _ h2 => lose_has i3.y (t3.1.up _ _ tag2 (t12.up _ _ tag2 h2)), fun u z hz => ?_, fun _ s hs hc hu h2 => (tel_lose i3.y).up _ _ tag4 (t3.1.up _ _ tag4 (tr3 s hs (by rw [lose_cd.1, t3.2.2] at hc; exact hc) hu h2))⟩
      · refine may4 hp hs_ hqn (i3.s.mm q 2 (by omega) (by omega) tag2 h2) (.inl fun t htm => ?_)
        obtain ⟨a, rfl, ha, -, -⟩ := rule_lt htm
        rcases hall.2 a htm with h5 | h5
        · rw [h5]; exact i2.s.part hp i2.x (b := true) hr hrf2
        · exact i2.s.part hp i2.x (b := true) ha (i2.s.c true a h5)
      · show updB G2.c true (upd (G2.c true) r true) true u = true
        rw [updB_at]
        by_cases eu : u = (r : Int)
        · rw [eu, upd_at]
        · rw [upd_off eu, g2.c, g1.c]; exact hu
      · show updB G2.c true (upd (G2.c true) r true) false = G.c false
        rw [updB_off (by decide), g2.c, g1.c]
      · show updB G2.c true (upd (G2.c true) r true) true r = true
        rw [updB_at, upd_at]
      · rw [lose_cd.1, t3.2.2]
        rcases hz with hz | hz | hz
        · exact cd2 u z (.inl hz)
        · exact cd2 u z (.inr hz)
        · rw [ht] at hz; cases hz
    · rw [if_neg hb]
      refine ⟨_, i3, t12.trans t3.1, p3, g2.a.trans g1.a, g2.n.trans g1.n, g2.f.trans g1.f, marks.1, fun u v hg => m2 u v (by rw [g1.w]; exact hg), fun u hu => ?_, ?_, marks.2, fun _ => ⟨w2, ?_⟩, fun _ h1 _ => absurd (decide_eq_true (by rw [op2]; exact h1)) hb, fun u z hz => ?_, fun _ s hs hc hu h2 => t3.1.up _ _ tag4 (tr3 s hs (by rw [t3.2.2] at hc; exact hc) hu h2)⟩
      · show updB G2.c true (upd (G2.c true) r true) true u = true
        rw [updB_at]
        by_cases eu : u = (r : Int)
        · rw [eu, upd_at]
        · rw [upd_off eu, g2.c, g1.c]; exact hu
      · show updB G2.c true (upd (G2.c true) r true) false = G.c false
        rw [updB_off (by decide), g2.c, g1.c]
      · show updB G2.c true (upd (G2.c true) r true) true r = true
        rw [updB_at, upd_at]
      · rw [t3.2.2]
        rcases hz with hz | hz | hz
        · exact cd2 u z (.inl hz)
        · exact cd2 u z (.inr hz)
        · rw [ht] at hz; cases hz
  · dsimp only
    rw [if_neg ht]
    exact ⟨G1, i1, t1, p1, g1.a, g1.n, g1.f, m1, fun u v hg => by rw [g1.w]; exact hg, fun u hu => by rw [g1.c]; exact hu, by rw [g1.c], d1, fun h => absurd h ht, fun h => absurd h ht, fun u z _ => by rw [c1], fun h => absurd h ht⟩
end
end Go.Proofs.YthifoamnmhlghaaGreat.Fa
