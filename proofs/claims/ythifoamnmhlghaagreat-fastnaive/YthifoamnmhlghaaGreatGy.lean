/- A rule used keeps what is accounted. PLAIN. -/
import Derived.Test.YthifoamnmhlghaaGreatGx
namespace Go.Proofs.YthifoamnmhlghaaGreat.Fa

section
variable {T : Th} {F : List Int} {n k : Nat} {m : List Int} {G G' : Gho} {e e' : Es}
/-- P3 but for one. -/
def P3x (T : Th) (n : Nat) (h : Int) (e : Es) : Prop := ∀ q : Nat, q < n → (q : Int) ≠ h → (rulesL T kT q).any (used e) = true → e.ob q = 0 → has e q 3 = true
theorem P3x.tel {h : Int} (h3 : P3x T n h e) (ht : Tel e e') (ho : e'.ob = e.ob) : P3x T n h e' := fun q hq hne hu h0 => ht.up _ _ tag3 (h3 q hq hne (by rw [used_ms ht.ms] at hu; exact hu) (by rw [ho] at h0; exact h0))
theorem beat_ob {h s z : Int} (hz : z ≠ h) : (Fa.beat1 h e s).ob z = e.ob z := by
  unfold Fa.beat1
  split
  · rfl
  · dsimp only
    split
    · rfl
    · exact upd_off hz
theorem beats_ob {h z : Int} (hz : z ≠ h) : ∀ (l : List Int) {e : Es}, (l.foldl (Fa.beat1 h) e).ob z = e.ob z := by
  intro l
  induction l with
  | nil => intro e; rfl
  | cons s l ih => intro e; rw [List.foldl_cons, ih, beat_ob hz]
theorem Iv.use1 (hp : Pf T F n) (hs_ : Sol T F m k) (h : Iv T F n m G e) {r q : Nat} (hq : q < n) (hr : r < T.rules.length) (hpr : (q : Int) ∈ rivalsL T (headOf T r)) (hu : used e r = true) : Iv T F n m G (use1 r e q) ∧ Tel e (use1 r e q) ∧ (use1 r e q).ob = e.ob ∧ (use1 r e q).cd = e.cd ∧ (use1 r e q).op = e.op ∧ (e.cd r q = 0 → has e q 2 = true → has (use1 r e q) q 4 = true) := by
  unfold Fa.use1
  by_cases hc : e.cd r q = 0
  · rw [if_pos hc]
    exact ⟨h.lose fun h2 => h.over hp hs_ hq hr hpr hu hc h2, tel_lose h.y, lose_cd.2.1, lose_cd.1, lose_cd.2.2, fun _ h2 => lose_has h.y h2⟩
  · rw [if_neg hc]
    exact ⟨h, Tel.refl, rfl, rfl, rfl, fun h2 => absurd h2 hc⟩
theorem Iv.uses (hp : Pf T F n) (hs_ : Sol T F m k) {r : Nat} (hr : r < T.rules.length) : ∀ (l : List Int) {e : Es}, Iv T F n m G e → used e r = true → (∀ z ∈ l, z ∈ rivalsL T (headOf T r)) →
    Iv T F n m G (l.foldl (Fa.use1 r) e) ∧ Tel e (l.foldl (Fa.use1 r) e) ∧ (l.foldl (Fa.use1 r) e).ob = e.ob ∧ (l.foldl (Fa.use1 r) e).cd = e.cd ∧ (l.foldl (Fa.use1 r) e).op = e.op ∧ ∀ z ∈ l, e.cd r z = 0 → has e z 2 = true → has (l.foldl (Fa.use1 r) e) z 4 = true := by
  intro l
  induction l with
  | nil => intro e h _ _; exact ⟨h, Tel.refl, rfl, rfl, rfl, fun z hz => (by cases hz)⟩
  | cons z l ih =>
    intro e h hu hl
    have hz := hl z List.mem_cons_self
    obtain ⟨hm, hhm, hmn⟩ := head_nat hp hr
    obtain ⟨z0, z1⟩ := rival_in hp hmn (by rw [← hhm]; exact hz)
    obtain ⟨q, rfl⟩ := Int.eq_ofNat_of_zero_le z0
    obtain ⟨h1, t1, o1, c1, p1, tr1⟩ := h.use1 hp hs_ (show q < n by omega) hr hz hu
    obtain ⟨h2, t2, o2, c2, p2, tr2⟩ := ih h1 (by rw [used_ms t1.ms]; exact hu) fun u hu2 => hl u (List.mem_cons_of_mem _ hu2)
    refine ⟨h2, t1.trans t2, o2.trans o1, c2.trans c1, p2.trans p1, fun u hu2 hc h2q => ?_⟩
    rcases List.mem_cons.1 hu2 with rfl | hu2
    · exact t2.up _ _ tag4 (tr1 hc h2q)
    · exact tr2 u hu2 (by rw [c1]; exact hc) (t1.up _ _ tag2 h2q)
/-- A rule whose body is whole is used. -/
theorem Iv.use (hp : Pf T F n) (hs_ : Sol T F m k) (h : Iv T F n m G e) {r : Nat} (hr : r < T.rules.length) (hu : used e r = true) (h3 : P3x T n (headOf T r) e) (h3n : teamB T r = false → P3 T n e) :
    ∃ G', Iv T F n m G' (useE T e r) ∧ P3 T n (useE T e r) ∧ Agh G G' ∧ (useE T e r).ms = e.ms ∧ (useE T e r).rf = e.rf ∧ (useE T e r).cd = e.cd ∧ (useE T e r).op = e.op ∧ (useE T e r).tk = e.tk ∧ (∀ z t, isTag t → has e z t = true → has (useE T e r) z t = true) ∧ (∃ l, (useE T e r).td = e.td ++ l) ∧ (∀ u z, e.cb u z = true → (useE T e r).cb u z = true) ∧ (teamB T r = true → ∀ s ∈ row T.beats r, (useE T e r).cb s (headOf T r) = true) ∧ (∀ z ∈ rivalsL T (headOf T r), e.cd r z = 0 → has e z 2 = true → has (useE T e r) z 4 = true) ∧ (Grr T G e → Grr T G' (useE T e r)) := by
  obtain ⟨q, hq, hqn⟩ := head_nat hp hr
  have ha := (h.x.used hr).1 hu
  obtain ⟨h1, t1, o1, c1, p1, tr1⟩ := h.uses (l := rivalsL T (headOf T r)) hp hs_ hr hu fun z hz => hz
  unfold useE
  by_cases ht : teamB T r = true
  · dsimp only
    rw [if_pos ht]
    have x1 := h3.tel t1 o1
    generalize hE1 : (rivalsL T (headOf T r)).foldl (Fa.use1 r) e = e1 at *
    obtain ⟨G2, h2, g2, k2, cb2, m2, r2⟩ := h1.defend hp hr ht ha
    have ob2 : ∀ z, z ≠ headOf T r → (defendE T e1 r).ob z = e1.ob z := fun z hz => beats_ob hz _
    have hrm : (r : Int) ∈ rulesL T kT q := by rw [← hq]; exact team_mem ht
    have has2 : ∀ z t, has (defendE T e1 r) z t = has e1 z t := fun z t => by unfold has; rw [k2.mq]
    have ms2 : (defendE T e1 r).ms = e.ms := k2.ms.trans t1.ms
    obtain ⟨l1, hl1⟩ := t1.td
    have td2 : (defendE T e1 r).td = e.td ++ l1 := k2.td.trans hl1
    have us2 : used (defendE T e1 r) = used e1 := used_ms k2.ms
    have P3o : ∀ z : Nat, z < n → (z : Int) ≠ headOf T r → (rulesL T kT z).any (used (defendE T e1 r)) = true → (defendE T e1 r).ob z = 0 → has (defendE T e1 r) z 3 = true := fun z hz hne hu2 h0 => by
      rw [has2]
      rw [us2] at hu2
      rw [ob2 _ hne] at h0
      exact x1 z hz hne hu2 h0
    generalize defendE T e1 r = e2 at *
    have hup : ∀ z t, isTag t → has e z t = true → has e2 z t = true := fun z t ht hz => by rw [has2]; exact t1.up z t ht hz
    by_cases h0 : e2.ob (headOf T r) = 0
    · rw [if_pos h0]
      have hany : (rulesL T kT q).any (used e2) = true := List.any_eq_true.2 ⟨r, hrm, by rw [us2, used_ms t1.ms]; exact hu⟩
      have hm3 : hs m (headOf T r) 3 = true := by rw [hq]; exact may3 hp hs_ h2.x h2.s hqn (by rw [← hq]; exact h0) hany
      have t3 := tel_tell h2.y (q := headOf T r) tag3
      obtain ⟨l3, hl3⟩ := t3.td
      refine ⟨G2, h2.tell tag3 hm3, fun z hz hu2 hz0 => ?_, g2, t3.ms.trans ms2, t3.rf.trans (k2.rf.trans t1.rf), tell_ob.2.1.trans (k2.cd.trans c1), tell_ob.2.2.trans (k2.op.trans p1), t3.tk.trans (k2.tk.trans t1.tk), fun z t ht hz => t3.up z t ht (hup z t ht hz), ⟨l1 ++ l3, by rw [hl3, td2, List.append_assoc]⟩, fun u z hz => by rw [t3.cb]; exact m2 u z (by rw [t1.cb]; exact hz), fun _ s hs => by rw [t3.cb]; exact cb2 s hs, fun z hz hc h2z => t3.up z 4 tag4 (by rw [has2]; exact tr1 z hz hc h2z), fun hg s hs z hz ho => r2 (fun s hs z hz ho => hg s hs z hz (by rw [t1.rf, t1.cb] at ho; exact ho)) s hs z hz (by rw [t3.rf, t3.cb] at ho; exact ho)⟩
      by_cases ez : (z : Int) = headOf T r
      · rw [ez]; exact tell_has h2.y tag3
      · exact t3.up _ _ tag3 (P3o z hz ez (by rw [used_ms t3.ms] at hu2; exact hu2) (by rw [tell_ob.1] at hz0; exact hz0))
    · rw [if_neg h0]
      refine ⟨G2, h2, fun z hz hu2 hz0 => ?_, g2, ms2, k2.rf.trans t1.rf, k2.cd.trans c1, k2.op.trans p1, k2.tk.trans t1.tk, hup, ⟨l1, td2⟩, fun u z hz => m2 u z (by rw [t1.cb]; exact hz), fun _ => cb2, fun z hz hc h2z => by rw [has2]; exact tr1 z hz hc h2z, fun hg => r2 fun s hs z hz ho => hg s hs z hz (by rw [t1.rf, t1.cb] at ho; exact ho)⟩
      by_cases ez : (z : Int) = headOf T r
      · rw [ez] at hz0; exact absurd hz0 h0
      · exact P3o z hz ez hu2 hz0
  · dsimp only
    rw [if_neg ht]
    have htf : teamB T r = false := by cases hh : teamB T r; rfl; exact absurd hh ht
    exact ⟨G, h1, (h3n htf).tel t1 o1, Agh.refl, t1.ms, t1.rf, c1, p1, t1.tk, t1.up, t1.td, fun u z hz => by rw [t1.cb]; exact hz, fun h => absurd h ht, tr1, fun hg s hs z hz ho => hg s hs z hz (by rw [t1.rf, t1.cb] at ho; exact ho)⟩
end
end Go.Proofs.YthifoamnmhlghaaGreat.Fa
