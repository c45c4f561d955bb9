import Derived.Test.YtmlhcncagdfjfaaGreatFsC
namespace Go.Proofs.YtmlhcncagdfjfaaGreat.Fa
theorem pJ {v : Int} (h0 : 0 ≤ v) (h1 : v < 1099511627776) : aF v = v + 1 := by
 unfold aF
 rw [IntKind.wrap_i64]
 omega
theorem yR {v u : Int} (h0 : 0 ≤ v) (h1 : v < 1099511627776) (h2 : 0 ≤ u) (h3 : u < 1099511627776) : nL v u = v + u := by
 unfold nL
 rw [IntKind.wrap_i64]
 omega
section
variable {T : Th} {F : List Int} {n : Nat} {p : RuleM → Bool}
theorem jt {k : Nat} {r : RuleM} (h : T.rules[k]? = some r) : aS T p k = p r ∧ aj T k = r.head ∧ az T k = r.body := by
 unfold aS aj az
 rw [Int.toNat_natCast, h]
 exact ⟨rfl, rfl, rfl⟩
theorem jW {k : Nat} {z : Int} : bK T p z k = (aS T p k && decide (aj T k = z)) := by
 cases h : T.rules[k]? with
 | none => unfold bK aS; rw [Int.toNat_natCast, h]; rfl
 | some r => obtain ⟨e1, e2, -⟩ := jt (p := p) h; rw [e1, e2]; unfold bK; rw [h]
theorem yt (k r : Nat) : fi T p k r = if r < k ∧ aS T p r = true then ((az T r).length : Int) else 0 := by
 induction k with
 | zero => rw [if_neg (by omega)]; rfl
 | succ k ih =>
  rw [mN]
  by_cases hk : aS T p k = true
  · rw [if_pos hk]
    by_cases e : r = k
    · subst e; rw [aM, if_pos ⟨by omega, hk⟩]
    · rw [aT (by omega), ih]
      by_cases h2 : r < k ∧ aS T p r = true
      · rw [if_pos h2, if_pos ⟨by omega, h2.2⟩]
      · rw [if_neg h2, if_neg fun h3 => h2 ⟨by omega, h3.2⟩]
  · rw [if_neg hk, ih]
    by_cases h2 : r < k ∧ aS T p r = true
    · rw [if_pos h2, if_pos ⟨by omega, h2.2⟩]
    · rw [if_neg h2, if_neg fun h3 => h2 ⟨by have : r ≠ k := (fun e => hk (e ▸ h3.2)); omega, h3.2⟩]
theorem yH (k : Nat) (hk : k ≤ 4096) (q : Int) : opK T p k q = ((bg T p k q).length : Int) := by
 induction k with
 | zero => rfl
 | succ k ih =>
  have ih := ih (by omega)
  rw [kk, cF, jW]
  have hl : (bg T p k q).length ≤ k := by
   unfold bg
   rw [List.length_map]
   exact Nat.le_trans (List.length_filter_le _ _) (by simp)
  cases hb : aS T p k with
  | false => simp [ih]
  | true =>
   by_cases e : aj T k = q
   · subst e
     rw [if_pos rfl, aM, ih, pJ (by omega) (by omega)]
     simp
   · rw [if_pos rfl, aT (fun h => e h.symm), ih]
     simp [e]
theorem zd {f : Int → Int} (k : Nat) (q : Int) : eh T p f k q = if (∃ r : Nat, r < k ∧ aS T p r = true ∧ az T r = [] ∧ aj T r = q) then 0 else f q := by
 induction k with
 | zero => rw [if_neg (by rintro ⟨r, h, _⟩; omega)]; rfl
 | succ k ih =>
  rw [jT]
  by_cases hb : (aS T p k && (az T k).isEmpty) = true
  · rw [if_pos hb]
    simp only [Bool.and_eq_true, List.isEmpty_iff] at hb
    by_cases e : aj T k = q
    · subst e
      rw [aM, if_pos ⟨k, by omega, hb.1, hb.2, rfl⟩]
    · rw [aT (fun h => e h.symm), ih]
      by_cases h2 : ∃ r : Nat, r < k ∧ aS T p r = true ∧ az T r = [] ∧ aj T r = q
      · rw [if_pos h2]
        obtain ⟨r, h3, h4⟩ := h2
        rw [if_pos ⟨r, by omega, h4⟩]
      · rw [if_neg h2, if_neg]
        rintro ⟨r, h3, h4⟩
        by_cases e2 : r = k
        · exact e (e2 ▸ h4.2.2)
        · exact h2 ⟨r, by omega, h4⟩
  · rw [if_neg hb, ih]
    by_cases h2 : ∃ r : Nat, r < k ∧ aS T p r = true ∧ az T r = [] ∧ aj T r = q
    · rw [if_pos h2]
      obtain ⟨r, h3, h4⟩ := h2
      rw [if_pos ⟨r, by omega, h4⟩]
    · rw [if_neg h2, if_neg]
      rintro ⟨r, h3, h4⟩
      by_cases e2 : r = k
      · subst e2
        apply hb
        rw [h4.1, h4.2.1]
        rfl
      · exact h2 ⟨r, by omega, h4⟩
theorem rT {q : Int} : nD T p q = true ↔ ∃ r : Nat, r < T.rules.length ∧ aS T p r = true ∧ az T r = [] ∧ aj T r = q := by
 unfold nD
 rw [List.any_eq_true]
 constructor
 · rintro ⟨x, hx, he⟩
   obtain ⟨a, r, rfl, hr, hp, hh⟩ := i5.1 hx
   obtain ⟨e1, e2, e3⟩ := jt (p := p) hr
   exact ⟨a, (List.getElem?_eq_some_iff.1 hr).1, by rw [e1]; exact hp, List.isEmpty_iff.1 he, by rw [e2]; exact hh⟩
 · rintro ⟨a, ha, h1, h2, h3⟩
   obtain ⟨r, hr⟩ := am ha
   obtain ⟨e1, e2, e3⟩ := jt (p := p) hr
   exact ⟨a, i5.2 ⟨a, r, rfl, hr, by rw [← e1]; exact h1, by rw [← e2]; exact h3⟩, by rw [h2]; rfl⟩
theorem xy {l : List Int} {f : Int → Int} {q : Int} : l.foldl (fun f x => aB f x 0) f q = if q ∈ l then 0 else f q := by
 induction l generalizing f with
 | nil => rfl
 | cons x l ih =>
  rw [List.foldl_cons, ih]
  by_cases h : q ∈ l
  · rw [if_pos h, if_pos (List.mem_cons_of_mem _ h)]
  · rw [if_neg h]
    by_cases e : q = x
    · subst e; rw [aM, if_pos List.mem_cons_self]
    · rw [aT e, if_neg (by simp [e, h])]
theorem wo (hp : Pf T F n) (b : Bool) (q : Nat) : (dX F (fw T F n)).op b q = (dE T F).op b q := by
 have hr := hp.ok.rl
 have key : eh T (kL b) (opK T (kL b) T.rules.length) T.rules.length q = if nD T (kL b) q then 0 else ((ag T (kL b) q).length : Int) := by
  rw [zd, yH _ (by omega)]
  by_cases h : nD T (kL b) (q : Int) = true
  · rw [if_pos (rT.1 h), if_pos h]
  · rw [if_neg fun h2 => h (rT.2 h2), if_neg h]; rfl
 show dF (fw T F n).op false (F.foldl (fun f x => aB f x 0) ((fw T F n).op false)) b (q : Int) = if pI T F b q then 0 else ((ag T (kL b) q).length : Int)
 unfold pI
 cases b
 · rw [dz, xy]
   show (if (q : Int) ∈ F then 0 else eh T (kL false) (opK T (kL false) T.rules.length) T.rules.length q) = _
   rw [key]
   by_cases h1 : (q : Int) ∈ F
   · simp [h1]
   · simp [h1]
 · rw [eW (by decide)]
   show eh T (kL true) (opK T (kL true) T.rules.length) T.rules.length q = _
   rw [key]
   simp
theorem xi {h : Int} {l : List Int} (hn : l.Nodup) {d : Int → Int → Int} {s q : Int} : l.foldl (jB h) d s q = if s ∈ l ∧ q = h then aF (d s q) else d s q := by
 induction l generalizing d with
 | nil => simp
 | cons x l ih =>
  obtain ⟨h1, h2⟩ := List.nodup_cons.1 hn
  rw [List.foldl_cons, ih h2]
  have e0 : jB h d x s q = if s = x ∧ q = h then aF (d s q) else d s q := by
   unfold jB
   by_cases e : s = x
   · subst e
     rw [aM]
     by_cases e2 : q = h
     · subst e2; rw [aM, if_pos ⟨rfl, rfl⟩]
     · rw [aT e2, if_neg fun a => e2 a.2]
   · rw [aT e, if_neg fun a => e a.1]
  rw [e0]
  by_cases e : s = x
  · subst e
    rw [if_neg fun a => h1 a.1]
    simp
  · by_cases e2 : s ∈ l ∧ q = h
    · rw [if_pos e2, if_neg fun a => e a.1, if_pos ⟨List.mem_cons_of_mem _ e2.1, e2.2⟩]
    · rw [if_neg e2, if_neg fun a => e a.1, if_neg]
      rintro ⟨a, b⟩
      exact e2 ⟨(List.mem_cons.1 a).resolve_left e, b⟩
theorem tJ {k : Int} : bS T k = aS T kT k := rfl
theorem yA (hp : Pf T F n) (k : Nat) (hk : k ≤ T.rules.length) (s : Nat) (q : Int) : fK T k s q = jw (bg T kT k q) fun t => beatB T t s := by
 have hr := hp.ok.rl
 induction k with
 | zero => rfl
 | succ k ih =>
  have ih := ih (by omega)
  have hl : (bg T kT k q).length ≤ k := by
   unfold bg
   rw [List.length_map]
   exact Nat.le_trans (List.length_filter_le _ _) (by simp)
  have hc : 0 ≤ jw (bg T kT k q) (fun t => beatB T t s) ∧ jw (bg T kT k q) (fun t => beatB T t s) ≤ 4096 := by
   unfold jw
   have := List.length_filter_le (fun t => beatB T t (s : Int)) (bg T kT k q)
   omega
  rw [lX, cF, jW, tJ]
  cases hb : aS T kT k with
  | false => simp [ih]
  | true =>
   have Aa : (row T.beats (k : Int)).Nodup := by
    have Ab := hp.ok.bl
    obtain ⟨l, hl⟩ := am (l := T.beats) (i := k) (by omega)
    rw [bn (l := l) (by rw [Int.toNat_natCast]; exact hl)]
    exact eK (hp.beat l (List.mem_of_getElem? hl))
   rw [if_pos rfl, xi Aa, ih]
   by_cases e : aj T k = q
   · subst e
     simp only [Bool.true_and, decide_true, if_true, and_true]
     unfold jw at hc ⊢
     rw [List.filter_append, List.length_append]
     by_cases hbt : (s : Int) ∈ row T.beats k
     · rw [if_pos hbt, pJ (by omega) (by omega)]
       have : beatB T k s = true := by unfold beatB; exact decide_eq_true hbt
       simp [this]
     · rw [if_neg hbt]
       have : ¬ beatB T k s = true := by unfold beatB; simp [hbt]
       simp [this]
   · rw [if_neg fun a => e a.2.symm]
     simp [e]
def cK (g : Nat → Int) : Nat → Int
 | 0 => 0
 | k + 1 => cK g k + g k
theorem xE {q : Int} {l : List Int} (hn : l.Nodup) {f : Int → Int} {z : Int} : l.foldl (gk T F q) f z = if z ∈ l then gk T F q f z z else f z := by
 induction l generalizing f with
 | nil => simp
 | cons x l ih =>
  obtain ⟨h1, h2⟩ := List.nodup_cons.1 hn
  rw [List.foldl_cons, ih h2]
  by_cases e : z = x
  · subst e
    rw [if_neg h1, if_pos List.mem_cons_self]
  · have e2 : gk T F q f x z = f z := by unfold gk; rw [aT e]
    by_cases h : z ∈ l
    · rw [if_pos h, if_pos (List.mem_cons_of_mem _ h)]
      unfold gk at e2 ⊢
      rw [aM, aM, e2]
    · rw [if_neg h, if_neg (by simp [e, h]), e2]
def iy (T : Th) (F : List Int) (z : Int) (q : Nat) : Int := if z ∈ ao T q then ((ag T kA q).length : Int) + (if bI T F q then 1 else 0) else 0
theorem za (hp : Pf T F n) (k : Nat) (hk : k ≤ n) (z : Int) : obK T F k z = cK (iy T F z) k ∧ 0 ≤ cK (iy T F z) k ∧ cK (iy T F z) k ≤ (k : Int) * 4097 := by
 have hr := hp.ok.rl
 have Aa := hp.n4
 induction k with
 | zero => exact ⟨rfl, Int.le_refl _, by show (0 : Int) ≤ _; omega⟩
 | succ k ih =>
  obtain ⟨h1, h2, h3⟩ := ih (by omega)
  have hl : (ag T kA (k : Int)).length ≤ T.rules.length := i7
  have hg : 0 ≤ iy T F z k ∧ iy T F z k ≤ 4097 := by
   unfold iy
   split
   · split <;> omega
   · omega
  refine ⟨?_, by show 0 ≤ _ + _; omega, by show _ + _ ≤ _; omega⟩
  show _ = cK (iy T F z) k + iy T F z k
  rw [pM, xE (eK (jL hp (by omega)))]
  unfold iy
  by_cases hm : z ∈ ao T (k : Int)
  · rw [if_pos hm, if_pos hm]
    unfold gk
    rw [aM, h1, yR h2 (by omega) (by omega) (by omega)]
    by_cases hf : bI T F (k : Int) = true
    · rw [if_pos hf, if_pos hf, pJ (by omega) (by omega)]
      unfold iy
      omega
    · rw [if_neg hf, if_neg hf]
      unfold iy
      omega
  · rw [if_neg hm, if_neg hm, h1]
    unfold iy
    omega
theorem g7 {f g : Nat → Int} {k : Nat} (h : ∀ i, i < k → f i = g i) : cK f k = cK g k := by
 induction k with
 | zero => rfl
 | succ k ih => show _ + _ = _ + _; rw [ih fun i hi => h i (by omega), h k (by omega)]
theorem mn {f g : Nat → Int} {k : Nat} : cK (fun i => f i + g i) k = cK f k + cK g k := by
 induction k with
 | zero => rfl
 | succ k ih => show cK _ k + (f k + g k) = (cK f k + f k) + (cK g k + g k); rw [ih]; omega
theorem kO {k : Nat} : cK (fun _ => 0) k = 0 := by
 induction k with
 | zero => rfl
 | succ k ih => show cK _ k + 0 = 0; rw [ih]; rfl
theorem rL (a : Nat) (c : Int) (k : Nat) : cK (fun q => if q = a then c else 0) k = if a < k then c else 0 := by
 induction k with
 | zero => rw [if_neg (by omega)]; rfl
 | succ k ih =>
  show cK _ k + (if k = a then c else 0) = _
  rw [ih]
  by_cases e : k = a
  · subst e; rw [if_neg (by omega), if_pos rfl, if_pos (by omega)]; omega
  · rw [if_neg e]
    by_cases e2 : a < k
    · rw [if_pos e2, if_pos (by omega)]; omega
    · rw [if_neg e2, if_neg (by omega)]; rfl
theorem xX {l : List Int} (hn : l.Nodup) {P : Int → Bool} (hl : ∀ x ∈ l, 0 ≤ x ∧ x < (n : Int)) : jw l P = cK (fun q => if (q : Int) ∈ l ∧ P q = true then 1 else 0) n := by
 induction l with
 | nil => simp [jw, kO]
 | cons x l ih =>
  obtain ⟨h1, h2⟩ := List.nodup_cons.1 hn
  have ih := ih h2 fun y hy => hl y (List.mem_cons_of_mem _ hy)
  obtain ⟨x0, x1⟩ := hl x List.mem_cons_self
  obtain ⟨a, rfl⟩ := Int.eq_ofNat_of_zero_le x0
  have e1 : jw ((a : Int) :: l) P = jw l P + if P a = true then 1 else 0 := by
   unfold jw
   by_cases h : P a = true
   · rw [List.filter_cons_of_pos h, if_pos h]; simp
   · rw [List.filter_cons_of_neg h, if_neg h]; simp
  have Aa : ∀ (c : Int) (k : Nat), cK (fun q => if q = a then c else 0) k = if a < k then c else 0 := rL a
  have e2 : (if P a = true then (1 : Int) else 0) = cK (fun q => if q = a then (if P a = true then 1 else 0) else 0) n := by rw [Aa]; exact (if_pos (show a < n by omega)).symm
  rw [e1, ih, e2, ← mn]
  refine g7 fun q hq => ?_
  by_cases e : q = a
  · subst e
    rw [if_pos rfl, if_neg fun h => h1 h.1]
    by_cases hP : P (q : Int) = true
    · rw [if_pos hP, if_pos ⟨List.mem_cons_self, hP⟩]; rfl
    · rw [if_neg hP, if_neg fun h => hP h.2]; rfl
  · rw [if_neg e]
    have : ((q : Int) ∈ (a : Int) :: l) ↔ (q : Int) ∈ l := by
     rw [List.mem_cons]
     exact ⟨fun h => h.resolve_left (by omega), .inr⟩
    simp only [this]
    omega
theorem yh {l : List Int} (R : Nat) (hh : ∀ a : Nat, a < R → 0 ≤ aj T a ∧ aj T a < (n : Int)) (hR : R ≤ T.rules.length) : (((List.range R).filter fun a : Nat => decide (aj T a ∈ l)).length : Int) = cK (fun q => if (q : Int) ∈ l then ((bg T kA R q).length : Int) else 0) n := by
 induction R with
 | zero => rw [show (fun q : Nat => if (q : Int) ∈ l then ((bg T kA 0 q).length : Int) else 0) = fun _ => 0 from by funext q; split <;> rfl, kO]; rfl
 | succ R ih =>
  have ih := ih (fun a ha => hh a (by omega)) (by omega)
  obtain ⟨x0, x1⟩ := hh R (by omega)
  obtain ⟨a, ha⟩ := Int.eq_ofNat_of_zero_le x0
  obtain ⟨r, hr⟩ := am (l := T.rules) (i := R) (by omega)
  have hk : aS T kA R = true := (jt (p := kA) hr).1
  have Aa : ∀ (c : Int) (k : Nat), cK (fun q => if q = a then c else 0) k = if a < k then c else 0 := rL a
  have e1 : (((List.range (R + 1)).filter fun a : Nat => decide (aj T a ∈ l)).length : Int) = ((List.range R).filter fun a : Nat => decide (aj T a ∈ l)).length + cK (fun q => if q = a then (if aj T R ∈ l then 1 else 0) else 0) n := by
   rw [Aa, if_pos (show a < n by omega), List.range_succ, List.filter_append, List.length_append]
   by_cases h : aj T R ∈ l
   · simp [h]
   · simp [h]
  rw [e1, ih, ← mn]
  refine g7 fun q hq => ?_
  rw [cF, jW, hk]
  by_cases e : q = a
  · subst e
    rw [ha]
    by_cases hm : (q : Int) ∈ l
    · simp [hm]
    · simp [hm]
  · have : ¬ aj T R = (q : Int) := by omega
    simp [e, this]
theorem vn (hp : Pf T F n) (z : Nat) (hz : z < n) : obK T F n z = (dE T F).ob z := by
 rw [(za hp n (Nat.le_refl _) z).1]
 show _ = if (ag T kT (z : Int)).isEmpty then 0 else jw (row T.foes z) (bI T F) + ((uK T z).length : Nat)
 by_cases ht : (ag T kT (z : Int)).isEmpty = true
 · rw [if_pos ht]
   have : cK (iy T F z) n = cK (fun _ => 0) n := g7 fun q hq => by
    unfold iy
    rw [if_neg]
    intro hm
    exact (iX.1 hm).2 (List.isEmpty_iff.1 ht)
   rw [this, kO]
 · rw [if_neg ht]
   have Ab : ∀ x ∈ row T.foes (z : Int), 0 ≤ x ∧ x < (n : Int) := hp.foe z hz
   have h1 := xX (n := n) (P := bI T F) (eK (gG hp hz).1) Ab
   have h2 := yh (T := T) (n := n) (l := row T.foes (z : Int)) T.rules.length (fun a ha => by obtain ⟨x, -, e, x0, x1⟩ := fg hp ha; rw [e]; exact ⟨x0, x1⟩) (Nat.le_refl _)
   have h3 : ((uK T (z : Int)).length : Int) = (((List.range T.rules.length).filter fun a : Nat => decide (aj T a ∈ row T.foes (z : Int))).length : Int) := by
    unfold uK
    rw [List.length_map]
   rw [h1, h3, h2, ← mn]
   refine g7 fun q hq => ?_
   unfold iy
   have Aa : (z : Int) ∈ ao T q ↔ (q : Int) ∈ row T.foes z := by
    rw [iX]
    constructor
    · intro h; exact ig hp (by omega) (by omega) h.1
    · intro h; exact ⟨ig hp (by omega) (by omega) h, fun e => ht (by rw [e]; rfl)⟩
   by_cases hm : (q : Int) ∈ row T.foes z
   · rw [if_pos (Aa.2 hm), if_pos hm]
     by_cases hf : bI T F (q : Int) = true
     · rw [if_pos hf, if_pos ⟨hm, hf⟩]
       show ((ag T kA q).length : Int) + 1 = 1 + ((ag T kA q).length : Int)
       omega
     · rw [if_neg hf, if_neg fun h => hf h.2]
       show ((ag T kA q).length : Int) + 0 = 0 + ((ag T kA q).length : Int)
       omega
   · rw [if_neg fun h => hm (Aa.1 h), if_neg fun h => hm h.1, if_neg hm]; rfl
theorem l5 (hp : Pf T F n) : jC T F n :=
 ⟨fun b r hr => by
  show fi T (kW b) T.rules.length r = if aS T (kW b) r then ((az T r).length : Int) else 0
  rw [yt]
  by_cases h : aS T (kW b) r = true
  · rw [if_pos ⟨hr, h⟩, if_pos h]
  · rw [if_neg fun a => h a.2, if_neg h], fun b q _ => wo hp b q, fun s _ p _ => yA hp _ (Nat.le_refl _) s p, fun q hq => vn hp q hq⟩
end
end Go.Proofs.YtmlhcncagdfjfaaGreat.Fa
namespace Go.Proofs.YtmlhcncagdfjfaaGreat.Fa
open Go.RowKit
def eL (b : Bool) : Nat := if b then 1 else 0
def dj (m : List Int) (q : Nat) : Nat := eL (hs m q 1) + eL (hs m q 2) + eL (hs m q 3) + eL (hs m q 4)
def cq (m : List Int) : Nat → Nat
 | 0 => 0
 | k + 1 => cq m k + dj m k
theorem ga (b : Bool) : eL b ≤ 1 := by cases b <;> simp [eL]
theorem bE {a b : Bool} (h : a = true → b = true) : eL a ≤ eL b := by cases a <;> cases b <;> simp_all [eL]
theorem oF {m : List Int} {q : Nat} : dj m q ≤ 4 := by
 unfold dj
 have := ga (hs m q 1)
 have := ga (hs m q 2)
 have := ga (hs m q 3)
 have := ga (hs m q 4)
 omega
theorem lD {m : List Int} : ∀ {k : Nat}, cq m k ≤ 4 * k
 | 0 => by simp [cq]
 | k + 1 => by
  have := lD (m := m) (k := k)
  have := oF (m := m) (q := k)
  unfold cq
  omega
theorem gH {m m' : List Int} (h : Le m m') {q : Nat} : dj m q ≤ dj m' q := by
 unfold dj
 have h1 := bE (h q 1 (by omega) tag1)
 have h2 := bE (h q 2 (by omega) tag2)
 have h3 := bE (h q 3 (by omega) tag3)
 have h4 := bE (h q 4 (by omega) tag4)
 omega
theorem gM {m m' : List Int} (h : Le m m') : ∀ {k : Nat}, cq m k ≤ cq m' k
 | 0 => Nat.le_refl _
 | k + 1 => by
  have := gM h (k := k)
  have := gH h (q := k)
  unfold cq
  omega
theorem jz {m m' : List Int} (h : Le m m') {q : Nat} (hq : dj m q < dj m' q) : ∀ {k : Nat}, q < k → cq m k < cq m' k
 | 0, hk => by omega
 | k + 1, hk => by
  have h1 := gH h (q := k)
  unfold cq
  by_cases e : q = k
  · subst e
    have := gM h (k := q)
    omega
  · have := jz h hq (k := k) (by omega)
    omega
theorem qf {a b : Bool} (h1 : a = false) (h2 : b = true) : eL a < eL b := by rw [h1, h2]; decide
theorem oi {m m' : List Int} (h : Le m m') {q : Nat} {t : Int} (ht : aw t) (h1 : hs m q t = false) (h2 : hs m' q t = true) : dj m q < dj m' q := by
 unfold dj
 have g1 := bE (h q 1 (by omega) tag1)
 have g2 := bE (h q 2 (by omega) tag2)
 have g3 := bE (h q 3 (by omega) tag3)
 have g4 := bE (h q 4 (by omega) tag4)
 have g5 := qf h1 h2
 rcases ht with rfl | rfl | rfl | rfl <;> omega
theorem kE {T : Th} {F m : List Int} (h : ∀ (q : Nat) (t : Int), q < m.length → aw t → (!hs m q t && cH T F m t q) = false) : aQ T F m = m := by
 apply List.ext_getElem?
 intro q
 by_cases hq : q < m.length
 · unfold aQ
   rw [List.getElem?_map, List.getElem?_range hq, List.getElem?_eq_getElem hq]
   have e : m.getD q 0 = m[q] := by rw [List.getD_eq_getElem?_getD, List.getElem?_eq_getElem hq]; rfl
   show some (dH T F m q 4 (dH T F m q 3 (dH T F m q 2 (dH T F m q 1 (m.getD q 0))))) = _
   have a : ∀ (t x : Int), aw t → dH T F m q t x = x := fun t x ht => by unfold dH; rw [h q t hq ht]; rfl
   rw [a 1 _ tag1, a 2 _ tag2, a 3 _ tag3, a 4 _ tag4, e]
 · rw [List.getElem?_eq_none (by rw [cW]; omega), List.getElem?_eq_none (by omega)]
theorem m9 {T : Th} {F m : List Int} (hb : ps m) (hne : aQ T F m ≠ m) : cq m m.length < cq (aQ T F m) m.length := by
 apply Classical.byContradiction
 intro hn
 apply hne
 refine kE fun q t hq ht => ?_
 cases e : (!hs m q t && cH T F m t q) with
 | false => rfl
 | true =>
  exfalso
  simp only [Bool.and_eq_true, Bool.not_eq_true'] at e
  refine hn (jz (iD hb) (oi (iD hb) ht e.1 ?_) hq)
  rw [iJ hb (by omega) (by omega) ht, e.2]
  simp
end Go.Proofs.YtmlhcncagdfjfaaGreat.Fa
namespace Go.Proofs.YtmlhcncagdfjfaaGreat.Fa
structure ey where
 a : Bool → Int → Int → Bool
 n : Bool → Int → Int → Bool
 c : Bool → Int → Bool
 f : Int → Int → Bool
 r : Int → Int → Bool
 w : Int → Int → Bool
 d : Int → Int → Bool
def lf (l : List Int) (P : Int → Bool) : Int := ((l.filter fun x => !P x).length : Nat)
section
variable {l : List Int} {P Q : Int → Bool} {x : Int}
end
structure B3 (T : Th) (F : List Int) (n : Nat) (G : ey) (e : Es) : Prop where
 ms : ∀ b (r : Nat), r < T.rules.length → aS T (kW b) r = true → e.ms b r = lf (az T r) (G.a b r)
 rf : ∀ b (r : Nat), r < T.rules.length → e.rf b r = (az T r).any (G.n b r)
 op : ∀ b (q : Nat), q < n → e.op b q = if pI T F b q || (ag T (kL b) q).isEmpty then 0 else max 1 (lf (ag T (kL b) q) (G.c b))
 cd : ∀ s : Nat, s < T.rules.length → ∀ p ∈ ao T (aj T s), e.cd s p = lf ((ag T kT p).filter fun t => beatB T t s) fun t => G.w t s
 ob : ∀ p : Nat, p < n → ag T kT p ≠ [] → e.ob p = lf ((row T.foes p).filter (bI T F)) (fun f => G.f f p) + lf (uK T p) fun s => G.r s p
def E6 : ey := ⟨fun _ _ _ => false, fun _ _ _ => false, fun _ _ => false, fun _ _ => false, fun _ _ => false, fun _ _ => false, fun _ _ => false⟩
def E3 (g : Int → Int → Bool) (x y : Int) : Int → Int → Bool := aB g x (aB (g x) y true)
section
variable {T : Th} {F : List Int} {n : Nat} {G : ey} {e e' : Es}
def tp (b : Bool) : Int := if b then 3 else 1
def tn (b : Bool) : Int := if b then 4 else 2
def uU (n : Nat) (f : Int → Int) : List Int := (List.range n).map fun q : Nat => f q
abbrev Mq (n : Nat) (e : Es) : List Int := uU n e.mq
def mr (l : List (Int × Int)) : Int → Int := l.foldl (fun f x => aB f x.1 (dt (f x.1) x.2)) fun _ => 0
structure A9 (T : Th) (F : List Int) (n : Nat) (e : Es) : Prop where
 mq : e.mq = mr e.td
 ok : ∀ (i : Nat) x, e.td[i]? = some x → cH T F (uU n (mr (e.td.take i))) x.2 x.1 = true
structure A5 (T : Th) (n : Nat) (m : Prop) (G : ey) (e : Es) : Prop where
 a : ∀ b (r : Nat) x, G.a b r x = true → has e x (tp b) = true
 nn : ∀ b (r : Nat) x, G.n b r x = true → has e x (tn b) = true
 c : ∀ b (r : Nat), G.c b r = true → e.rf b r = true
 f : ∀ f p, G.f f p = true → has e f 2 = true
 r : ∀ (s : Nat) p, G.r s p = true → e.rf true s = true ∨ e.cb s p = true
 w : ∀ (t : Nat) s, G.w t s = true → e.rf true t = true
 cb : ∀ (s : Nat) p, e.cb s p = true → ∃ t : Nat, (t : Int) ∈ ag T kT p ∧ beatB T t s = true ∧ ∀ x ∈ az T t, G.a true t x = true
section
variable {m : Prop}
theorem oR (hp : Pf T F n) {r : Nat} (hr : r < T.rules.length) {x : Int} (hx : x ∈ az T r) : 0 ≤ x ∧ x < (n : Int) := by
 obtain ⟨y, hy⟩ := am hr
 obtain ⟨-, -, e⟩ := jt (p := kA) hy
 rw [e] at hx
 exact hp.body y (List.mem_of_getElem? hy) x hx
end
end
section
variable {T : Th} {F : List Int} {n k : Nat} {m : Prop} {G : ey} {e : Es}
end
structure Iv (T : Th) (F : List Int) (n : Nat) (m : Prop) (G : ey) (e : Es) : Prop where
 x : B3 T F n G e
 s : A5 T n m G e
 y : ∀ q, dh (e.mq q)
 o : A9 T F n e
 nf : m → ∀ q : Nat, q < n → bI T F q = false → has e q 2 = true
section
variable {T : Th} {F : List Int} {n k : Nat} {m : Prop} {G : ey} {e : Es}
end
section
variable {T : Th} {F : List Int} {n k : Nat} {m : Prop} {G G' : ey} {e e' : Es}
theorem qv (hp : Pf T F n) {r : Nat} (hr : r < T.rules.length) {s : Int} (hs_ : s ∈ row T.beats r) : ∃ a : Nat, s = (a : Int) ∧ a < T.rules.length ∧ aj T a ∈ row T.foes (aj T r) := by
 have Ad := hp.ok.bl
 obtain ⟨l, hl⟩ := am (l := T.beats) (i := r) (by omega)
 rw [bn (l := l) (by rw [Int.toNat_natCast]; exact hl)] at hs_
 obtain ⟨Ac, Aa⟩ := hp.ok.beat r l hl
 obtain ⟨Ab, -⟩ := bT (by omega) Ac
 obtain ⟨s0, s1⟩ := Ab s hs_
 obtain ⟨a, rfl⟩ := Int.eq_ofNat_of_zero_le (show 0 ≤ s by omega)
 exact ⟨a, rfl, by omega, Aa _ hs_⟩
structure E5 (e e' : Es) : Prop where
 ms : e'.ms = e.ms
 rf : e'.rf = e.rf
 op : e'.op = e.op
 cd : e'.cd = e.cd
 mq : e'.mq = e.mq
 td : e'.td = e.td
 tk : e'.tk = e.tk
structure EU (G G' : ey) : Prop where
 a : G'.a = G.a
 n : G'.n = G.n
 c : G'.c = G.c
 f : G'.f = G.f
 w : G'.w = G.w
def B4 (T : Th) (G : ey) (e : Es) : Prop := ∀ s : Nat, s < T.rules.length → ∀ p ∈ ao T (aj T s), e.rf true s = true ∨ e.cb s p = true → G.r s p = true
end
section
variable {T : Th} {F : List Int} {n k : Nat} {m : Prop} {G G' : ey} {e e' : Es}
structure EY (e e' : Es) : Prop where
 ms : e'.ms = e.ms
 rf : e'.rf = e.rf
 cb : e'.cb = e.cb
 tk : e'.tk = e.tk
 up : ∀ z t, aw t → has e z t = true → has e' z t = true
 td : ∃ l, e'.td = e.td ++ l
structure D9 (G G' : ey) : Prop where
 a : G'.a = G.a
 n : G'.n = G.n
 c : G'.c = G.c
 f : G'.f = G.f
 r : G'.r = G.r
end
section
variable {T : Th} {F : List Int} {n k : Nat} {m : Prop} {G G' : ey} {e e' : Es}
def P3 (T : Th) (n : Nat) (e : Es) : Prop := ∀ q : Nat, q < n → (ag T kT q).any (used e) = true → e.ob q = 0 → has e q 3 = true
end
section
variable {T : Th} {F : List Int} {n k : Nat} {m : Prop} {G G' : ey} {e e' : Es}
end
section
variable {T : Th} {F : List Int} {n k : Nat} {m : Prop} {G G' : ey} {e e' : Es}
def EV (T : Th) (n : Nat) (h : Int) (e : Es) : Prop := ∀ q : Nat, q < n → (q : Int) ≠ h → (ag T kT q).any (used e) = true → e.ob q = 0 → has e q 3 = true
end
section
variable {T : Th} {F : List Int} {n k : Nat} {m : Prop} {G G' : ey} {e e' : Es}
structure ET (e e' : Es) : Prop where
 rf : e'.rf = e.rf
 cb : e'.cb = e.cb
 cd : e'.cd = e.cd
 ob : e'.ob = e.ob
 op : e'.op = e.op
 tk : e'.tk = e.tk
 mt : e'.ms true = e.ms true
 up : ∀ z t, aw t → has e z t = true → has e' z t = true
 td : ∃ l, e'.td = e.td ++ l
end
section
variable {T : Th} {F : List Int} {n k : Nat} {m : Prop} {G G' : ey} {e e' : Es} {K : Int → Int → Bool}
structure EX (e e' : Es) : Prop where
 tk : e'.tk = e.tk
 up : ∀ z t, aw t → has e z t = true → has e' z t = true
 td : ∃ l, e'.td = e.td ++ l
 by_ : ∀ q, dh (e'.mq q)
 sm : (∀ q, e.mq q < 16) → ∀ q, e'.mq q < 16
 tdd : (∀ z t, aw t → has e z t = true → (z, t) ∈ e.td) → ∀ z t, aw t → has e' z t = true → (z, t) ∈ e'.td
structure B7 (T : Th) (F : List Int) (n : Nat) (K : Int → Int → Bool) (G : ey) (e : Es) : Prop where
 c1 : ∀ r : Nat, r < T.rules.length → aS T kS r = true → e.ms false r = 0 → has e (aj T r) 1 = true
 cf : ∀ q ∈ F, has e q 1 = true
 c2 : ∀ q : Nat, q < n → (q : Int) ∉ F → (∀ r ∈ ag T kS q, e.rf false r = true) → has e q 2 = true
 p3 : P3 T n e
 cb : ∀ t : Nat, t < T.rules.length → bS T t = true → used e t = true → ∀ s ∈ row T.beats t, e.cb s (aj T t) = true
 gr : B4 T G e
 gw : ∀ t : Nat, t < T.rules.length → bS T t = true → e.rf true t = true → ∀ s ∈ row T.beats t, G.w t s = true
 gc : ∀ b (r : Nat), r < T.rules.length → aS T (kL b) r = true → e.rf b r = true → G.c b r = true
 c3 : ∀ q, K q 1 = true → has e q 3 = true
 c4 : ∀ q : Nat, q < n → K q 2 = true → (∀ r ∈ ag T kT q, e.rf true r = true) → has e q 4 = true
 co : ∀ q : Nat, q < n → K q 2 = true → ∀ s : Nat, s < T.rules.length → (q : Int) ∈ ao T (aj T s) → used e s = true → e.cd s q = 0 → has e q 4 = true
 cr : ∀ q : Nat, q < n → K q 2 = true → ∀ f ∈ row T.foes q, K f 1 = true → has e q 4 = true
 q2 : ∀ q, K q 2 = true → has e q 2 = true
 q1 : ∀ q, K q 1 = true → has e q 1 = true
end
section
variable {T : Th} {F : List Int} {n k : Nat} {m : Prop} {G G' : ey} {e e' : Es} {K : Int → Int → Bool}
end
section
variable {T : Th} {F : List Int} {n k : Nat} {m : Prop} {G G' : ey} {e e' : Es} {K : Int → Int → Bool}
end
def cD (K : Int → Int → Bool) (q t : Int) : Int → Int → Bool := fun z u => K z u || decide (z = q ∧ u = t)
section
variable {T : Th} {F : List Int} {n k : Nat} {m : Prop} {G G' : ey} {e e' : Es} {K : Int → Int → Bool}
structure B1 (T : Th) (F : List Int) (K : Int → Int → Bool) (G : ey) : Prop where
 a : ∀ b (r : Nat) x, r < T.rules.length → aS T (kW b) r = true → x ∈ az T r → (G.a b r x = true ↔ K x (tp b) = true)
 n : ∀ b (r : Nat) x, r < T.rules.length → aS T (kW b) r = true → x ∈ az T r → (G.n b r x = true ↔ K x (tn b) = true)
 f : ∀ f p, bI T F f = true → p ∈ ao T f → (G.f f p = true ↔ K f 2 = true)
def zQ (e : Es) : Int → Int → Bool := fun z u => decide ((z, u) ∈ e.td.take e.tk)
structure D7 (T : Th) (F : List Int) (n : Nat) (m : List Int) (e : Es) : Prop where
 iv : ∃ G, Iv T F n True G e ∧ B7 T F n (zQ e) G e ∧ B1 T F (zQ e) G
 sm : ∀ q, e.mq q < 16
 td : ∀ z t, aw t → has e z t = true → (z, t) ∈ e.td
end
section
variable {T : Th} {F : List Int} {n k : Nat} {m : Prop} {m0 : List Int} {G G' : ey} {e e' : Es} {K : Int → Int → Bool}
end
section
variable {T : Th} {F : List Int} {n k : Nat} {m m0 : List Int} {N : Prop} {G G' : ey} {e e' : Es} {K : Int → Int → Bool}
end
end Go.Proofs.YtmlhcncagdfjfaaGreat.Fa
