import Derived.Test.YtmlhcncagdfjfaaGreatFsC
namespace Go.Proofs.YtmlhcncagdfjfaaGreat.Fa
theorem qv {v : Int} (h0 : 0 ≤ v) (h1 : v < 1099511627776) : aE v = v + 1 := by
 unfold aE
 rw [IntKind.wrap_i64]
 omega
theorem yX {v u : Int} (h0 : 0 ≤ v) (h1 : v < 1099511627776) (h2 : 0 ≤ u) (h3 : u < 1099511627776) : nQ v u = v + u := by
 unfold nQ
 rw [IntKind.wrap_i64]
 omega
section
variable {T : Th} {F : List Int} {n : Nat} {p : RuleM → Bool}
theorem jy {k : Nat} {r : RuleM} (h : T.rules[k]? = some r) : aR T p k = p r ∧ aj T k = r.head ∧ az T k = r.body := by
 unfold aR aj az
 rw [Int.toNat_natCast, h]
 exact ⟨rfl, rfl, rfl⟩
theorem jU {k : Nat} {z : Int} : bK T p z k = (aR T p k && decide (aj T k = z)) := by
 cases h : T.rules[k]? with
 | none => unfold bK aR; rw [Int.toNat_natCast, h]; rfl
 | some r => obtain ⟨e1, e2, -⟩ := jy (p := p) h; rw [e1, e2]; unfold bK; rw [h]
theorem yu (k r : Nat) : fi T p k r = if r < k ∧ aR T p r = true then ((az T r).length : Int) else 0 := by
 induction k with
 | zero => rw [if_neg (by omega)]; rfl
 | succ k ih =>
  rw [mr]
  by_cases hk : aR T p k = true
  ·rw [if_pos hk]
   by_cases e : r = k
   ·subst e; rw [aL, if_pos ⟨by omega, hk⟩]
   rw [aS (by omega), ih]
   by_cases h2 : r < k ∧ aR T p r = true
   ·rw [if_pos h2, if_pos ⟨by omega, h2.2⟩]
   rw [if_neg h2, if_neg fun h3 => h2 ⟨by omega, h3.2⟩]
  rw [if_neg hk, ih]
  by_cases h2 : r < k ∧ aR T p r = true
  ·rw [if_pos h2, if_pos ⟨by omega, h2.2⟩]
  rw [if_neg h2, if_neg fun h3 => h2 ⟨by have : r ≠ k := (fun e => hk (e ▸ h3.2)); omega, h3.2⟩]
theorem zd (k : Nat) (hk : k ≤ 4096) (q : Int) : opK T p k q = ((bh T p k q).length : Int) := by
 induction k with
 | zero => rfl
 | succ k ih =>
  have ih := ih (by omega)
  rw [jX, cG, jU]
  have hl : (bh T p k q).length ≤ k := by
   unfold bh
   rw [List.length_map]
   exact Nat.le_trans (List.length_filter_le _ _) (by simp)
  cases hb : aR T p k with
  | false => simp [ih]
  | true =>
   by_cases e : aj T k = q
   ·subst e
    rw [if_pos rfl, aL, ih, qv (by omega) (by omega)]
    simp
   rw [if_pos rfl, aS (fun h => e h.symm), ih]
   simp [e]
theorem yU {f : Int → Int} (k : Nat) (q : Int) : eh T p f k q = if (∃ r : Nat, r < k ∧ aR T p r = true ∧ az T r = [] ∧ aj T r = q) then 0 else f q := by
 induction k with
 | zero => rw [if_neg (by rintro ⟨r, h, _⟩; omega)]; rfl
 | succ k ih =>
  rw [j6]
  by_cases hb : (aR T p k && (az T k).isEmpty) = true
  ·rw [if_pos hb]
   simp only [Bool.and_eq_true, List.isEmpty_iff] at hb
   by_cases e : aj T k = q
   ·subst e
    rw [aL, if_pos ⟨k, by omega, hb.1, hb.2, rfl⟩]
   rw [aS (fun h => e h.symm), ih]
   by_cases h2 : ∃ r : Nat, r < k ∧ aR T p r = true ∧ az T r = [] ∧ aj T r = q
   ·rw [if_pos h2]
    obtain ⟨r, h3, h4⟩ := h2
    rw [if_pos ⟨r, by omega, h4⟩]
   rw [if_neg h2, if_neg]
   rintro ⟨r, h3, h4⟩
   by_cases e2 : r = k
   ·exact e (e2 ▸ h4.2.2)
   exact h2 ⟨r, by omega, h4⟩
  rw [if_neg hb, ih]
  by_cases h2 : ∃ r : Nat, r < k ∧ aR T p r = true ∧ az T r = [] ∧ aj T r = q
  ·rw [if_pos h2]
   obtain ⟨r, h3, h4⟩ := h2
   rw [if_pos ⟨r, by omega, h4⟩]
  rw [if_neg h2, if_neg]
  rintro ⟨r, h3, h4⟩
  by_cases e2 : r = k
  ·subst e2
   apply hb
   rw [h4.1, h4.2.1]
   rfl
  exact h2 ⟨r, by omega, h4⟩
theorem rS {q : Int} : nI T p q = true ↔ ∃ r : Nat, r < T.rules.length ∧ aR T p r = true ∧ az T r = [] ∧ aj T r = q := by
 unfold nI
 rw [List.any_eq_true]
 constructor
 ·rintro ⟨x, hx, he⟩
  obtain ⟨a, r, rfl, hr, hp, hh⟩ := i9.1 hx
  obtain ⟨e1, e2, e3⟩ := jy (p := p) hr
  exact ⟨a, (List.getElem?_eq_some_iff.1 hr).1, by rw [e1]; exact hp, List.isEmpty_iff.1 he, by rw [e2]; exact hh⟩
 rintro ⟨a, ha, h1, h2, h3⟩
 obtain ⟨r, hr⟩ := am ha
 obtain ⟨e1, e2, e3⟩ := jy (p := p) hr
 exact ⟨a, i9.2 ⟨a, r, rfl, hr, by rw [← e1]; exact h1, by rw [← e2]; exact h3⟩, by rw [h2]; rfl⟩
theorem xD {l : List Int} {f : Int → Int} {q : Int} : l.foldl (fun f x => aA f x 0) f q = if q ∈ l then 0 else f q := by
 induction l generalizing f with
 | nil => rfl
 | cons x l ih =>
  rw [List.foldl_cons, ih]
  by_cases h : q ∈ l
  ·rw [if_pos h, if_pos (List.mem_cons_of_mem _ h)]
  rw [if_neg h]
  by_cases e : q = x
  ·subst e; rw [aL, if_pos List.mem_cons_self]
  rw [aS e, if_neg (by simp [e, h])]
theorem vX (hp : Pf T F n) (b : Bool) (q : Nat) : (dU F (fy T F n)).op b q = (dB T F).op b q := by
 have hr := hp.ok.rl
 have key : eh T (kL b) (opK T (kL b) T.rules.length) T.rules.length q = if nI T (kL b) q then 0 else ((ag T (kL b) q).length : Int) := by
  rw [yU, zd _ (by omega)]
  by_cases h : nI T (kL b) (q : Int) = true
  ·rw [if_pos (rS.1 h), if_pos h]
  rw [if_neg fun h2 => h (rS.2 h2), if_neg h]; rfl
 show dI (fy T F n).op false (F.foldl (fun f x => aA f x 0) ((fy T F n).op false)) b (q : Int) = if pH T F b q then 0 else ((ag T (kL b) q).length : Int)
 unfold pH
 cases b
 ·rw [dx, xD]
  show (if (q : Int) ∈ F then 0 else eh T (kL false) (opK T (kL false) T.rules.length) T.rules.length q) = _
  rw [key]
  by_cases h1 : (q : Int) ∈ F
  ·simp [h1]
  simp [h1]
 rw [eK (by decide)]
 show eh T (kL true) (opK T (kL true) T.rules.length) T.rules.length q = _
 rw [key]
 simp
theorem yg {h : Int} {l : List Int} (hn : l.Nodup) {d : Int → Int → Int} {s q : Int} : l.foldl (jA h) d s q = if s ∈ l ∧ q = h then aE (d s q) else d s q := by
 induction l generalizing d with
 | nil => simp
 | cons x l ih =>
  obtain ⟨h1, h2⟩ := List.nodup_cons.1 hn
  rw [List.foldl_cons, ih h2]
  have e0 : jA h d x s q = if s = x ∧ q = h then aE (d s q) else d s q := by
   unfold jA
   by_cases e : s = x
   ·subst e
    rw [aL]
    by_cases e2 : q = h
    ·subst e2; rw [aL, if_pos ⟨rfl, rfl⟩]
    rw [aS e2, if_neg fun a => e2 a.2]
   rw [aS e, if_neg fun a => e a.1]
  rw [e0]
  by_cases e : s = x
  ·subst e
   rw [if_neg fun a => h1 a.1]
   simp
  by_cases e2 : s ∈ l ∧ q = h
  ·rw [if_pos e2, if_neg fun a => e a.1, if_pos ⟨List.mem_cons_of_mem _ e2.1, e2.2⟩]
  rw [if_neg e2, if_neg fun a => e a.1, if_neg]
  rintro ⟨a, b⟩
  exact e2 ⟨(List.mem_cons.1 a).resolve_left e, b⟩
theorem uG {k : Int} : bT T k = aR T kT k := rfl
theorem yt (hp : Pf T F n) (k : Nat) (hk : k ≤ T.rules.length) (s : Nat) (q : Int) : fK T k s q = ju (bh T kT k q) fun t => beatB T t s := by
 have hr := hp.ok.rl
 induction k with
 | zero => rfl
 | succ k ih =>
  have ih := ih (by omega)
  have hl : (bh T kT k q).length ≤ k := by
   unfold bh
   rw [List.length_map]
   exact Nat.le_trans (List.length_filter_le _ _) (by simp)
  have hc : 0 ≤ ju (bh T kT k q) (fun t => beatB T t s) ∧ ju (bh T kT k q) (fun t => beatB T t s) ≤ 4096 := by
   unfold ju
   have := List.length_filter_le (fun t => beatB T t (s : Int)) (bh T kT k q)
   omega
  rw [mP, cG, jU, uG]
  cases hb : aR T kT k with
  | false => simp [ih]
  | true =>
   have Aa : (row T.beats (k : Int)).Nodup := by
    have Ab := hp.ok.bl
    obtain ⟨l, hl⟩ := am (l := T.beats) (i := k) (by omega)
    rw [bn (l := l) (by rw [Int.toNat_natCast]; exact hl)]
    exact eJ (hp.beat l (List.mem_of_getElem? hl))
   rw [if_pos rfl, yg Aa, ih]
   by_cases e : aj T k = q
   ·subst e
    simp only [Bool.true_and, decide_true, if_true, and_true]
    unfold ju at hc ⊢
    rw [List.filter_append, List.length_append]
    by_cases hbt : (s : Int) ∈ row T.beats k
    ·rw [if_pos hbt, qv (by omega) (by omega)]
     have : beatB T k s = true := by unfold beatB; exact decide_eq_true hbt
     simp [this]
    rw [if_neg hbt]
    have : ¬ beatB T k s = true := by unfold beatB; simp [hbt]
    simp [this]
   rw [if_neg fun a => e a.2.symm]
   simp [e]
def cM (g : Nat → Int) : Nat → Int
 | 0 => 0
 | k + 1 => cM g k + g k
theorem xV {q : Int} {l : List Int} (hn : l.Nodup) {f : Int → Int} {z : Int} : l.foldl (gi T F q) f z = if z ∈ l then gi T F q f z z else f z := by
 induction l generalizing f with
 | nil => simp
 | cons x l ih =>
  obtain ⟨h1, h2⟩ := List.nodup_cons.1 hn
  rw [List.foldl_cons, ih h2]
  by_cases e : z = x
  ·subst e
   rw [if_neg h1, if_pos List.mem_cons_self]
  have e2 : gi T F q f x z = f z := by unfold gi; rw [aS e]
  by_cases h : z ∈ l
  ·rw [if_pos h, if_pos (List.mem_cons_of_mem _ h)]
   unfold gi at e2 ⊢
   rw [aL, aL, e2]
  rw [if_neg h, if_neg (by simp [e, h]), e2]
def ir (T : Th) (F : List Int) (z : Int) (q : Nat) : Int := if z ∈ ao T q then ((ag T kA q).length : Int) + (if bI T F q then 1 else 0) else 0
theorem yv (hp : Pf T F n) (k : Nat) (hk : k ≤ n) (z : Int) : obK T F k z = cM (ir T F z) k ∧ 0 ≤ cM (ir T F z) k ∧ cM (ir T F z) k ≤ (k : Int) * 4097 := by
 have hr := hp.ok.rl
 have Aa := hp.n4
 induction k with
 | zero => exact ⟨rfl, Int.le_refl _, by show (0 : Int) ≤ _; omega⟩
 | succ k ih =>
  obtain ⟨h1, h2, h3⟩ := ih (by omega)
  have hl : (ag T kA (k : Int)).length ≤ T.rules.length := iR
  have hg : 0 ≤ ir T F z k ∧ ir T F z k ≤ 4097 := by
   unfold ir
   split
   ·split <;> omega
   omega
  refine ⟨?_, by show 0 ≤ _ + _; omega, by show _ + _ ≤ _; omega⟩
  show _ = cM (ir T F z) k + ir T F z k
  rw [pS, xV (eJ (j4 hp (by omega)))]
  unfold ir
  by_cases hm : z ∈ ao T (k : Int)
  ·rw [if_pos hm, if_pos hm]
   unfold gi
   rw [aL, h1, yX h2 (by omega) (by omega) (by omega)]
   by_cases hf : bI T F (k : Int) = true
   ·rw [if_pos hf, if_pos hf, qv (by omega) (by omega)]
    unfold ir
    omega
   rw [if_neg hf, if_neg hf]
   unfold ir
   omega
  rw [if_neg hm, if_neg hm, h1]
  unfold ir
  omega
theorem g7 {f g : Nat → Int} {k : Nat} (h : ∀ i, i < k → f i = g i) : cM f k = cM g k := by
 induction k with
 | zero => rfl
 | succ k ih => show _ + _ = _ + _; rw [ih fun i hi => h i (by omega), h k (by omega)]
theorem mA {f g : Nat → Int} {k : Nat} : cM (fun i => f i + g i) k = cM f k + cM g k := by
 induction k with
 | zero => rfl
 | succ k ih => show cM _ k + (f k + g k) = (cM f k + f k) + (cM g k + g k); rw [ih]; omega
theorem lm {k : Nat} : cM (fun _ => 0) k = 0 := by
 induction k with
 | zero => rfl
 | succ k ih => show cM _ k + 0 = 0; rw [ih]; rfl
theorem rY (a : Nat) (c : Int) (k : Nat) : cM (fun q => if q = a then c else 0) k = if a < k then c else 0 := by
 induction k with
 | zero => rw [if_neg (by omega)]; rfl
 | succ k ih =>
  show cM _ k + (if k = a then c else 0) = _
  rw [ih]
  by_cases e : k = a
  ·subst e; rw [if_neg (by omega), if_pos rfl, if_pos (by omega)]; omega
  rw [if_neg e]
  by_cases e2 : a < k
  ·rw [if_pos e2, if_pos (by omega)]; omega
  rw [if_neg e2, if_neg (by omega)]; rfl
theorem yq {l : List Int} (hn : l.Nodup) {P : Int → Bool} (hl : ∀ x ∈ l, 0 ≤ x ∧ x < (n : Int)) : ju l P = cM (fun q => if (q : Int) ∈ l ∧ P q = true then 1 else 0) n := by
 induction l with
 | nil => simp [ju, lm]
 | cons x l ih =>
  obtain ⟨h1, h2⟩ := List.nodup_cons.1 hn
  have ih := ih h2 fun y hy => hl y (List.mem_cons_of_mem _ hy)
  obtain ⟨x0, x1⟩ := hl x List.mem_cons_self
  obtain ⟨a, rfl⟩ := Int.eq_ofNat_of_zero_le x0
  have e1 : ju ((a : Int) :: l) P = ju l P + if P a = true then 1 else 0 := by
   unfold ju
   by_cases h : P a = true
   ·rw [List.filter_cons_of_pos h, if_pos h]; simp
   rw [List.filter_cons_of_neg h, if_neg h]; simp
  have Aa : ∀ (c : Int) (k : Nat), cM (fun q => if q = a then c else 0) k = if a < k then c else 0 := rY a
  have e2 : (if P a = true then (1 : Int) else 0) = cM (fun q => if q = a then (if P a = true then 1 else 0) else 0) n := by rw [Aa]; exact (if_pos (show a < n by omega)).symm
  rw [e1, ih, e2, ← mA]
  refine g7 fun q hq => ?_
  by_cases e : q = a
  ·subst e
   rw [if_pos rfl, if_neg fun h => h1 h.1]
   by_cases hP : P (q : Int) = true
   ·rw [if_pos hP, if_pos ⟨List.mem_cons_self, hP⟩]; rfl
   rw [if_neg hP, if_neg fun h => hP h.2]; rfl
  rw [if_neg e]
  have : ((q : Int) ∈ (a : Int) :: l) ↔ (q : Int) ∈ l := by
   rw [List.mem_cons]
   exact ⟨fun h => h.resolve_left (by omega), .inr⟩
  simp only [this]
  omega
theorem xE {l : List Int} (R : Nat) (hh : ∀ a : Nat, a < R → 0 ≤ aj T a ∧ aj T a < (n : Int)) (hR : R ≤ T.rules.length) : (((List.range R).filter fun a : Nat => decide (aj T a ∈ l)).length : Int) = cM (fun q => if (q : Int) ∈ l then ((bh T kA R q).length : Int) else 0) n := by
 induction R with
 | zero => rw [show (fun q : Nat => if (q : Int) ∈ l then ((bh T kA 0 q).length : Int) else 0) = fun _ => 0 from by funext q; split <;> rfl, lm]; rfl
 | succ R ih =>
  have ih := ih (fun a ha => hh a (by omega)) (by omega)
  obtain ⟨x0, x1⟩ := hh R (by omega)
  obtain ⟨a, ha⟩ := Int.eq_ofNat_of_zero_le x0
  obtain ⟨r, hr⟩ := am (l := T.rules) (i := R) (by omega)
  have hk : aR T kA R = true := (jy (p := kA) hr).1
  have Aa : ∀ (c : Int) (k : Nat), cM (fun q => if q = a then c else 0) k = if a < k then c else 0 := rY a
  have e1 : (((List.range (R + 1)).filter fun a : Nat => decide (aj T a ∈ l)).length : Int) = ((List.range R).filter fun a : Nat => decide (aj T a ∈ l)).length + cM (fun q => if q = a then (if aj T R ∈ l then 1 else 0) else 0) n := by
   rw [Aa, if_pos (show a < n by omega), List.range_succ, List.filter_append, List.length_append]
   by_cases h : aj T R ∈ l
   ·simp [h]
   simp [h]
  rw [e1, ih, ← mA]
  refine g7 fun q hq => ?_
  rw [cG, jU, hk]
  by_cases e : q = a
  ·subst e
   rw [ha]
   by_cases hm : (q : Int) ∈ l
   ·simp [hm]
   simp [hm]
  have : ¬ aj T R = (q : Int) := by omega
  simp [e, this]
theorem wo (hp : Pf T F n) (z : Nat) (hz : z < n) : obK T F n z = (dB T F).ob z := by
 rw [(yv hp n (Nat.le_refl _) z).1]
 show _ = if (ag T kT (z : Int)).isEmpty then 0 else ju (row T.foes z) (bI T F) + ((tW T z).length : Nat)
 by_cases ht : (ag T kT (z : Int)).isEmpty = true
 ·rw [if_pos ht]
  have : cM (ir T F z) n = cM (fun _ => 0) n := g7 fun q hq => by
   unfold ir
   rw [if_neg]
   intro hm
   exact (iO.1 hm).2 (List.isEmpty_iff.1 ht)
  rw [this, lm]
 rw [if_neg ht]
 have Ab : ∀ x ∈ row T.foes (z : Int), 0 ≤ x ∧ x < (n : Int) := hp.foe z hz
 have h1 := yq (n := n) (P := bI T F) (eJ (gG hp hz).1) Ab
 have h2 := xE (T := T) (n := n) (l := row T.foes (z : Int)) T.rules.length (fun a ha => by obtain ⟨x, -, e, x0, x1⟩ := fd hp ha; rw [e]; exact ⟨x0, x1⟩) (Nat.le_refl _)
 have h3 : ((tW T (z : Int)).length : Int) = (((List.range T.rules.length).filter fun a : Nat => decide (aj T a ∈ row T.foes (z : Int))).length : Int) := by
  unfold tW
  rw [List.length_map]
 rw [h1, h3, h2, ← mA]
 refine g7 fun q hq => ?_
 unfold ir
 have Aa : (z : Int) ∈ ao T q ↔ (q : Int) ∈ row T.foes z := by
  rw [iO]
  constructor
  ·intro h; exact hH hp (by omega) (by omega) h.1
  intro h; exact ⟨hH hp (by omega) (by omega) h, fun e => ht (by rw [e]; rfl)⟩
 by_cases hm : (q : Int) ∈ row T.foes z
 ·rw [if_pos (Aa.2 hm), if_pos hm]
  by_cases hf : bI T F (q : Int) = true
  ·rw [if_pos hf, if_pos ⟨hm, hf⟩]
   show ((ag T kA q).length : Int) + 1 = 1 + ((ag T kA q).length : Int)
   omega
  rw [if_neg hf, if_neg fun h => hf h.2]
  show ((ag T kA q).length : Int) + 0 = 0 + ((ag T kA q).length : Int)
  omega
 rw [if_neg fun h => hm (Aa.1 h), if_neg fun h => hm h.1, if_neg hm]; rfl
theorem my (hp : Pf T F n) : jp T F n :=
 ⟨fun b r hr => by
  show fi T (kW b) T.rules.length r = if aR T (kW b) r then ((az T r).length : Int) else 0
  rw [yu]
  by_cases h : aR T (kW b) r = true
  ·rw [if_pos ⟨hr, h⟩, if_pos h]
  rw [if_neg fun a => h a.2, if_neg h], fun b q _ => vX hp b q, fun s _ p _ => yt hp _ (Nat.le_refl _) s p, fun q hq => wo hp q hq⟩
end
end Go.Proofs.YtmlhcncagdfjfaaGreat.Fa
namespace Go.Proofs.YtmlhcncagdfjfaaGreat.Fa
open Go.RowKit
def eS (b : Bool) : Nat := if b then 1 else 0
def dg (m : List Int) (q : Nat) : Nat := eS (hs m q 1) + eS (hs m q 2) + eS (hs m q 3) + eS (hs m q 4)
def ct (m : List Int) : Nat → Nat
 | 0 => 0
 | k + 1 => ct m k + dg m k
theorem fS (b : Bool) : eS b ≤ 1 := by cases b <;> simp [eS]
theorem bB {a b : Bool} (h : a = true → b = true) : eS a ≤ eS b := by cases a <;> cases b <;> simp_all [eS]
theorem oh {m : List Int} {q : Nat} : dg m q ≤ 4 := by
 unfold dg
 have := fS (hs m q 1)
 have := fS (hs m q 2)
 have := fS (hs m q 3)
 have := fS (hs m q 4)
 omega
theorem lz {m : List Int} : ∀ {k : Nat}, ct m k ≤ 4 * k
 | 0 => by simp [ct]
 | k + 1 => by
  have := lz (m := m) (k := k)
  have := oh (m := m) (q := k)
  unfold ct
  omega
theorem gH {m m' : List Int} (h : Le m m') {q : Nat} : dg m q ≤ dg m' q := by
 unfold dg
 have h1 := bB (h q 1 (by omega) tag1)
 have h2 := bB (h q 2 (by omega) tag2)
 have h3 := bB (h q 3 (by omega) tag3)
 have h4 := bB (h q 4 (by omega) tag4)
 omega
theorem gJ {m m' : List Int} (h : Le m m') : ∀ {k : Nat}, ct m k ≤ ct m' k
 | 0 => Nat.le_refl _
 | k + 1 => by
  have := gJ h (k := k)
  have := gH h (q := k)
  unfold ct
  omega
theorem jn {m m' : List Int} (h : Le m m') {q : Nat} (hq : dg m q < dg m' q) : ∀ {k : Nat}, q < k → ct m k < ct m' k
 | 0, hk => by omega
 | k + 1, hk => by
  have h1 := gH h (q := k)
  unfold ct
  by_cases e : q = k
  ·subst e
   have := gJ h (k := q)
   omega
  have := jn h hq (k := k) (by omega)
  omega
theorem qt {a b : Bool} (h1 : a = false) (h2 : b = true) : eS a < eS b := by rw [h1, h2]; decide
theorem oN {m m' : List Int} (h : Le m m') {q : Nat} {t : Int} (ht : aw t) (h1 : hs m q t = false) (h2 : hs m' q t = true) : dg m q < dg m' q := by
 unfold dg
 have g1 := bB (h q 1 (by omega) tag1)
 have g2 := bB (h q 2 (by omega) tag2)
 have g3 := bB (h q 3 (by omega) tag3)
 have g4 := bB (h q 4 (by omega) tag4)
 have g5 := qt h1 h2
 rcases ht with rfl | rfl | rfl | rfl <;> omega
theorem kP {T : Th} {F m : List Int} (h : ∀ (q : Nat) (t : Int), q < m.length → aw t → (!hs m q t && cH T F m t q) = false) : aO T F m = m := by
 apply List.ext_getElem?
 intro q
 by_cases hq : q < m.length
 ·unfold aO
  rw [List.getElem?_map, List.getElem?_range hq, List.getElem?_eq_getElem hq]
  have e : m.getD q 0 = m[q] := by rw [List.getD_eq_getElem?_getD, List.getElem?_eq_getElem hq]; rfl
  show some (dF T F m q 4 (dF T F m q 3 (dF T F m q 2 (dF T F m q 1 (m.getD q 0))))) = _
  have a : ∀ (t x : Int), aw t → dF T F m q t x = x := fun t x ht => by unfold dF; rw [h q t hq ht]; rfl
  rw [a 1 _ tag1, a 2 _ tag2, a 3 _ tag3, a 4 _ tag4, e]
 rw [List.getElem?_eq_none (by rw [cV]; omega), List.getElem?_eq_none (by omega)]
theorem nM {T : Th} {F m : List Int} (hb : pt m) (hne : aO T F m ≠ m) : ct m m.length < ct (aO T F m) m.length := by
 apply Classical.byContradiction
 intro hn
 apply hne
 refine kP fun q t hq ht => ?_
 cases e : (!hs m q t && cH T F m t q) with
 | false => rfl
 | true =>
  exfalso
  simp only [Bool.and_eq_true, Bool.not_eq_true'] at e
  refine hn (jn (iJ hb) (oN (iJ hb) ht e.1 ?_) hq)
  rw [ix hb (by omega) (by omega) ht, e.2]
  simp
end Go.Proofs.YtmlhcncagdfjfaaGreat.Fa
namespace Go.Proofs.YtmlhcncagdfjfaaGreat.Fa
structure eI where
 a : Bool → Int → Int → Bool
 n : Bool → Int → Int → Bool
 c : Bool → Int → Bool
 f : Int → Int → Bool
 r : Int → Int → Bool
 w : Int → Int → Bool
 d : Int → Int → Bool
def lf (l : List Int) (P : Int → Bool) : Int := ((l.filter fun x => !P x).length : Nat)
section
variable {l : List Int} {P Q : Int → Bool} {x : Int}
end
structure B6 (T : Th) (F : List Int) (n : Nat) (G : eI) (e : Es) : Prop where
 ms : ∀ b (r : Nat), r < T.rules.length → aR T (kW b) r = true → e.ms b r = lf (az T r) (G.a b r)
 rf : ∀ b (r : Nat), r < T.rules.length → e.rf b r = (az T r).any (G.n b r)
 op : ∀ b (q : Nat), q < n → e.op b q = if pH T F b q || (ag T (kL b) q).isEmpty then 0 else max 1 (lf (ag T (kL b) q) (G.c b))
 cd : ∀ s : Nat, s < T.rules.length → ∀ p ∈ ao T (aj T s), e.cd s p = lf ((ag T kT p).filter fun t => beatB T t s) fun t => G.w t s
 ob : ∀ p : Nat, p < n → ag T kT p ≠ [] → e.ob p = lf ((row T.foes p).filter (bI T F)) (fun f => G.f f p) + lf (tW T p) fun s => G.r s p
def EZ : eI := ⟨fun _ _ _ => false, fun _ _ _ => false, fun _ _ => false, fun _ _ => false, fun _ _ => false, fun _ _ => false, fun _ _ => false⟩
def E5 (g : Int → Int → Bool) (x y : Int) : Int → Int → Bool := aA g x (aA (g x) y true)
section
variable {T : Th} {F : List Int} {n : Nat} {G : eI} {e e' : Es}
def tp (b : Bool) : Int := if b then 3 else 1
def tn (b : Bool) : Int := if b then 4 else 2
def vW (n : Nat) (f : Int → Int) : List Int := (List.range n).map fun q : Nat => f q
abbrev Mq (n : Nat) (e : Es) : List Int := vW n e.mq
def mi (l : List (Int × Int)) : Int → Int := l.foldl (fun f x => aA f x.1 (dt (f x.1) x.2)) fun _ => 0
structure A8 (T : Th) (F : List Int) (n : Nat) (e : Es) : Prop where
 mq : e.mq = mi e.td
 ok : ∀ (i : Nat) x, e.td[i]? = some x → cH T F (vW n (mi (e.td.take i))) x.2 x.1 = true
structure B1 (T : Th) (n : Nat) (m : Prop) (G : eI) (e : Es) : Prop where
 a : ∀ b (r : Nat) x, G.a b r x = true → has e x (tp b) = true
 nn : ∀ b (r : Nat) x, G.n b r x = true → has e x (tn b) = true
 c : ∀ b (r : Nat), G.c b r = true → e.rf b r = true
 f : ∀ f p, G.f f p = true → has e f 2 = true
 r : ∀ (s : Nat) p, G.r s p = true → e.rf true s = true ∨ e.cb s p = true
 w : ∀ (t : Nat) s, G.w t s = true → e.rf true t = true
 cb : ∀ (s : Nat) p, e.cb s p = true → ∃ t : Nat, (t : Int) ∈ ag T kT p ∧ beatB T t s = true ∧ ∀ x ∈ az T t, G.a true t x = true
section
variable {m : Prop}
theorem ow (hp : Pf T F n) {r : Nat} (hr : r < T.rules.length) {x : Int} (hx : x ∈ az T r) : 0 ≤ x ∧ x < (n : Int) := by
 obtain ⟨y, hy⟩ := am hr
 obtain ⟨-, -, e⟩ := jy (p := kA) hy
 rw [e] at hx
 exact hp.body y (List.mem_of_getElem? hy) x hx
end
end
section
variable {T : Th} {F : List Int} {n k : Nat} {m : Prop} {G : eI} {e : Es}
end
structure Iv (T : Th) (F : List Int) (n : Nat) (m : Prop) (G : eI) (e : Es) : Prop where
 x : B6 T F n G e
 s : B1 T n m G e
 y : ∀ q, dm (e.mq q)
 o : A8 T F n e
 nf : m → ∀ q : Nat, q < n → bI T F q = false → has e q 2 = true
section
variable {T : Th} {F : List Int} {n k : Nat} {m : Prop} {G : eI} {e : Es}
end
section
variable {T : Th} {F : List Int} {n k : Nat} {m : Prop} {G G' : eI} {e e' : Es}
theorem qD (hp : Pf T F n) {r : Nat} (hr : r < T.rules.length) {s : Int} (hs_ : s ∈ row T.beats r) : ∃ a : Nat, s = (a : Int) ∧ a < T.rules.length ∧ aj T a ∈ row T.foes (aj T r) := by
 have Ad := hp.ok.bl
 obtain ⟨l, hl⟩ := am (l := T.beats) (i := r) (by omega)
 rw [bn (l := l) (by rw [Int.toNat_natCast]; exact hl)] at hs_
 obtain ⟨Ab, Aa⟩ := hp.ok.beat r l hl
 obtain ⟨Ac, -⟩ := bS (by omega) Ab
 obtain ⟨s0, s1⟩ := Ac s hs_
 obtain ⟨a, rfl⟩ := Int.eq_ofNat_of_zero_le (show 0 ≤ s by omega)
 exact ⟨a, rfl, by omega, Aa _ hs_⟩
structure E7 (e e' : Es) : Prop where
 ms : e'.ms = e.ms
 rf : e'.rf = e.rf
 op : e'.op = e.op
 cd : e'.cd = e.cd
 mq : e'.mq = e.mq
 td : e'.td = e.td
 tk : e'.tk = e.tk
structure EV (G G' : eI) : Prop where
 a : G'.a = G.a
 n : G'.n = G.n
 c : G'.c = G.c
 f : G'.f = G.f
 w : G'.w = G.w
def B7 (T : Th) (G : eI) (e : Es) : Prop := ∀ s : Nat, s < T.rules.length → ∀ p ∈ ao T (aj T s), e.rf true s = true ∨ e.cb s p = true → G.r s p = true
end
section
variable {T : Th} {F : List Int} {n k : Nat} {m : Prop} {G G' : eI} {e e' : Es}
structure E3 (e e' : Es) : Prop where
 ms : e'.ms = e.ms
 rf : e'.rf = e.rf
 cb : e'.cb = e.cb
 tk : e'.tk = e.tk
 up : ∀ z t, aw t → has e z t = true → has e' z t = true
 td : ∃ l, e'.td = e.td ++ l
structure EU (G G' : eI) : Prop where
 a : G'.a = G.a
 n : G'.n = G.n
 c : G'.c = G.c
 f : G'.f = G.f
 r : G'.r = G.r
end
section
variable {T : Th} {F : List Int} {n k : Nat} {m : Prop} {G G' : eI} {e e' : Es}
def P3 (T : Th) (n : Nat) (e : Es) : Prop := ∀ q : Nat, q < n → (ag T kT q).any (used e) = true → e.ob q = 0 → has e q 3 = true
end
section
variable {T : Th} {F : List Int} {n k : Nat} {m : Prop} {G G' : eI} {e e' : Es}
end
section
variable {T : Th} {F : List Int} {n k : Nat} {m : Prop} {G G' : eI} {e e' : Es}
def ET (T : Th) (n : Nat) (h : Int) (e : Es) : Prop := ∀ q : Nat, q < n → (q : Int) ≠ h → (ag T kT q).any (used e) = true → e.ob q = 0 → has e q 3 = true
end
section
variable {T : Th} {F : List Int} {n k : Nat} {m : Prop} {G G' : eI} {e e' : Es}
structure EW (e e' : Es) : Prop where
 rf : e'.rf = e.rf
 cb : e'.cb = e.cb
 cd : e'.cd = e.cd
 ob : e'.ob = e.ob
 op : e'.op = e.op
 tk : e'.tk = e.tk
 mt : e'.ms true = e.ms true
 up : ∀ z t, aw t → has e z t = true → has e' z t = true
 td : ∃ l, e'.td = e.td ++ l
end
section
variable {T : Th} {F : List Int} {n k : Nat} {m : Prop} {G G' : eI} {e e' : Es} {K : Int → Int → Bool}
structure E6 (e e' : Es) : Prop where
 tk : e'.tk = e.tk
 up : ∀ z t, aw t → has e z t = true → has e' z t = true
 td : ∃ l, e'.td = e.td ++ l
 by_ : ∀ q, dm (e'.mq q)
 sm : (∀ q, e.mq q < 16) → ∀ q, e'.mq q < 16
 tdd : (∀ z t, aw t → has e z t = true → (z, t) ∈ e.td) → ∀ z t, aw t → has e' z t = true → (z, t) ∈ e'.td
structure A7 (T : Th) (F : List Int) (n : Nat) (K : Int → Int → Bool) (G : eI) (e : Es) : Prop where
 c1 : ∀ r : Nat, r < T.rules.length → aR T kS r = true → e.ms false r = 0 → has e (aj T r) 1 = true
 cf : ∀ q ∈ F, has e q 1 = true
 c2 : ∀ q : Nat, q < n → (q : Int) ∉ F → (∀ r ∈ ag T kS q, e.rf false r = true) → has e q 2 = true
 p3 : P3 T n e
 cb : ∀ t : Nat, t < T.rules.length → bT T t = true → used e t = true → ∀ s ∈ row T.beats t, e.cb s (aj T t) = true
 gr : B7 T G e
 gw : ∀ t : Nat, t < T.rules.length → bT T t = true → e.rf true t = true → ∀ s ∈ row T.beats t, G.w t s = true
 gc : ∀ b (r : Nat), r < T.rules.length → aR T (kL b) r = true → e.rf b r = true → G.c b r = true
 c3 : ∀ q, K q 1 = true → has e q 3 = true
 c4 : ∀ q : Nat, q < n → K q 2 = true → (∀ r ∈ ag T kT q, e.rf true r = true) → has e q 4 = true
 co : ∀ q : Nat, q < n → K q 2 = true → ∀ s : Nat, s < T.rules.length → (q : Int) ∈ ao T (aj T s) → used e s = true → e.cd s q = 0 → has e q 4 = true
 cr : ∀ q : Nat, q < n → K q 2 = true → ∀ f ∈ row T.foes q, K f 1 = true → has e q 4 = true
 q2 : ∀ q, K q 2 = true → has e q 2 = true
 q1 : ∀ q, K q 1 = true → has e q 1 = true
end
section
variable {T : Th} {F : List Int} {n k : Nat} {m : Prop} {G G' : eI} {e e' : Es} {K : Int → Int → Bool}
end
section
variable {T : Th} {F : List Int} {n k : Nat} {m : Prop} {G G' : eI} {e e' : Es} {K : Int → Int → Bool}
end
def cD (K : Int → Int → Bool) (q t : Int) : Int → Int → Bool := fun z u => K z u || decide (z = q ∧ u = t)
section
variable {T : Th} {F : List Int} {n k : Nat} {m : Prop} {G G' : eI} {e e' : Es} {K : Int → Int → Bool}
structure B4 (T : Th) (F : List Int) (K : Int → Int → Bool) (G : eI) : Prop where
 a : ∀ b (r : Nat) x, r < T.rules.length → aR T (kW b) r = true → x ∈ az T r → (G.a b r x = true ↔ K x (tp b) = true)
 n : ∀ b (r : Nat) x, r < T.rules.length → aR T (kW b) r = true → x ∈ az T r → (G.n b r x = true ↔ K x (tn b) = true)
 f : ∀ f p, bI T F f = true → p ∈ ao T f → (G.f f p = true ↔ K f 2 = true)
def zT (e : Es) : Int → Int → Bool := fun z u => decide ((z, u) ∈ e.td.take e.tk)
structure D8 (T : Th) (F : List Int) (n : Nat) (m : List Int) (e : Es) : Prop where
 iv : ∃ G, Iv T F n True G e ∧ A7 T F n (zT e) G e ∧ B4 T F (zT e) G
 sm : ∀ q, e.mq q < 16
 td : ∀ z t, aw t → has e z t = true → (z, t) ∈ e.td
end
section
variable {T : Th} {F : List Int} {n k : Nat} {m : Prop} {m0 : List Int} {G G' : eI} {e e' : Es} {K : Int → Int → Bool}
end
section
variable {T : Th} {F : List Int} {n k : Nat} {m m0 : List Int} {N : Prop} {G G' : eI} {e e' : Es} {K : Int → Int → Bool}
end
end Go.Proofs.YtmlhcncagdfjfaaGreat.Fa
