import Derived.Test.YtmlhcncagdfjfaaGreatFsC
namespace Go.Proofs.YtmlhcncagdfjfaaGreat.Fa
theorem qF {v : Int} (h0 : 0 ≤ v) (h1 : v < 1099511627776) : aD v = v + 1 := by
 unfold aD
 rw [IntKind.wrap_i64]
 omega
theorem zp {v u : Int} (h0 : 0 ≤ v) (h1 : v < 1099511627776) (h2 : 0 ≤ u) (h3 : u < 1099511627776) : m6 v u = v + u := by
 unfold m6
 rw [IntKind.wrap_i64]
 omega
section
variable {T : Th} {F : List Int} {n : Nat} {p : RuleM → Bool}
theorem dJ {k : Nat} {r : RuleM} (h : T.rules[k]? = some r) : aB T p k = p r ∧ ag T k = r.head ∧ au T k = r.body := by
 unfold aB ag au
 rw [Int.toNat_natCast, h]
 exact ⟨rfl, rfl, rfl⟩
theorem kJ {k : Nat} {z : Int} : dF T p z k = (aB T p k && decide (ag T k = z)) := by
 cases h : T.rules[k]? with
 | none => unfold dF aB; rw [Int.toNat_natCast, h]; rfl
 | some r => obtain ⟨e1, e2, -⟩ := dJ (p := p) h; rw [e1, e2]; unfold dF; rw [h]
theorem zd (k r : Nat) : fD T p k r = if r < k ∧ aB T p r = true then ((au T r).length : Int) else 0 := by
 induction k with
 | zero => rw [if_neg (by omega)]; rfl
 | succ k ih =>
  rw [l5]
  by_cases hk : aB T p k = true
  · rw [if_pos hk]
    by_cases e : r = k
    · subst e; rw [ax, if_pos ⟨by omega, hk⟩]
    · rw [aq (by omega), ih]
      by_cases h2 : r < k ∧ aB T p r = true
      · rw [if_pos h2, if_pos ⟨by omega, h2.2⟩]
      · rw [if_neg h2, if_neg fun h3 => h2 ⟨by omega, h3.2⟩]
  · rw [if_neg hk, ih]
    by_cases h2 : r < k ∧ aB T p r = true
    · rw [if_pos h2, if_pos ⟨by omega, h2.2⟩]
    · rw [if_neg h2, if_neg fun h3 => h2 ⟨by have : r ≠ k := (fun e => hk (e ▸ h3.2)); omega, h3.2⟩]
theorem zj (k : Nat) (hk : k ≤ 4096) (q : Int) : opK T p k q = ((bD T p k q).length : Int) := by
 induction k with
 | zero => rfl
 | succ k ih =>
  have ih := ih (by omega)
  rw [jY, dS, kJ]
  have hl : (bD T p k q).length ≤ k := by
   unfold bD
   rw [List.length_map]
   exact Nat.le_trans (List.length_filter_le _ _) (by simp)
  cases hb : aB T p k with
  | false => simp [ih]
  | true =>
   by_cases e : ag T k = q
   · subst e
     rw [if_pos rfl, ax, ih, qF (by omega) (by omega)]
     simp
   · rw [if_pos rfl, aq (fun h => e h.symm), ih]
     simp [e]
theorem zc {f : Int → Int} (k : Nat) (q : Int) : eF T p f k q = if (∃ r : Nat, r < k ∧ aB T p r = true ∧ au T r = [] ∧ ag T r = q) then 0 else f q := by
 induction k with
 | zero => rw [if_neg (by rintro ⟨r, h, _⟩; omega)]; rfl
 | succ k ih =>
  rw [kH]
  by_cases hb : (aB T p k && (au T k).isEmpty) = true
  · rw [if_pos hb]
    simp only [Bool.and_eq_true, List.isEmpty_iff] at hb
    by_cases e : ag T k = q
    · subst e
      rw [ax, if_pos ⟨k, by omega, hb.1, hb.2, rfl⟩]
    · rw [aq (fun h => e h.symm), ih]
      by_cases h2 : ∃ r : Nat, r < k ∧ aB T p r = true ∧ au T r = [] ∧ ag T r = q
      · rw [if_pos h2]
        obtain ⟨r, h3, h4⟩ := h2
        rw [if_pos ⟨r, by omega, h4⟩]
      · rw [if_neg h2, if_neg]
        rintro ⟨r, h3, h4⟩
        by_cases e2 : r = k
        · exact e (e2 ▸ h4.2.2)
        · exact h2 ⟨r, by omega, h4⟩
  · rw [if_neg hb, ih]
    by_cases h2 : ∃ r : Nat, r < k ∧ aB T p r = true ∧ au T r = [] ∧ ag T r = q
    · rw [if_pos h2]
      obtain ⟨r, h3, h4⟩ := h2
      rw [if_pos ⟨r, by omega, h4⟩]
    · rw [if_neg h2, if_neg]
      rintro ⟨r, h3, h4⟩
      by_cases e2 : r = k
      · subst e2
        apply hb
        rw [h4.1, h4.2.1]
        rfl
      · exact h2 ⟨r, by omega, h4⟩
theorem sc {q : Int} : ix T p q = true ↔ ∃ r : Nat, r < T.rules.length ∧ aB T p r = true ∧ au T r = [] ∧ ag T r = q := by
 unfold ix
 rw [List.any_eq_true]
 constructor
 · rintro ⟨x, hx, he⟩
   obtain ⟨a, r, rfl, hr, hp, hh⟩ := bX.1 hx
   obtain ⟨e1, e2, e3⟩ := dJ (p := p) hr
   exact ⟨a, (List.getElem?_eq_some_iff.1 hr).1, by rw [e1]; exact hp, List.isEmpty_iff.1 he, by rw [e2]; exact hh⟩
 · rintro ⟨a, ha, h1, h2, h3⟩
   obtain ⟨r, hr⟩ := am ha
   obtain ⟨e1, e2, e3⟩ := dJ (p := p) hr
   exact ⟨a, bX.2 ⟨a, r, rfl, hr, by rw [← e1]; exact h1, by rw [← e2]; exact h3⟩, by rw [h2]; rfl⟩
theorem xw {l : List Int} {f : Int → Int} {q : Int} : l.foldl (fun f x => ap f x 0) f q = if q ∈ l then 0 else f q := by
 induction l generalizing f with
 | nil => rfl
 | cons x l ih =>
  rw [List.foldl_cons, ih]
  by_cases h : q ∈ l
  · rw [if_pos h, if_pos (List.mem_cons_of_mem _ h)]
  · rw [if_neg h]
    by_cases e : q = x
    · subst e; rw [ax, if_pos List.mem_cons_self]
    · rw [aq e, if_neg (by simp [e, h])]
theorem wu (hp : Pf T F n) (b : Bool) (q : Nat) : (eA F (fH T F n)).op b q = (aU T F).op b q := by
 have hr := hp.ok.rl
 have key : eF T (kL b) (opK T (kL b) T.rules.length) T.rules.length q = if ix T (kL b) q then 0 else ((ae T (kL b) q).length : Int) := by
  rw [zc, zj _ (by omega)]
  by_cases h : ix T (kL b) (q : Int) = true
  · rw [if_pos (sc.1 h), if_pos h]
  · rw [if_neg fun h2 => h (sc.2 h2), if_neg h]; rfl
 show aI (fH T F n).op false (F.foldl (fun f x => ap f x 0) ((fH T F n).op false)) b (q : Int) = if cF T F b q then 0 else ((ae T (kL b) q).length : Int)
 unfold cF
 cases b
 · rw [aC, xw]
   show (if (q : Int) ∈ F then 0 else eF T (kL false) (opK T (kL false) T.rules.length) T.rules.length q) = _
   rw [key]
   by_cases h1 : (q : Int) ∈ F
   · simp [h1]
   · simp [h1]
 · rw [aN (by decide)]
   show eF T (kL true) (opK T (kL true) T.rules.length) T.rules.length q = _
   rw [key]
   simp
theorem xM {h : Int} {l : List Int} (hn : l.Nodup) {d : Int → Int → Int} {s q : Int} : l.foldl (jH h) d s q = if s ∈ l ∧ q = h then aD (d s q) else d s q := by
 induction l generalizing d with
 | nil => simp
 | cons x l ih =>
  obtain ⟨h1, h2⟩ := List.nodup_cons.1 hn
  rw [List.foldl_cons, ih h2]
  have e0 : jH h d x s q = if s = x ∧ q = h then aD (d s q) else d s q := by
   unfold jH
   by_cases e : s = x
   · subst e
     rw [ax]
     by_cases e2 : q = h
     · subst e2; rw [ax, if_pos ⟨rfl, rfl⟩]
     · rw [aq e2, if_neg fun a => e2 a.2]
   · rw [aq e, if_neg fun a => e a.1]
  rw [e0]
  by_cases e : s = x
  · subst e
    rw [if_neg fun a => h1 a.1]
    simp
  · by_cases e2 : s ∈ l ∧ q = h
    · rw [if_pos e2, if_neg fun a => e a.1, if_pos ⟨List.mem_cons_of_mem _ e2.1, e2.2⟩]
    · rw [if_neg e2, if_neg fun a => e a.1, if_neg]
      rintro ⟨a, b⟩
      exact e2 ⟨(List.mem_cons.1 a).resolve_left e, b⟩
theorem ue {k : Int} : aP T k = aB T kT k := rfl
theorem ze (hp : Pf T F n) (k : Nat) (hk : k ≤ T.rules.length) (s : Nat) (q : Int) : fO T k s q = iU (bD T kT k q) fun t => bn T t s := by
 have hr := hp.ok.rl
 induction k with
 | zero => rfl
 | succ k ih =>
  have ih := ih (by omega)
  have hl : (bD T kT k q).length ≤ k := by
   unfold bD
   rw [List.length_map]
   exact Nat.le_trans (List.length_filter_le _ _) (by simp)
  have hc : 0 ≤ iU (bD T kT k q) (fun t => bn T t s) ∧ iU (bD T kT k q) (fun t => bn T t s) ≤ 4096 := by
   unfold iU
   have := List.length_filter_le (fun t => bn T t (s : Int)) (bD T kT k q)
   omega
  rw [mC, dS, kJ, ue]
  cases hb : aB T kT k with
  | false => simp [ih]
  | true =>
   have Aa : (row T.beats (k : Int)).Nodup := by
    have Ab := hp.ok.bl
    obtain ⟨l, hl⟩ := am (l := T.beats) (i := k) (by omega)
    rw [bS (l := l) (by rw [Int.toNat_natCast]; exact hl)]
    exact cX (hp.beat l (List.mem_of_getElem? hl))
   rw [if_pos rfl, xM Aa, ih]
   by_cases e : ag T k = q
   · subst e
     simp only [Bool.true_and, decide_true, if_true, and_true]
     unfold iU at hc ⊢
     rw [List.filter_append, List.length_append]
     by_cases hbt : (s : Int) ∈ row T.beats k
     · rw [if_pos hbt, qF (by omega) (by omega)]
       have : bn T k s = true := by unfold bn; exact decide_eq_true hbt
       simp [this]
     · rw [if_neg hbt]
       have : ¬ bn T k s = true := by unfold bn; simp [hbt]
       simp [this]
   · rw [if_neg fun a => e a.2.symm]
     simp [e]
def cZ (g : Nat → Int) : Nat → Int
 | 0 => 0
 | k + 1 => cZ g k + g k
theorem xx {q : Int} {l : List Int} (hn : l.Nodup) {f : Int → Int} {z : Int} : l.foldl (gB T F q) f z = if z ∈ l then gB T F q f z z else f z := by
 induction l generalizing f with
 | nil => simp
 | cons x l ih =>
  obtain ⟨h1, h2⟩ := List.nodup_cons.1 hn
  rw [List.foldl_cons, ih h2]
  by_cases e : z = x
  · subst e
    rw [if_neg h1, if_pos List.mem_cons_self]
  · have e2 : gB T F q f x z = f z := by unfold gB; rw [aq e]
    by_cases h : z ∈ l
    · rw [if_pos h, if_pos (List.mem_cons_of_mem _ h)]
      unfold gB at e2 ⊢
      rw [ax, ax, e2]
    · rw [if_neg h, if_neg (by simp [e, h]), e2]
def iR (T : Th) (F : List Int) (z : Int) (q : Nat) : Int := if z ∈ aj T q then ((ae T kA q).length : Int) + (if aA T F q then 1 else 0) else 0
theorem zq (hp : Pf T F n) (k : Nat) (hk : k ≤ n) (z : Int) : obK T F k z = cZ (iR T F z) k ∧ 0 ≤ cZ (iR T F z) k ∧ cZ (iR T F z) k ≤ (k : Int) * 4097 := by
 have hr := hp.ok.rl
 have Aa := hp.n4
 induction k with
 | zero => exact ⟨rfl, Int.le_refl _, by show (0 : Int) ≤ _; omega⟩
 | succ k ih =>
  obtain ⟨h1, h2, h3⟩ := ih (by omega)
  have hl : (ae T kA (k : Int)).length ≤ T.rules.length := fT
  have hg : 0 ≤ iR T F z k ∧ iR T F z k ≤ 4097 := by
   unfold iR
   split
   · split <;> omega
   · omega
  refine ⟨?_, by show 0 ≤ _ + _; omega, by show _ + _ ≤ _; omega⟩
  show _ = cZ (iR T F z) k + iR T F z k
  rw [qh, xx (cX (j7 hp (by omega)))]
  unfold iR
  by_cases hm : z ∈ aj T (k : Int)
  · rw [if_pos hm, if_pos hm]
    unfold gB
    rw [ax, h1, zp h2 (by omega) (by omega) (by omega)]
    by_cases hf : aA T F (k : Int) = true
    · rw [if_pos hf, if_pos hf, qF (by omega) (by omega)]
      unfold iR
      omega
    · rw [if_neg hf, if_neg hf]
      unfold iR
      omega
  · rw [if_neg hm, if_neg hm, h1]
    unfold iR
    omega
theorem ik {f g : Nat → Int} {k : Nat} (h : ∀ i, i < k → f i = g i) : cZ f k = cZ g k := by
 induction k with
 | zero => rfl
 | succ k ih => show _ + _ = _ + _; rw [ih fun i hi => h i (by omega), h k (by omega)]
theorem lW {f g : Nat → Int} {k : Nat} : cZ (fun i => f i + g i) k = cZ f k + cZ g k := by
 induction k with
 | zero => rfl
 | succ k ih => show cZ _ k + (f k + g k) = (cZ f k + f k) + (cZ g k + g k); rw [ih]; omega
theorem kR {k : Nat} : cZ (fun _ => 0) k = 0 := by
 induction k with
 | zero => rfl
 | succ k ih => show cZ _ k + 0 = 0; rw [ih]; rfl
theorem rF (a : Nat) (c : Int) (k : Nat) : cZ (fun q => if q = a then c else 0) k = if a < k then c else 0 := by
 induction k with
 | zero => rw [if_neg (by omega)]; rfl
 | succ k ih =>
  show cZ _ k + (if k = a then c else 0) = _
  rw [ih]
  by_cases e : k = a
  · subst e; rw [if_neg (by omega), if_pos rfl, if_pos (by omega)]; omega
  · rw [if_neg e]
    by_cases e2 : a < k
    · rw [if_pos e2, if_pos (by omega)]; omega
    · rw [if_neg e2, if_neg (by omega)]; rfl
theorem yw {l : List Int} (hn : l.Nodup) {P : Int → Bool} (hl : ∀ x ∈ l, 0 ≤ x ∧ x < (n : Int)) : iU l P = cZ (fun q => if (q : Int) ∈ l ∧ P q = true then 1 else 0) n := by
 induction l with
 | nil => simp [iU, kR]
 | cons x l ih =>
  obtain ⟨h1, h2⟩ := List.nodup_cons.1 hn
  have ih := ih h2 fun y hy => hl y (List.mem_cons_of_mem _ hy)
  obtain ⟨x0, x1⟩ := hl x List.mem_cons_self
  obtain ⟨a, rfl⟩ := Int.eq_ofNat_of_zero_le x0
  have e1 : iU ((a : Int) :: l) P = iU l P + if P a = true then 1 else 0 := by
   unfold iU
   by_cases h : P a = true
   · rw [List.filter_cons_of_pos h, if_pos h]; simp
   · rw [List.filter_cons_of_neg h, if_neg h]; simp
  have Aa : ∀ (c : Int) (k : Nat), cZ (fun q => if q = a then c else 0) k = if a < k then c else 0 := rF a
  have e2 : (if P a = true then (1 : Int) else 0) = cZ (fun q => if q = a then (if P a = true then 1 else 0) else 0) n := by rw [Aa]; exact (if_pos (show a < n by omega)).symm
  rw [e1, ih, e2, ← lW]
  refine ik fun q hq => ?_
  by_cases e : q = a
  · subst e
    rw [if_pos rfl, if_neg fun h => h1 h.1]
    by_cases hP : P (q : Int) = true
    · rw [if_pos hP, if_pos ⟨List.mem_cons_self, hP⟩]; rfl
    · rw [if_neg hP, if_neg fun h => hP h.2]; rfl
  · rw [if_neg e]
    have : ((q : Int) ∈ (a : Int) :: l) ↔ (q : Int) ∈ l := by
     rw [List.mem_cons]
     exact ⟨fun h => h.resolve_left (by omega), .inr⟩
    simp only [this]
    omega
theorem yh {l : List Int} (R : Nat) (hh : ∀ a : Nat, a < R → 0 ≤ ag T a ∧ ag T a < (n : Int)) (hR : R ≤ T.rules.length) : (((List.range R).filter fun a : Nat => decide (ag T a ∈ l)).length : Int) = cZ (fun q => if (q : Int) ∈ l then ((bD T kA R q).length : Int) else 0) n := by
 induction R with
 | zero => rw [show (fun q : Nat => if (q : Int) ∈ l then ((bD T kA 0 q).length : Int) else 0) = fun _ => 0 from by funext q; split <;> rfl, kR]; rfl
 | succ R ih =>
  have ih := ih (fun a ha => hh a (by omega)) (by omega)
  obtain ⟨x0, x1⟩ := hh R (by omega)
  obtain ⟨a, ha⟩ := Int.eq_ofNat_of_zero_le x0
  obtain ⟨r, hr⟩ := am (l := T.rules) (i := R) (by omega)
  have hk : aB T kA R = true := (dJ (p := kA) hr).1
  have Aa : ∀ (c : Int) (k : Nat), cZ (fun q => if q = a then c else 0) k = if a < k then c else 0 := rF a
  have e1 : (((List.range (R + 1)).filter fun a : Nat => decide (ag T a ∈ l)).length : Int) = ((List.range R).filter fun a : Nat => decide (ag T a ∈ l)).length + cZ (fun q => if q = a then (if ag T R ∈ l then 1 else 0) else 0) n := by
   rw [Aa, if_pos (show a < n by omega), List.range_succ, List.filter_append, List.length_append]
   by_cases h : ag T R ∈ l
   · simp [h]
   · simp [h]
  rw [e1, ih, ← lW]
  refine ik fun q hq => ?_
  rw [dS, kJ, hk]
  by_cases e : q = a
  · subst e
    rw [ha]
    by_cases hm : (q : Int) ∈ l
    · simp [hm]
    · simp [hm]
  · have : ¬ ag T R = (q : Int) := by omega
    simp [e, this]
theorem uR (hp : Pf T F n) (z : Nat) (hz : z < n) : obK T F n z = (aU T F).ob z := by
 rw [(zq hp n (Nat.le_refl _) z).1]
 show _ = if (ae T kT (z : Int)).isEmpty then 0 else iU (row T.foes z) (aA T F) + ((fw T z).length : Nat)
 by_cases ht : (ae T kT (z : Int)).isEmpty = true
 · rw [if_pos ht]
   have : cZ (iR T F z) n = cZ (fun _ => 0) n := ik fun q hq => by
    unfold iR
    rw [if_neg]
    intro hm
    exact (cq.1 hm).2 (List.isEmpty_iff.1 ht)
   rw [this, kR]
 · rw [if_neg ht]
   have Ab : ∀ x ∈ row T.foes (z : Int), 0 ≤ x ∧ x < (n : Int) := hp.foe z hz
   have h1 := yw (n := n) (P := aA T F) (cX (eG hp hz).1) Ab
   have h2 := yh (T := T) (n := n) (l := row T.foes (z : Int)) T.rules.length (fun a ha => by obtain ⟨x, -, e, x0, x1⟩ := cV hp ha; rw [e]; exact ⟨x0, x1⟩) (Nat.le_refl _)
   have h3 : ((fw T (z : Int)).length : Int) = (((List.range T.rules.length).filter fun a : Nat => decide (ag T a ∈ row T.foes (z : Int))).length : Int) := by
    unfold fw
    rw [List.length_map]
   rw [h1, h3, h2, ← lW]
   refine ik fun q hq => ?_
   unfold iR
   have Aa : (z : Int) ∈ aj T q ↔ (q : Int) ∈ row T.foes z := by
    rw [cq]
    constructor
    · intro h; exact cU hp (by omega) (by omega) h.1
    · intro h; exact ⟨cU hp (by omega) (by omega) h, fun e => ht (by rw [e]; rfl)⟩
   by_cases hm : (q : Int) ∈ row T.foes z
   · rw [if_pos (Aa.2 hm), if_pos hm]
     by_cases hf : aA T F (q : Int) = true
     · rw [if_pos hf, if_pos ⟨hm, hf⟩]
       show ((ae T kA q).length : Int) + 1 = 1 + ((ae T kA q).length : Int)
       omega
     · rw [if_neg hf, if_neg fun h => hf h.2]
       show ((ae T kA q).length : Int) + 0 = 0 + ((ae T kA q).length : Int)
       omega
   · rw [if_neg fun h => hm (Aa.1 h), if_neg fun h => hm h.1, if_neg hm]; rfl
theorem jV (hp : Pf T F n) : ot T F n :=
 ⟨fun b r hr => by
  show fD T (kW b) T.rules.length r = if aB T (kW b) r then ((au T r).length : Int) else 0
  rw [zd]
  by_cases h : aB T (kW b) r = true
  · rw [if_pos ⟨hr, h⟩, if_pos h]
  · rw [if_neg fun a => h a.2, if_neg h], fun b q _ => wu hp b q, fun s _ p _ => ze hp _ (Nat.le_refl _) s p, fun q hq => uR hp q hq⟩
end
end Go.Proofs.YtmlhcncagdfjfaaGreat.Fa
namespace Go.Proofs.YtmlhcncagdfjfaaGreat.Fa
open Go.RowKit
def kO (b : Bool) : Nat := if b then 1 else 0
def gF (m : List Int) (q : Nat) : Nat := kO (hs m q 1) + kO (hs m q 2) + kO (hs m q 3) + kO (hs m q 4)
def dH (m : List Int) : Nat → Nat
 | 0 => 0
 | k + 1 => dH m k + gF m k
theorem nH (b : Bool) : kO b ≤ 1 := by cases b <;> simp [kO]
theorem eW {a b : Bool} (h : a = true → b = true) : kO a ≤ kO b := by cases a <;> cases b <;> simp_all [kO]
theorem xK {m : List Int} {q : Nat} : gF m q ≤ 4 := by
 unfold gF
 have := nH (hs m q 1)
 have := nH (hs m q 2)
 have := nH (hs m q 3)
 have := nH (hs m q 4)
 omega
theorem rG {m : List Int} : ∀ {k : Nat}, dH m k ≤ 4 * k
 | 0 => by simp [dH]
 | k + 1 => by
  have := rG (m := m) (k := k)
  have := xK (m := m) (q := k)
  unfold dH
  omega
theorem oX {m m' : List Int} (h : Le m m') {q : Nat} : gF m q ≤ gF m' q := by
 unfold gF
 have h1 := eW (h q 1 (by omega) aL)
 have h2 := eW (h q 2 (by omega) aM)
 have h3 := eW (h q 3 (by omega) aX)
 have h4 := eW (h q 4 (by omega) bH)
 omega
theorem oU {m m' : List Int} (h : Le m m') : ∀ {k : Nat}, dH m k ≤ dH m' k
 | 0 => Nat.le_refl _
 | k + 1 => by
  have := oU h (k := k)
  have := oX h (q := k)
  unfold dH
  omega
theorem rD {m m' : List Int} (h : Le m m') {q : Nat} (hq : gF m q < gF m' q) : ∀ {k : Nat}, q < k → dH m k < dH m' k
 | 0, hk => by omega
 | k + 1, hk => by
  have h1 := oX h (q := k)
  unfold dH
  by_cases e : q = k
  · subst e
    have := oU h (k := q)
    omega
  · have := rD h hq (k := k) (by omega)
    omega
theorem yG {a b : Bool} (h1 : a = false) (h2 : b = true) : kO a < kO b := by rw [h1, h2]; decide
theorem xW {m m' : List Int} (h : Le m m') {q : Nat} {t : Int} (ht : ar t) (h1 : hs m q t = false) (h2 : hs m' q t = true) : gF m q < gF m' q := by
 unfold gF
 have g1 := eW (h q 1 (by omega) aL)
 have g2 := eW (h q 2 (by omega) aM)
 have g3 := eW (h q 3 (by omega) aX)
 have g4 := eW (h q 4 (by omega) bH)
 have g5 := yG h1 h2
 rcases ht with rfl | rfl | rfl | rfl <;> omega
theorem tA {T : Th} {F m : List Int} (h : ∀ (q : Nat) (t : Int), q < m.length → ar t → (!hs m q t && aZ T F m t q) = false) : bM T F m = m := by
 apply List.ext_getElem?
 intro q
 by_cases hq : q < m.length
 · unfold bM
   rw [List.getElem?_map, List.getElem?_range hq, List.getElem?_eq_getElem hq]
   have e : m.getD q 0 = m[q] := by rw [List.getD_eq_getElem?_getD, List.getElem?_eq_getElem hq]; rfl
   show some (fL T F m q 4 (fL T F m q 3 (fL T F m q 2 (fL T F m q 1 (m.getD q 0))))) = _
   have a : ∀ (t x : Int), ar t → fL T F m q t x = x := fun t x ht => by unfold fL; rw [h q t hq ht]; rfl
   rw [a 1 _ aL, a 2 _ aM, a 3 _ aX, a 4 _ bH, e]
 · rw [List.getElem?_eq_none (by rw [jp]; omega), List.getElem?_eq_none (by omega)]
theorem mP {T : Th} {F m : List Int} (hb : oR m) (hne : bM T F m ≠ m) : dH m m.length < dH (bM T F m) m.length := by
 apply Classical.byContradiction
 intro hn
 apply hne
 refine tA fun q t hq ht => ?_
 cases e : (!hs m q t && aZ T F m t q) with
 | false => rfl
 | true =>
  exfalso
  simp only [Bool.and_eq_true, Bool.not_eq_true'] at e
  refine hn (rD (mu hb) (xW (mu hb) ht e.1 ?_) hq)
  rw [iK hb (by omega) (by omega) ht, e.2]
  simp
theorem so {T : Th} {F : List Int} {n : Nat} (hp : Pf T F n) : ∃ m k, gA T F m k := by
 have key : ∀ (d k : Nat), 4 * n ≤ dH (bF T F k (List.replicate T.lits.toNat 0)) n + d → ∃ m k, gA T F m k := by
  intro d
  induction d with
  | zero =>
   intro k h
   refine ⟨_, k, rfl, ?_⟩
   by_cases hne : bM T F (bF T F k (List.replicate T.lits.toNat 0)) = bF T F k (List.replicate T.lits.toNat 0)
   · exact hne
   · have h2 : dH (bF T F k (List.replicate T.lits.toNat 0)) (bF T F k (List.replicate T.lits.toNat 0)).length < dH (bM T F (bF T F k (List.replicate T.lits.toNat 0))) (bF T F k (List.replicate T.lits.toNat 0)).length := mP hG hne
     rw [show (bF T F k (List.replicate T.lits.toNat 0)).length = n from jG hp] at h2
     have h3 := rG (m := bM T F (bF T F k (List.replicate T.lits.toNat 0))) (k := n)
     omega
  | succ d ih =>
   intro k h
   by_cases hne : bM T F (bF T F k (List.replicate T.lits.toNat 0)) = bF T F k (List.replicate T.lits.toNat 0)
   · exact ⟨_, k, rfl, hne⟩
   · refine ih (k + 1) ?_
     have h2 : dH (bF T F k (List.replicate T.lits.toNat 0)) (bF T F k (List.replicate T.lits.toNat 0)).length < dH (bM T F (bF T F k (List.replicate T.lits.toNat 0))) (bF T F k (List.replicate T.lits.toNat 0)).length := mP hG hne
     rw [show (bF T F k (List.replicate T.lits.toNat 0)).length = n from jG hp] at h2
     rw [g8]
     omega
 exact key (4 * n) 0 (by omega)
end Go.Proofs.YtmlhcncagdfjfaaGreat.Fa
namespace Go.Proofs.YtmlhcncagdfjfaaGreat.Fa
structure cW where
 a : Bool → Int → Int → Bool
 n : Bool → Int → Int → Bool
 c : Bool → Int → Bool
 f : Int → Int → Bool
 r : Int → Int → Bool
 w : Int → Int → Bool
 d : Int → Int → Bool
def lf (l : List Int) (P : Int → Bool) : Int := ((l.filter fun x => !P x).length : Nat)
section
variable {l : List Int} {P Q : Int → Bool} {x : Int}
theorem ic : 0 ≤ lf l P := Int.natCast_nonneg _
theorem kj : lf l P ≤ (l.length : Int) := by unfold lf; have := List.length_filter_le (fun x => !P x) l; omega
theorem dr : lf l P = 0 ↔ ∀ x ∈ l, P x = true := by
 unfold lf
 constructor
 · intro h y hy
   cases hp : P y with
   | true => rfl
   | false =>
    have h2 : y ∈ l.filter fun x => !P x := List.mem_filter.2 ⟨hy, by simp [hp]⟩
    have := List.length_pos_of_mem h2
    omega
 · intro h
   have : (l.filter fun x => !P x) = [] := List.filter_eq_nil_iff.2 fun y hy => by simp [h y hy]
   rw [this]
   rfl
theorem qa (h : ∀ y ∈ l, P y = Q y) : lf l P = lf l Q := by
 unfold lf
 rw [List.filter_congr fun y hy => by rw [h y hy]]
theorem gC (hn : l.Nodup) (hx : x ∈ l) (hp : P x = false) : lf l (ap P x true) = lf l P - 1 := by
 induction l with
 | nil => cases hx
 | cons y l ih =>
  obtain ⟨h1, h2⟩ := List.nodup_cons.1 hn
  by_cases e : x = y
  · subst e
    have h3 : lf l (ap P x true) = lf l P := qa fun z hz => aq fun (e : z = x) => h1 (e ▸ hz)
    unfold lf at h3 ⊢
    rw [List.filter_cons_of_neg (by simp [ax]), List.filter_cons_of_pos (by simp [hp])]
    simp only [List.length_cons]
    omega
  · have hm : x ∈ l := (List.mem_cons.1 hx).resolve_left e
    have h3 := ih h2 hm
    unfold lf at h3 ⊢
    have e2 : ap P x true y = P y := aq fun (e' : y = x) => e e'.symm
    cases hy : P y with
    | true => rw [List.filter_cons_of_neg (by simp [e2, hy]), List.filter_cons_of_neg (by simp [hy])]; exact h3
    | false => rw [List.filter_cons_of_pos (by simp [e2, hy]), List.filter_cons_of_pos (by simp [hy])]; simp only [List.length_cons]; omega
theorem ul (hx : x ∉ l) : lf l (ap P x true) = lf l P := qa fun z hz => aq fun (e : z = x) => hx (e ▸ hz)
end
structure Exa (T : Th) (F : List Int) (n : Nat) (G : cW) (e : Es) : Prop where
 ms : ∀ b (r : Nat), r < T.rules.length → aB T (kW b) r = true → e.ms b r = lf (au T r) (G.a b r)
 rf : ∀ b (r : Nat), r < T.rules.length → e.rf b r = (au T r).any (G.n b r)
 op : ∀ b (q : Nat), q < n → e.op b q = if cF T F b q || (ae T (kL b) q).isEmpty then 0 else max 1 (lf (ae T (kL b) q) (G.c b))
 cd : ∀ s : Nat, s < T.rules.length → ∀ p ∈ aj T (ag T s), e.cd s p = lf ((ae T kT p).filter fun t => bn T t s) fun t => G.w t s
 ob : ∀ p : Nat, p < n → ae T kT p ≠ [] → e.ob p = lf ((row T.foes p).filter (aA T F)) (fun f => G.f f p) + lf (fw T p) fun s => G.r s p
def rq : cW := ⟨fun _ _ _ => false, fun _ _ _ => false, fun _ _ => false, fun _ _ => false, fun _ _ => false, fun _ _ => false, fun _ _ => false⟩
theorem jC {l : List Int} : lf l (fun _ => false) = (l.length : Int) := congrArg (fun k : Nat => (k : Int)) (congrArg List.length (List.filter_eq_self.2 fun _ _ => rfl))
theorem Exa.start {T : Th} {F : List Int} {n : Nat} : Exa T F n rq (aU T F) := by
 refine ⟨fun b r hr hk => ?_, fun b r hr => ?_, fun b q hq => ?_, fun s hs p hp => ?_, fun p hp ht => ?_⟩
 · show (if aB T (kW b) r then ((au T r).length : Int) else 0) = lf _ fun _ => false
   rw [if_pos hk, jC]
 · show false = (au T r).any fun _ => false
   simp
 · show (if cF T F b q then 0 else ((ae T (kL b) q).length : Int)) = if cF T F b q || (ae T (kL b) q).isEmpty then 0 else max 1 (lf (ae T (kL b) q) fun _ => false)
   rw [jC]
   cases cF T F b q with
   | true => rfl
   | false =>
    cases h : ae T (kL b) (q : Int) with
    | nil => rfl
    | cons x l => simp; omega
 · show iU (ae T kT p) (fun t => bn T t s) = lf _ fun _ => false
   rw [jC]
   rfl
 · show (if (ae T kT (p : Int)).isEmpty then 0 else iU (row T.foes p) (aA T F) + ((fw T p).length : Nat)) = lf _ (fun _ => false) + lf _ fun _ => false
   rw [jC, jC, if_neg (by simpa using ht)]
   rfl
def ct (g : Int → Int → Bool) (x y : Int) : Int → Int → Bool := ap g x (ap (g x) y true)
theorem oz {g : Int → Int → Bool} {x y z : Int} : (fun u => ct g x y u z) = if z = y then ap (fun u => g u y) x true else fun u => g u z := by
 funext u
 unfold ct
 by_cases e : u = x
 · subst e
   rw [ax]
   by_cases e2 : z = y
   · subst e2; rw [if_pos rfl, ax, ax]
   · rw [if_neg e2, aq e2]
 · rw [aq e]
   by_cases e2 : z = y
   · subst e2; rw [if_pos rfl, aq e]
   · rw [if_neg e2]
theorem rV {g : Int → Int → Bool} {x y : Int} : ct g x y x = ap (g x) y true := ax
theorem rE {g : Int → Int → Bool} {x y u : Int} (h : u ≠ x) : ct g x y u = g u := aq h
theorem jz {g : Int → Int → Bool} {x y u v : Int} (h : g u v = true) : ct g x y u v = true := by
 unfold ct
 by_cases e : u = x
 · subst e
   rw [ax]
   by_cases e2 : v = y
   · subst e2; rw [ax]
   · rw [aq e2]; exact h
 · rw [aq e]; exact h
theorem bQ {g : Int → Int → Bool} {x y u v : Int} : ct g x y u v = true ↔ g u v = true ∨ (u = x ∧ v = y) := by
 unfold ct
 by_cases e : u = x
 · subst e
   rw [ax]
   by_cases e2 : v = y
   · subst e2; rw [ax]; simp
   · rw [aq e2]; simp [e2]
 · rw [aq e]; simp [e]
theorem lw {v : Int} (h0 : 0 < v) (h1 : v < 1099511627776) : cS v = v - 1 := by
 unfold cS
 rw [IntKind.wrap_i64]
 omega
section
variable {T : Th} {F : List Int} {n : Nat} {G : cW} {e e' : Es}
theorem Exa.same (h : Exa T F n G e) (h1 : e'.ms = e.ms) (h2 : e'.rf = e.rf) (h3 : e'.op = e.op) (h4 : e'.cd = e.cd) (h5 : e'.ob = e.ob) : Exa T F n G e' :=
 ⟨fun b r hr hk => by rw [h1]; exact h.ms b r hr hk, fun b r hr => by rw [h2]; exact h.rf b r hr, fun b q hq => by rw [h3]; exact h.op b q hq, fun s hs p hp => by rw [h4]; exact h.cd s hs p hp, fun p hp ht => by rw [h5]; exact h.ob p hp ht⟩
theorem Exa.tell (h : Exa T F n G e) {q t : Int} : Exa T F n G (tell e q t) := by
 unfold Fa.tell
 split
 · exact h
 · exact h.same rfl rfl rfl rfl rfl
theorem jJ {l : List Int} {P : Int → Bool} {x : Int} (hx : x ∈ l) (hp : P x = false) : 0 < lf l P := by
 have h0 := ic (l := l) (P := P)
 have : lf l P ≠ 0 := fun e => by have := dr.1 e x hx; rw [hp] at this; cases this
 omega
theorem yy (hp : Pf T F n) {r : Nat} (hr : r < T.rules.length) : (au T r).Nodup ∧ (au T r).length ≤ 16 := by
 obtain ⟨x, hx⟩ := am hr
 obtain ⟨-, -, e⟩ := dJ (p := kA) hx
 rw [e]
 have := hp.ok.rule x (List.mem_of_getElem? hx)
 exact ⟨cX (bK (by omega) this.2.2.2.2.2).2, this.2.2.2.2.1⟩
theorem Exa.met (hp : Pf T F n) (h : Exa T F n G e) {b : Bool} {r : Nat} {q : Int} (hr : r < T.rules.length) (hk : aB T (kW b) r = true) (hq : q ∈ au T r) (hn : G.a b r q = false) : Exa T F n { G with a := aI G.a b (ct (G.a b) r q) } (bG e b r) := by
 obtain ⟨Ab, hl⟩ := yy hp hr
 refine ⟨fun c s hs hks => ?_, h.rf, h.op, h.cd, h.ob⟩
 show aI e.ms b (ap (e.ms b) r (cS (e.ms b r))) c s = lf (au T s) (aI G.a b (ct (G.a b) r q) c s)
 by_cases ec : c = b
 · subst ec
   rw [aC, aC]
   by_cases es : s = r
   · subst es
     have h1 := h.ms c s hr hk
     have Aa := jJ hq hn
     have Ac := kj (l := au T s) (P := G.a c s)
     rw [ax, rV, gC Ab hq hn, h1, lw Aa (by omega)]
   · rw [aq (by omega), rE (by omega)]
     exact h.ms c s hs hks
 · rw [aN ec, aN ec]
   exact h.ms c s hs hks
theorem vO {l : List Int} {P : Int → Bool} {x : Int} (hx : x ∈ l) : l.any (ap P x true) = true := List.any_eq_true.2 ⟨x, hx, ax⟩
theorem Exa.ref (h : Exa T F n G e) {b : Bool} {r : Nat} {q : Int} (hr : r < T.rules.length) (hq : q ∈ au T r) : Exa T F n { G with n := aI G.n b (ct (G.n b) r q) } (refE e b r) := by
 have key : ∀ c (s : Nat), s < T.rules.length → (if c = b ∧ s = r then true else e.rf c s) = (au T s).any (aI G.n b (ct (G.n b) r q) c s) := by
  intro c s hs
  by_cases ec : c = b
  · subst ec
    rw [aC]
    by_cases es : s = r
    · subst es
      rw [if_pos ⟨rfl, rfl⟩, rV, vO hq]
    · rw [if_neg fun a => es a.2, rE (by omega)]
      exact h.rf c s hs
  · rw [if_neg fun a => ec a.1, aN ec]
    exact h.rf c s hs
 unfold refE
 by_cases hrf : e.rf b r = true
 · rw [if_pos hrf]
   refine ⟨h.ms, fun c s hs => ?_, h.op, h.cd, h.ob⟩
   rw [← key c s hs]
   by_cases ec : c = b ∧ s = r
   · rw [if_pos ec, ec.1, ec.2]; exact hrf
   · rw [if_neg ec]
 · rw [if_neg hrf]
   refine ⟨h.ms, fun c s hs => ?_, h.op, h.cd, h.ob⟩
   rw [← key c s hs]
   show aI e.rf b (ap (e.rf b) r true) c s = _
   by_cases ec : c = b
   · subst ec
     rw [aC]
     by_cases es : s = r
     · subst es; rw [ax, if_pos ⟨rfl, rfl⟩]
     · rw [aq (by omega), if_neg fun a => es a.2]
   · rw [aN ec, if_neg fun a => ec a.1]
theorem rules_nd {p : RuleM → Bool} {z : Int} : (ae T p z).Nodup := by
 unfold ae bD
 refine List.Pairwise.map _ (fun a b h => ?_) ((List.nodup_range).filter _)
 intro e
 exact h (Int.ofNat.inj e)
theorem Exa.cls (hp : Pf T F n) (h : Exa T F n G e) {b : Bool} {r : Int} {q : Nat} (hq : q < n) (hr : r ∈ ae T (kL b) q) (hn : G.c b r = false) : Exa T F n { G with c := aI G.c b (ap (G.c b) r true) } (aF e b q) := by
 have Aj := hp.ok.rl
 have Ag : (ae T (kL b) (q : Int)).length ≤ T.rules.length := fT
 have Ah := kj (l := ae T (kL b) (q : Int)) (P := G.c b)
 have Af := jJ hr hn
 have Ac := gC rules_nd hr hn
 have h1 := h.op b q hq
 have Ab : (ae T (kL b) (q : Int)).isEmpty = false := by
  cases hh : ae T (kL b) (q : Int) with
  | nil => rw [hh] at hr; cases hr
  | cons _ _ => rfl
 have Aa : ∀ c (z : Nat), z < n → ¬ (c = b ∧ z = q) → lf (ae T (kL c) z) (aI G.c b (ap (G.c b) r true) c) = lf (ae T (kL c) z) (G.c c) := by
  intro c z hz Ae
  by_cases ec : c = b
  · subst ec
    rw [aC]
    refine ul fun hm => Ae ⟨rfl, ?_⟩
    obtain ⟨a, x, e1, hx, -, hh⟩ := bX.1 hm
    obtain ⟨a2, x2, e2, Ad, -, Ai⟩ := bX.1 hr
    have : a = a2 := by omega
    subst this
    rw [hx] at Ad
    cases Ad
    omega
  · rw [aN ec]
 unfold aF
 rw [Ab, Bool.or_false] at h1
 by_cases h2 : 1 < e.op b q
 · rw [if_pos h2]
   refine ⟨h.ms, h.rf, fun c z hz => ?_, h.cd, h.ob⟩
   show aI e.op b (ap (e.op b) q (cS (e.op b q))) c z = if cF T F c z || (ae T (kL c) z).isEmpty then 0 else max 1 (lf (ae T (kL c) z) (aI G.c b (ap (G.c b) r true) c))
   by_cases ec : c = b ∧ z = q
   · obtain ⟨rfl, rfl⟩ := ec
     rw [aC, ax, aC, Ab, Bool.or_false, Ac]
     cases ho : cF T F c z with
     | true => rw [ho] at h1; simp at h1; omega
     | false =>
      rw [ho] at h1
      simp only [Bool.false_eq_true, if_false] at h1 ⊢
      rw [lw (by omega) (by omega)]
      omega
   · rw [Aa c z hz ec]
     have : aI e.op b (ap (e.op b) q (cS (e.op b q))) c z = e.op c z := by
      by_cases ec2 : c = b
      · subst ec2; rw [aC, aq (by intro e3; exact ec ⟨rfl, by omega⟩)]
      · rw [aN ec2]
     rw [this]
     exact h.op c z hz
 · rw [if_neg h2]
   refine ⟨h.ms, h.rf, fun c z hz => ?_, h.cd, h.ob⟩
   show e.op c z = if cF T F c z || (ae T (kL c) z).isEmpty then 0 else max 1 (lf (ae T (kL c) z) (aI G.c b (ap (G.c b) r true) c))
   by_cases ec : c = b ∧ z = q
   · obtain ⟨rfl, rfl⟩ := ec
     rw [aC, Ab, Bool.or_false, Ac, h1]
     rw [h1] at h2
     cases ho : cF T F c z with
     | true => rfl
     | false =>
      rw [ho] at h2
      simp only [Bool.false_eq_true, if_false] at h2 ⊢
      omega
   · rw [Aa c z hz ec]
     exact h.op c z hz
theorem zF {p : Int} : (fw T p).Nodup := by
 unfold fw
 refine List.Pairwise.map _ (fun a b h => ?_) ((List.nodup_range).filter _)
 intro e
 exact h (Int.ofNat.inj e)
theorem ur {p : Int} : (fw T p).length ≤ T.rules.length := by
 unfold fw
 rw [List.length_map]
 exact Nat.le_trans (List.length_filter_le _ _) (by simp)
theorem Exa.clearF (hp : Pf T F n) (h : Exa T F n G e) {f : Int} {p : Nat} (hpn : p < n) (hf : f ∈ row T.foes p) (hfm : aA T F f = true) (hn : G.f f p = false) (ht : ae T kT p ≠ []) : Exa T F n { G with f := ct G.f f p } (ce e p) := by
 have hm : f ∈ (row T.foes p).filter (aA T F) := List.mem_filter.2 ⟨hf, hfm⟩
 have Ab : ((row T.foes (p : Int)).filter (aA T F)).Nodup := (cX (eG hp hpn).1).filter _
 have Af : ((row T.foes (p : Int)).filter (aA T F)).length ≤ 64 := Nat.le_trans (List.length_filter_le _ _) (eG hp hpn).2
 have Aa := gC (P := fun u => G.f u p) Ab hm hn
 have Ac := jJ (P := fun u => G.f u p) hm hn
 have Ad := kj (l := (row T.foes (p : Int)).filter (aA T F)) (P := fun u => G.f u p)
 have Ag := ic (l := fw T p) (P := fun s => G.r s p)
 have Ae := kj (l := fw T p) (P := fun s => G.r s p)
 have Ai := ur (T := T) (p := p)
 have Ah := hp.ok.rl
 refine ⟨h.ms, h.rf, h.op, h.cd, fun z hz htz => ?_⟩
 show ap e.ob p (cS (e.ob p)) z = lf _ (fun u => ct G.f f p u z) + lf _ fun s => G.r s z
 rw [oz]
 by_cases ez : z = p
 · subst ez
   rw [ax, if_pos rfl, Aa, h.ob z hz htz, lw (by omega) (by omega)]
   omega
 · rw [aq (by omega), if_neg (by omega)]
   exact h.ob z hz htz
theorem Exa.clearR (hp : Pf T F n) (h : Exa T F n G e) {s : Int} {p : Nat} (hpn : p < n) (hs : s ∈ fw T p) (hn : G.r s p = false) (ht : ae T kT p ≠ []) : Exa T F n { G with r := ct G.r s p } (ce e p) := by
 have Aa := gC (P := fun u => G.r u p) zF hs hn
 have Ab := jJ (P := fun u => G.r u p) hs hn
 have Af : ((row T.foes (p : Int)).filter (aA T F)).length ≤ 64 := Nat.le_trans (List.length_filter_le _ _) (eG hp hpn).2
 have Ad := kj (l := (row T.foes (p : Int)).filter (aA T F)) (P := fun u => G.f u p)
 have Ac := ic (l := (row T.foes (p : Int)).filter (aA T F)) (P := fun u => G.f u p)
 have Ae := kj (l := fw T p) (P := fun s => G.r s p)
 have Ah := ur (T := T) (p := p)
 have Ag := hp.ok.rl
 refine ⟨h.ms, h.rf, h.op, h.cd, fun z hz htz => ?_⟩
 show ap e.ob p (cS (e.ob p)) z = lf _ (fun u => G.f u z) + lf _ fun u => ct G.r s p u z
 rw [oz]
 by_cases ez : z = p
 · subst ez
   rw [ax, if_pos rfl, Aa, h.ob z hz htz, lw (by omega) (by omega)]
   omega
 · rw [aq (by omega), if_neg (by omega)]
   exact h.ob z hz htz
theorem Exa.withd (hp : Pf T F n) (h : Exa T F n G e) {t : Int} {s p : Nat} (hs : s < T.rules.length) (hpr : (p : Int) ∈ aj T (ag T s)) (ht : t ∈ ae T kT p) (hb : bn T t s = true) (hn : G.w t s = false) : Exa T F n { G with w := ct G.w t s } { e with cd := ap e.cd s (ap (e.cd s) p (cS (e.cd s p))), up := aD e.up } := by
 have hm : t ∈ (ae T kT (p : Int)).filter fun t => bn T t s := List.mem_filter.2 ⟨ht, hb⟩
 have Ad := gC (P := fun u => G.w u s) (rules_nd.filter _) hm hn
 have Ab := jJ (P := fun u => G.w u s) hm hn
 have Af := kj (l := (ae T kT (p : Int)).filter fun t => bn T t s) (P := fun u => G.w u s)
 have Ah : ((ae T kT (p : Int)).filter fun t => bn T t s).length ≤ T.rules.length := Nat.le_trans (List.length_filter_le _ _) fT
 have Ag := hp.ok.rl
 refine ⟨h.ms, h.rf, h.op, fun u hu z hz => ?_, h.ob⟩
 show ap e.cd s (ap (e.cd s) p (cS (e.cd s p))) u z = lf ((ae T kT z).filter fun t => bn T t u) fun v => ct G.w t s v u
 rw [oz]
 by_cases eu : u = s
 · subst eu
   rw [ax, if_pos rfl]
   by_cases ez : z = (p : Int)
   · subst ez
     rw [ax, Ad, h.cd u hu _ hz, lw Ab (by omega)]
   · rw [aq ez, ul, h.cd u hu z hz]
     intro Ac
     obtain ⟨a, x, e1, hx, -, hh⟩ := bX.1 (List.mem_filter.1 Ac).1
     obtain ⟨a2, x2, e2, Aa, -, Ae⟩ := bX.1 ht
     have : a = a2 := by omega
     subst this
     rw [hx] at Aa
     cases Aa
     exact ez (hh.symm.trans Ae)
 · rw [aq (by omega), if_neg (by omega)]
   exact h.cd u hu z hz
def tp (b : Bool) : Int := if b then 3 else 1
def tn (b : Bool) : Int := if b then 4 else 2
def js (n : Nat) (f : Int → Int) : List Int := (List.range n).map fun q : Nat => f q
abbrev Mq (n : Nat) (e : Es) : List Int := js n e.mq
theorem rQ {n : Nat} {f : Int → Int} {q t : Int} (h0 : 0 ≤ q) (h1 : q < (n : Int)) : hs (js n f) q t = hb (f q) t := by
 obtain ⟨a, rfl⟩ := Int.eq_ofNat_of_zero_le h0
 unfold hs js
 rw [List.getD_eq_getElem?_getD, List.getElem?_map, Int.toNat_natCast, List.getElem?_range (by omega)]
 rfl
def dI (l : List (Int × Int)) : Int → Int := l.foldl (fun f x => ap f x.1 (cC (f x.1) x.2)) fun _ => 0
structure oL (T : Th) (F : List Int) (n : Nat) (e : Es) : Prop where
 mq : e.mq = dI e.td
 ok : ∀ (i : Nat) x, e.td[i]? = some x → aZ T F (js n (dI (e.td.take i))) x.2 x.1 = true
theorem ey {T : Th} {F : List Int} {n : Nat} {e e' : Es} (h : oL T F n e) (h1 : e'.mq = e.mq) (h2 : e'.td = e.td) : oL T F n e' := ⟨by rw [h1, h2]; exact h.mq, by rw [h2]; exact h.ok⟩
theorem tz {T : Th} {F : List Int} {n : Nat} : oL T F n (aU T F) := ⟨rfl, fun i x hx => by
 have hx : ([] : List (Int × Int))[i]? = some x := hx
 simp at hx⟩
theorem vk {T : Th} {F : List Int} {n : Nat} {e : Es} (h : oL T F n e) {q t : Int} (hc : aZ T F (Mq n e) t q = true) : oL T F n (tell e q t) := by
 unfold Fa.tell
 split
 · exact h
 · refine ⟨?_, fun i x hx => ?_⟩
   · show ap e.mq q (cC (e.mq q) t) = dI (e.td ++ [(q, t)])
     unfold dI
     rw [List.foldl_append]
     show ap e.mq q (cC (e.mq q) t) = ap (dI e.td) q (cC (dI e.td q) t)
     rw [h.mq]
   · have hx : (e.td ++ [(q, t)])[i]? = some x := hx
     show aZ T F (js n (dI ((e.td ++ [(q, t)]).take i))) x.2 x.1 = true
     by_cases hi : i < e.td.length
     · rw [List.getElem?_append_left hi] at hx
       rw [List.take_append_of_le_length (by omega)]
       exact h.ok i x hx
     · have hl := (List.getElem?_eq_some_iff.1 hx).1
       rw [List.length_append, List.length_singleton] at hl
       have : i = e.td.length := by omega
       subst this
       rw [List.getElem?_append_right (Nat.le_refl _), Nat.sub_self] at hx
       have hx : (q, t) = x := by simpa using hx
       subst hx
       rw [List.take_append_of_le_length (Nat.le_refl _), List.take_length, ← h.mq]
       exact hc
structure Snd (T : Th) (n : Nat) (m : Prop) (G : cW) (e : Es) : Prop where
 a : ∀ b (r : Nat) x, G.a b r x = true → has e x (tp b) = true
 nn : ∀ b (r : Nat) x, G.n b r x = true → has e x (tn b) = true
 c : ∀ b (r : Nat), G.c b r = true → e.rf b r = true
 f : ∀ f p, G.f f p = true → has e f 2 = true
 r : ∀ (s : Nat) p, G.r s p = true → e.rf true s = true ∨ e.cb s p = true
 w : ∀ (t : Nat) s, G.w t s = true → e.rf true t = true
 cb : ∀ (s : Nat) p, e.cb s p = true → ∃ t : Nat, (t : Int) ∈ ae T kT p ∧ bn T t s = true ∧ ∀ x ∈ au T t, G.a true t x = true
theorem Snd.start {m : Prop} : Snd T n m rq (aU T F) := ⟨fun b r x h => (by cases h), fun b r x h => (by cases h), fun b r h => (by cases h), fun f p h => (by cases h), fun s p h => (by cases h), fun t s h => (by cases h), fun s p h => (by cases h)⟩
theorem Snd.mm {m : Prop} (_ : Snd T n m G e) (q t : Int) (h0 : 0 ≤ q) (h1 : q < (n : Int)) (_ : ar t) (hz : has e q t = true) : hs (Mq n e) q t = true := by
 rw [rQ h0 h1]
 exact hz
section
variable {m : Prop}
theorem gS (hp : Pf T F n) {r : Nat} (hr : r < T.rules.length) {x : Int} (hx : x ∈ au T r) : 0 ≤ x ∧ x < (n : Int) := by
 obtain ⟨y, hy⟩ := am hr
 obtain ⟨-, -, e⟩ := dJ (p := kA) hy
 rw [e] at hx
 exact hp.body y (List.mem_of_getElem? hy) x hx
theorem Snd.whole (hp : Pf T F n) (h : Snd T n m G e) {b : Bool} {r : Nat} (hr : r < T.rules.length) (ha : ∀ x ∈ au T r, G.a b r x = true) : cO T (Mq n e) r (tp b) = true := by
 unfold cO
 rw [List.all_eq_true]
 intro x hx
 obtain ⟨x0, x1⟩ := gS hp hr hx
 exact h.mm x (tp b) x0 x1 (by cases b; exact aL; exact aX) (h.a b r x (ha x hx))
theorem gH {r : Nat} (hr : r < T.rules.length) : aB T (kW true) r = true := by
 obtain ⟨y, hy⟩ := am hr
 exact (dJ (p := kA) hy).1
theorem Exa.used (h : Exa T F n G e) {r : Nat} (hr : r < T.rules.length) : used e r = true ↔ ∀ x ∈ au T r, G.a true r x = true := by
 unfold Fa.used
 rw [decide_eq_true_iff, h.ms true r hr (gH hr), dr]
theorem Snd.part (hp : Pf T F n) (hx : Exa T F n G e) (h : Snd T n m G e) {b : Bool} {r : Nat} (hr : r < T.rules.length) (hf : e.rf b r = true) : dT T (Mq n e) r (tn b) = true := by
 rw [hx.rf b r hr] at hf
 obtain ⟨x, Aa, hg⟩ := List.any_eq_true.1 hf
 unfold dT
 rw [List.any_eq_true]
 obtain ⟨x0, x1⟩ := gS hp hr Aa
 exact ⟨x, Aa, h.mm x (tn b) x0 x1 (by cases b; exact aM; exact bH) (h.nn b r x hg)⟩
theorem Snd.atk (hp : Pf T F n) (hx : Exa T F n G e) (h : Snd T n m G e) {s : Nat} {p : Int} (hs : s < T.rules.length) (hr : G.r s p = true) : oA T (Mq n e) p s = true := by
 unfold oA
 rcases h.r s p hr with hf | hc
 · have := h.part hp hx hs hf
   rw [show tn true = 4 from rfl] at this
   rw [this]
   rfl
 · obtain ⟨t, ht, hb, ha⟩ := h.cb s p hc
   have Aa : t < T.rules.length := by obtain ⟨a, x, e1, hx, -⟩ := bX.1 ht; have := (List.getElem?_eq_some_iff.1 hx).1; omega
   have hw := h.whole hp Aa ha
   rw [Bool.or_eq_true]
   refine .inr (List.any_eq_true.2 ⟨t, ht, ?_⟩)
   rw [hb, show (3 : Int) = tp true from rfl, hw]
   rfl
end
end
section
variable {T : Th} {F : List Int} {n k : Nat} {m : Prop} {G : cW} {e : Es}
theorem bI {p : RuleM → Bool} {z r : Int} (h : r ∈ ae T p z) : ∃ a : Nat, r = (a : Int) ∧ a < T.rules.length ∧ ag T a = z ∧ aB T p a = true := by
 obtain ⟨a, x, e1, hx, hk, hh⟩ := bX.1 h
 obtain ⟨k1, k2, -⟩ := dJ (p := p) hx
 exact ⟨a, e1, (List.getElem?_eq_some_iff.1 hx).1, by rw [k2]; exact hh, by rw [k1]; exact hk⟩
theorem kg (hby : ∀ q, aQ (e.mq q)) {q t : Int} (ht : ar t) {z u : Int} (hu : ar u) (hz : has e z u = true) : has (tell e q t) z u = true := by
 unfold Fa.tell
 split
 · exact hz
 · show hb (ap e.mq q (cC (e.mq q) t) z) u = true
   by_cases ez : z = q
   · subst ez
     have hz : hb (e.mq z) u = true := hz
     rw [ax, (dv (hby z) ht hu).1, hz]
     rfl
   · rw [aq ez]; exact hz
theorem sZ {q t : Int} : (tell e q t).rf = e.rf ∧ (tell e q t).cb = e.cb := by unfold Fa.tell; split <;> exact ⟨rfl, rfl⟩
theorem Snd.tell (h : Snd T n m G e) (hby : ∀ q, aQ (e.mq q)) {q t : Int} (ht : ar t) : Snd T n m G (tell e q t) := by
 have Aa : ∀ b, ar (tp b) := fun b => by cases b; exact aL; exact aX
 have Ab : ∀ b, ar (tn b) := fun b => by cases b; exact aM; exact bH
 obtain ⟨hr, hc⟩ := sZ (e := e) (q := q) (t := t)
 refine ⟨fun b r x hx => kg hby ht (Aa b) (h.a b r x hx), fun b r x hx => kg hby ht (Ab b) (h.nn b r x hx), fun b r hx => by rw [hr]; exact h.c b r hx, fun f p hf => kg hby ht aM (h.f f p hf), fun s p hx => by rw [hr, hc]; exact h.r s p hx, fun t s hx => by rw [hr]; exact h.w t s hx, fun s p hx => ?_⟩
 rw [hc] at hx
 exact h.cb s p hx
theorem zT (hp : Pf T F n) (_ : m) (hx : Exa T F n G e) (h : Snd T n m G e) {r : Nat} (hr : r < T.rules.length) (hk : aB T kS r = true) (h0 : e.ms false r = 0) : aZ T F (Mq n e) 1 (ag T r) = true := by
 obtain ⟨x, Aa, hh, -, -⟩ := cV hp hr
 rw [hx.ms false r hr hk, dr] at h0
 refine cond1.trans (fN.2 (.inr ⟨r, ?_, h.whole hp (b := false) hr h0⟩))
 exact bX.2 ⟨r, x, rfl, Aa, by rw [← (dJ (p := kS) Aa).1]; exact hk, hh.symm⟩
theorem zW (hp : Pf T F n) (_ : m) (hx : Exa T F n G e) (h : Snd T n m G e) {q : Nat} (_ : q < n) (hF : (q : Int) ∉ F) (hc : ∀ r ∈ ae T kS q, e.rf false r = true) : aZ T F (Mq n e) 2 q = true := by
 refine cond2.trans (gp.2 ⟨hF, fun r hr => ?_⟩)
 obtain ⟨a, rfl, ha, -, -⟩ := bI hr
 exact h.part hp hx (b := false) ha (hc a hr)
theorem yK (hp : Pf T F n) (hs_ : m) (hnf : m → ∀ q : Nat, q < n → aA T F q = false → has e q 2 = true) (hx : Exa T F n G e) (h : Snd T n m G e) {q : Nat} (hq : q < n) (ho : e.ob q = 0) (hu : (ae T kT q).any (used e) = true) : aZ T F (Mq n e) 3 q = true := by
 obtain ⟨r, hr, Ab⟩ := List.any_eq_true.1 hu
 obtain ⟨a, rfl, ha, -, -⟩ := bI hr
 have ht : ae T kT (q : Int) ≠ [] := fun e => by rw [e] at hr; cases hr
 rw [hx.ob q hq ht] at ho
 have n1 := ic (l := (row T.foes (q : Int)).filter (aA T F)) (P := fun f => G.f f q)
 have n2 := ic (l := fw T q) (P := fun s => G.r s q)
 have z1 := dr.1 (show lf ((row T.foes (q : Int)).filter (aA T F)) (fun f => G.f f q) = 0 by omega)
 have z2 := dr.1 (show lf (fw T q) (fun s => G.r s q) = 0 by omega)
 refine cond3.trans (eV.2 (.inr ⟨⟨a, hr, h.whole hp (b := true) ha ((hx.used ha).1 Ab)⟩, fun f hf => ?_, fun f hf s hsf => ?_⟩))
 · obtain ⟨f0, f1⟩ := hp.foe q hq f hf
   cases hfm : aA T F f with
   | true => exact h.mm f 2 f0 f1 aM (h.f f q (z1 f (List.mem_filter.2 ⟨hf, hfm⟩)))
   | false =>
    obtain ⟨z, rfl⟩ := Int.eq_ofNat_of_zero_le f0
    exact h.mm z 2 f0 f1 aM (hnf hs_ z (by omega) hfm)
 · obtain ⟨b, rfl, hb, Aa, -⟩ := bI hsf
   refine h.atk hp hx hb (z2 b ?_)
   unfold fw
   refine List.mem_map.2 ⟨b, List.mem_filter.2 ⟨List.mem_range.2 hb, ?_⟩, rfl⟩
   rw [Aa]
   exact decide_eq_true hf
theorem qf (_ : Pf T F n) (_ : m) {q : Nat} (_ : q < n) (h2 : hs (Mq n e) q 2 = true) (hc : (∀ r ∈ ae T kT q, dT T (Mq n e) r 4 = true) ∨ (∃ f ∈ row T.foes q, hs (Mq n e) f 1 = true) ∨ ∃ f ∈ row T.foes q, ∃ s ∈ ae T kA f, oC T (Mq n e) q s = true) : aZ T F (Mq n e) 4 q = true :=
 cond4.trans (iD.2 ⟨h2, hc⟩)
theorem xB (hp : Pf T F n) (hx : Exa T F n G e) (h : Snd T n m G e) {s : Nat} {p : Int} (hs_ : s < T.rules.length) (hpr : p ∈ aj T (ag T s)) (hu : used e s = true) (hc : e.cd s p = 0) : oC T (Mq n e) p s = true := by
 refine kr.2 ⟨h.whole hp (b := true) hs_ ((hx.used hs_).1 hu), fun t ht => ?_⟩
 rw [hx.cd s hs_ p hpr, dr] at hc
 cases hb : bn T t s with
 | false => exact .inr rfl
 | true =>
  obtain ⟨a, rfl, ha, -, -⟩ := bI ht
  exact .inl (h.part hp hx (b := true) ha (h.w a s (hc a (List.mem_filter.2 ⟨ht, hb⟩))))
end
structure Iv (T : Th) (F : List Int) (n : Nat) (m : Prop) (G : cW) (e : Es) : Prop where
 x : Exa T F n G e
 s : Snd T n m G e
 y : ∀ q, aQ (e.mq q)
 o : oL T F n e
 nf : m → ∀ q : Nat, q < n → aA T F q = false → has e q 2 = true
section
variable {T : Th} {F : List Int} {n k : Nat} {m : Prop} {G : cW} {e : Es}
theorem Iv.start : Iv T F n False rq (aU T F) := ⟨Exa.start, Snd.start, fun _ => (show aQ 0 by unfold aQ; omega), tz, fun h => h.elim⟩
theorem xn (h : ∀ q, aQ (e.mq q)) {q t : Int} (ht : ar t) : ∀ z, aQ ((tell e q t).mq z) := by
 intro z
 unfold Fa.tell
 split
 · exact h z
 · show aQ (ap e.mq q (cC (e.mq q) t) z)
   by_cases ez : z = q
   · subst ez; rw [ax]; exact (dv (h z) ht ht).2.1
   · rw [aq ez]; exact h z
theorem Iv.tell (h : Iv T F n m G e) {q t : Int} (ht : ar t) (hm : aZ T F (Mq n e) t q = true) : Iv T F n m G (tell e q t) := ⟨h.x.tell, h.s.tell h.y ht, xn h.y ht, vk h.o hm, fun a z hz hf => kg h.y ht aM (h.nf a z hz hf)⟩
theorem Iv.lose (h : Iv T F n m G e) {q : Int} (hm : has e q 2 = true → aZ T F (Mq n e) 4 q = true) : Iv T F n m G (aJ e q) := by
 unfold aJ
 split
 · rename_i h2; exact h.tell bH (hm h2)
 · exact h
theorem Iv.met (hp : Pf T F n) (h : Iv T F n m G e) {b : Bool} {r : Nat} {q : Int} (hr : r < T.rules.length) (hk : aB T (kW b) r = true) (hq : q ∈ au T r) (hn : G.a b r q = false) (hh : has e q (tp b) = true) : Iv T F n m { G with a := aI G.a b (ct (G.a b) r q) } (bG e b r) := by
 have le : ∀ c (s : Nat) x, G.a c s x = true → aI G.a b (ct (G.a b) r q) c s x = true := fun c s x hx => by
  by_cases ec : c = b
  · subst ec; rw [aC]; exact jz hx
  · rw [aN ec]; exact hx
 refine ⟨h.x.met hp hr hk hq hn, ⟨fun c s x hx => ?_, h.s.nn, h.s.c, h.s.f, h.s.r, h.s.w, fun s p hc => ?_⟩, h.y, ey h.o rfl rfl, h.nf⟩
 · have hx : aI G.a b (ct (G.a b) r q) c s x = true := hx
   show has e x (tp c) = true
   by_cases ec : c = b
   · subst ec
     rw [aC] at hx
     rcases bQ.1 hx with h1 | ⟨-, rfl⟩
     · exact h.s.a c s x h1
     · exact hh
   · rw [aN ec] at hx
     exact h.s.a c s x hx
 · obtain ⟨t, h1, h2, h3⟩ := h.s.cb s p hc
   exact ⟨t, h1, h2, fun x hx => le true t x (h3 x hx)⟩
theorem nR {b c : Bool} {r : Int} {s : Int} (h : e.rf c s = true) : (refE e b r).rf c s = true := by
 unfold refE
 split
 · exact h
 · show aI e.rf b (ap (e.rf b) r true) c s = true
   by_cases ec : c = b
   · subst ec
     rw [aC]
     by_cases es : s = r
     · subst es; rw [ax]
     · rw [aq es]; exact h
   · rw [aN ec]; exact h
theorem sk {b : Bool} {r : Int} : (refE e b r).rf b r = true := by
 unfold refE
 split
 · rename_i h; exact h
 · show aI e.rf b (ap (e.rf b) r true) b r = true
   rw [aC, ax]
theorem jI {b : Bool} {r : Int} {q t : Int} : has (refE e b r) q t = has e q t := by unfold refE; split <;> rfl
theorem uw {b : Bool} {r : Int} : (refE e b r).cb = e.cb := by unfold refE; split <;> rfl
theorem Iv.ref (h : Iv T F n m G e) {b : Bool} {r : Nat} {q : Int} (hr : r < T.rules.length) (hq : q ∈ au T r) (hh : has e q (tn b) = true) : Iv T F n m { G with n := aI G.n b (ct (G.n b) r q) } (refE e b r) := by
 refine ⟨h.x.ref hr hq, ⟨fun c s x hx => by rw [jI]; exact h.s.a c s x hx, fun c s x hx => ?_, fun c s hc => nR (h.s.c c s hc), fun f p hf => by rw [jI]; exact h.s.f f p hf, fun s p hg => ?_, fun t s hg => nR (h.s.w t s hg), fun s p hc => h.s.cb s p (by rw [uw] at hc; exact hc)⟩, fun z => by unfold refE; split; exact h.y z; exact h.y z, ey h.o (by unfold refE; split <;> rfl) (by unfold refE; split <;> rfl), fun a z hz hf => by rw [jI]; exact h.nf a z hz hf⟩
 · rw [jI]
   have hx : aI G.n b (ct (G.n b) r q) c s x = true := hx
   by_cases ec : c = b
   · subst ec
     rw [aC] at hx
     rcases bQ.1 hx with h1 | ⟨-, rfl⟩
     · exact h.s.nn c s x h1
     · exact hh
   · rw [aN ec] at hx
     exact h.s.nn c s x hx
 · rcases h.s.r s p hg with h1 | h1
   · exact .inl (nR h1)
   · exact .inr (by rw [uw]; exact h1)
theorem Iv.cls (hp : Pf T F n) (h : Iv T F n m G e) {b : Bool} {r q : Nat} (hq : q < n) (hr : (r : Int) ∈ ae T (kL b) q) (hn : G.c b r = false) (hf : e.rf b r = true) : Iv T F n m { G with c := aI G.c b (ap (G.c b) r true) } (aF e b q) := by
 have he : (aF e b q).rf = e.rf ∧ (aF e b q).cb = e.cb ∧ (aF e b q).mq = e.mq := by unfold aF; split <;> exact ⟨rfl, rfl, rfl⟩
 have Aa : ∀ z t, has (aF e b q) z t = has e z t := fun z t => by unfold has; rw [he.2.2]
 refine ⟨h.x.cls hp hq hr hn, ⟨fun c s x hx => by rw [Aa]; exact h.s.a c s x hx, fun c s x hx => by rw [Aa]; exact h.s.nn c s x hx, fun c s hc => ?_, fun f p hf => by rw [Aa]; exact h.s.f f p hf, fun s p hg => by rw [he.1, he.2.1]; exact h.s.r s p hg, fun t s hg => by rw [he.1]; exact h.s.w t s hg, fun s p hc => h.s.cb s p (by rw [he.2.1] at hc; exact hc)⟩, fun z => by rw [he.2.2]; exact h.y z, ey h.o he.2.2 (by unfold aF; split <;> rfl), fun a z hz hf => by rw [Aa]; exact h.nf a z hz hf⟩
 rw [he.1]
 have hc : aI G.c b (ap (G.c b) r true) c s = true := hc
 by_cases ec : c = b
 · subst ec
   rw [aC] at hc
   by_cases es : (s : Int) = r
   · rw [es]; exact hf
   · rw [aq es] at hc; exact h.s.c c s hc
 · rw [aN ec] at hc
   exact h.s.c c s hc
theorem Iv.clearF (hp : Pf T F n) (h : Iv T F n m G e) {f : Int} {p : Nat} (hpn : p < n) (hf : f ∈ row T.foes p) (hfm : aA T F f = true) (hn : G.f f p = false) (ht : ae T kT p ≠ []) (hh : has e f 2 = true) : Iv T F n m { G with f := ct G.f f p } (ce e p) :=
 ⟨h.x.clearF hp hpn hf hfm hn ht, ⟨h.s.a, h.s.nn, h.s.c, fun g z hg => by
  rcases bQ.1 hg with h1 | ⟨rfl, -⟩
  · exact h.s.f g z h1
  · exact hh, h.s.r, h.s.w, h.s.cb⟩, h.y, ey h.o rfl rfl, h.nf⟩
theorem Iv.clearR (hp : Pf T F n) (h : Iv T F n m G e) {s p : Nat} (hpn : p < n) (hs_ : (s : Int) ∈ fw T p) (hn : G.r s p = false) (ht : ae T kT p ≠ []) (hh : e.rf true s = true ∨ e.cb s p = true) : Iv T F n m { G with r := ct G.r s p } (ce e p) :=
 ⟨h.x.clearR hp hpn hs_ hn ht, ⟨h.s.a, h.s.nn, h.s.c, h.s.f, fun g z hg => by
  rcases bQ.1 hg with h1 | ⟨h1, h2⟩
  · exact h.s.r g z h1
  · rw [h1, h2]; exact hh, h.s.w, h.s.cb⟩, h.y, ey h.o rfl rfl, h.nf⟩
theorem Iv.withd (hp : Pf T F n) (h : Iv T F n m G e) {t s p : Nat} (hs_ : s < T.rules.length) (hpr : (p : Int) ∈ aj T (ag T s)) (ht : (t : Int) ∈ ae T kT p) (hb : bn T t s = true) (hn : G.w t s = false) (hf : e.rf true t = true) : Iv T F n m { G with w := ct G.w t s } { e with cd := ap e.cd s (ap (e.cd s) p (cS (e.cd s p))), up := aD e.up } :=
 ⟨h.x.withd hp hs_ hpr ht hb hn, ⟨h.s.a, h.s.nn, h.s.c, h.s.f, h.s.r, fun g z hg => by
  rcases bQ.1 hg with h1 | ⟨h1, -⟩
  · exact h.s.w g z h1
  · show e.rf true g = true
    rw [h1]; exact hf, h.s.cb⟩, h.y, ey h.o rfl rfl, h.nf⟩
theorem Iv.beat (h : Iv T F n m G e) {t s : Nat} {p : Int} (ht : (t : Int) ∈ ae T kT p) (hb : bn T t s = true) (ha : ∀ x ∈ au T t, G.a true t x = true) : Iv T F n m G { e with cb := ap e.cb s (ap (e.cb s) p true), up := aD e.up } := by
 have key : ∀ (u : Nat) (z : Int), ap e.cb s (ap (e.cb s) p true) u z = true ↔ e.cb u z = true ∨ ((u : Int) = s ∧ z = p) := fun u z => bQ (g := e.cb) (x := s) (y := p)
 refine ⟨h.x.same rfl rfl rfl rfl rfl, ⟨h.s.a, h.s.nn, h.s.c, h.s.f, fun u z hg => ?_, h.s.w, fun u z hc => ?_⟩, h.y, ey h.o rfl rfl, h.nf⟩
 · rcases h.s.r u z hg with h1 | h1
   · exact .inl h1
   · exact .inr ((key u z).2 (.inl h1))
 · rcases (key u z).1 hc with h1 | ⟨h1, h2⟩
   · exact h.s.cb u z h1
   · rw [h1, h2]
     exact ⟨t, ht, hb, ha⟩
end
section
variable {T : Th} {F : List Int} {n k : Nat} {m : Prop} {G G' : cW} {e e' : Es}
theorem kI (hp : Pf T F n) {r : Nat} (hr : r < T.rules.length) {s : Int} (hs_ : s ∈ row T.beats r) : ∃ a : Nat, s = (a : Int) ∧ a < T.rules.length ∧ ag T a ∈ row T.foes (ag T r) := by
 have Ad := hp.ok.bl
 obtain ⟨l, hl⟩ := am (l := T.beats) (i := r) (by omega)
 rw [bS (l := l) (by rw [Int.toNat_natCast]; exact hl)] at hs_
 obtain ⟨Ac, Aa⟩ := hp.ok.beat r l hl
 obtain ⟨Ab, -⟩ := bK (by omega) Ac
 obtain ⟨s0, s1⟩ := Ab s hs_
 obtain ⟨a, rfl⟩ := Int.eq_ofNat_of_zero_le (show 0 ≤ s by omega)
 exact ⟨a, rfl, by omega, Aa _ hs_⟩
theorem tL {p : Int} {a : Nat} (ha : a < T.rules.length) (h : ag T a ∈ row T.foes p) : (a : Int) ∈ fw T p := by
 unfold fw
 exact List.mem_map.2 ⟨a, List.mem_filter.2 ⟨List.mem_range.2 ha, decide_eq_true h⟩, rfl⟩
theorem fe (hp : Pf T F n) {r : Nat} (hr : r < T.rules.length) : ∃ h : Nat, ag T r = (h : Int) ∧ h < n := by
 obtain ⟨x, -, e1, x0, x1⟩ := cV hp hr
 obtain ⟨h, hh⟩ := Int.eq_ofNat_of_zero_le x0
 exact ⟨h, by rw [e1, hh], by omega⟩
structure Alk (e e' : Es) : Prop where
 ms : e'.ms = e.ms
 rf : e'.rf = e.rf
 op : e'.op = e.op
 cd : e'.cd = e.cd
 mq : e'.mq = e.mq
 td : e'.td = e.td
 tk : e'.tk = e.tk
theorem Alk.refl : Alk e e := ⟨rfl, rfl, rfl, rfl, rfl, rfl, rfl⟩
theorem Alk.trans {e2 : Es} (h : Alk e e') (h2 : Alk e' e2) : Alk e e2 := ⟨h2.ms.trans h.ms, h2.rf.trans h.rf, h2.op.trans h.op, h2.cd.trans h.cd, h2.mq.trans h.mq, h2.td.trans h.td, h2.tk.trans h.tk⟩
structure Agh (G G' : cW) : Prop where
 a : G'.a = G.a
 n : G'.n = G.n
 c : G'.c = G.c
 f : G'.f = G.f
 w : G'.w = G.w
theorem Agh.refl : Agh G G := ⟨rfl, rfl, rfl, rfl, rfl⟩
theorem Agh.trans {G2 : cW} (h : Agh G G') (h2 : Agh G' G2) : Agh G G2 := ⟨h2.a.trans h.a, h2.n.trans h.n, h2.c.trans h.c, h2.f.trans h.f, h2.w.trans h.w⟩
def li (T : Th) (G : cW) (e : Es) : Prop := ∀ s : Nat, s < T.rules.length → ∀ p ∈ aj T (ag T s), e.rf true s = true ∨ e.cb s p = true → G.r s p = true
theorem Iv.beat1 (hp : Pf T F n) (h : Iv T F n m G e) {r s q : Nat} (hq : q < n) (hs_ : s < T.rules.length) (hr : (r : Int) ∈ ae T kT q) (hf : ag T s ∈ row T.foes q) (hb : bn T r s = true) (ha : ∀ x ∈ au T r, G.a true r x = true) : ∃ G', Iv T F n m G' (beat1 q e s) ∧ Agh G G' ∧ Alk e (beat1 q e s) ∧ (beat1 q e s).cb s q = true ∧ (∀ u z, e.cb u z = true → (beat1 q e s).cb u z = true) ∧ (li T G e → li T G' (beat1 q e s)) := by
 have ht : ae T kT (q : Int) ≠ [] := fun e0 => by rw [e0] at hr; cases hr
 have mono : ∀ u z, e.cb u z = true → ap e.cb s (ap (e.cb s) q true) u z = true := fun u z hz => jz (g := e.cb) hz
 have Aa : ap e.cb s (ap (e.cb s) q true) s q = true := by rw [ax, ax]
 unfold Fa.beat1
 by_cases hc : e.cb s q = true
 · rw [if_pos hc]
   exact ⟨G, h, Agh.refl, Alk.refl, hc, fun u z hz => hz, fun hg => hg⟩
 · rw [if_neg hc]
   have h1 := h.beat hr hb ha
   by_cases hd : e.rf true s = true
   · rw [if_pos (show dropped { e with cb := ap e.cb s (ap (e.cb s) q true), up := aD e.up } s = true from hd)]
     refine ⟨G, h1, Agh.refl, ⟨rfl, rfl, rfl, rfl, rfl, rfl, rfl⟩, Aa, mono, fun hg u hu z hz ho => ?_⟩
     rcases ho with ho | ho
     · exact hg u hu z hz (.inl ho)
     · rcases (bQ (g := e.cb) (x := s) (y := q)).1 ho with h2 | ⟨h2, -⟩
       · exact hg u hu z hz (.inr h2)
       · exact hg u hu z hz (.inl (by rw [h2]; exact hd))
   · rw [if_neg (show ¬ dropped { e with cb := ap e.cb s (ap (e.cb s) q true), up := aD e.up } s = true from hd)]
     have hn : G.r s q = false := by
      cases hg : G.r s q with
      | false => rfl
      | true =>
       rcases h.s.r s q hg with h2 | h2
       · exact absurd h2 hd
       · exact absurd h2 hc
     refine ⟨_, h1.clearR hp hq (tL hs_ hf) hn ht (.inr Aa), ⟨rfl, rfl, rfl, rfl, rfl⟩, ⟨rfl, rfl, rfl, rfl, rfl, rfl, rfl⟩, Aa, mono, fun hg u hu z hz ho => ?_⟩
     show ct G.r s q u z = true
     rcases ho with ho | ho
     · exact jz (hg u hu z hz (.inl ho))
     · rcases (bQ (g := e.cb) (x := s) (y := q)).1 ho with h2 | h2
       · exact jz (hg u hu z hz (.inr h2))
       · exact bQ.2 (.inr h2)
theorem Iv.beats (hp : Pf T F n) {r q : Nat} (hq : q < n) (hr : (r : Int) ∈ ae T kT q) : ∀ (l : List Int) {G : cW} {e : Es}, Iv T F n m G e → (∀ x ∈ au T r, G.a true r x = true) → (∀ s ∈ l, ∃ a : Nat, s = (a : Int) ∧ a < T.rules.length ∧ ag T a ∈ row T.foes q ∧ bn T r a = true) →
    ∃ G', Iv T F n m G' (l.foldl (Fa.beat1 q) e) ∧ Agh G G' ∧ Alk e (l.foldl (Fa.beat1 q) e) ∧ (∀ s ∈ l, (l.foldl (Fa.beat1 q) e).cb s q = true) ∧ (∀ u z, e.cb u z = true → (l.foldl (Fa.beat1 q) e).cb u z = true) ∧ (li T G e → li T G' (l.foldl (Fa.beat1 q) e)) := by
 intro l
 induction l with
 | nil => intro G e h _ _; exact ⟨G, h, Agh.refl, Alk.refl, fun s hs => (by cases hs), fun u z hz => hz, fun hg => hg⟩
 | cons s l ih =>
  intro G e h ha hl
  obtain ⟨a, rfl, Aa, hf, hb⟩ := hl s List.mem_cons_self
  obtain ⟨G1, h1, g1, k1, c1, m1, r1⟩ := h.beat1 hp hq Aa hr hf hb ha
  obtain ⟨G2, h2, g2, k2, c2, m2, r2⟩ := ih h1 (by rw [g1.a]; exact ha) fun s hs => hl s (List.mem_cons_of_mem _ hs)
  refine ⟨G2, h2, g1.trans g2, k1.trans k2, fun s hs => ?_, fun u z hz => m2 u z (m1 u z hz), fun hg => r2 (r1 hg)⟩
  rcases List.mem_cons.1 hs with rfl | hs
  · exact m2 _ _ c1
  · exact c2 s hs
theorem Iv.defend (hp : Pf T F n) (h : Iv T F n m G e) {r : Nat} (hr : r < T.rules.length) (ht : aP T r = true) (ha : ∀ x ∈ au T r, G.a true r x = true) : ∃ G', Iv T F n m G' (defendE T e r) ∧ Agh G G' ∧ Alk e (defendE T e r) ∧ (∀ s ∈ row T.beats r, (defendE T e r).cb s (ag T r) = true) ∧ (∀ u z, e.cb u z = true → (defendE T e r).cb u z = true) ∧ (li T G e → li T G' (defendE T e r)) := by
 obtain ⟨q, hq, Aa⟩ := fe hp hr
 unfold defendE
 rw [hq]
 refine h.beats hp Aa ?_ _ ha fun s hs => ?_
 · rw [← hq]; exact ku ht
 · obtain ⟨a, rfl, ha, hf⟩ := kI hp hr hs
   exact ⟨a, rfl, ha, by rw [← hq]; exact hf, decide_eq_true hs⟩
end
section
variable {T : Th} {F : List Int} {n k : Nat} {m : Prop} {G G' : cW} {e e' : Es}
structure Tel (e e' : Es) : Prop where
 ms : e'.ms = e.ms
 rf : e'.rf = e.rf
 cb : e'.cb = e.cb
 tk : e'.tk = e.tk
 up : ∀ z t, ar t → has e z t = true → has e' z t = true
 td : ∃ l, e'.td = e.td ++ l
theorem Tel.refl : Tel e e := ⟨rfl, rfl, rfl, rfl, fun _ _ _ h => h, [], by simp⟩
theorem Tel.trans {e2 : Es} (h : Tel e e') (h2 : Tel e' e2) : Tel e e2 := by
 obtain ⟨l, hl⟩ := h.td
 obtain ⟨l2, Aa⟩ := h2.td
 exact ⟨h2.ms.trans h.ms, h2.rf.trans h.rf, h2.cb.trans h.cb, h2.tk.trans h.tk, fun z t ht hz => h2.up z t ht (h.up z t ht hz), l ++ l2, by rw [Aa, hl, List.append_assoc]⟩
theorem gQ (hby : ∀ q, aQ (e.mq q)) {q t : Int} (ht : ar t) : Tel e (tell e q t) := by
 unfold Fa.tell
 split
 · exact Tel.refl
 · refine ⟨rfl, rfl, rfl, rfl, fun z u hu hz => ?_, [(q, t)], rfl⟩
   show hb (ap e.mq q (cC (e.mq q) t) z) u = true
   by_cases ez : z = q
   · subst ez
     have hz : hb (e.mq z) u = true := hz
     rw [ax, (dv (hby z) ht hu).1, hz]
     rfl
   · rw [aq ez]; exact hz
theorem eY (hby : ∀ q, aQ (e.mq q)) {q t : Int} (ht : ar t) : has (tell e q t) q t = true := by
 unfold Fa.tell
 split
 · rename_i h; exact h
 · show hb (ap e.mq q (cC (e.mq q) t) q) t = true
   rw [ax, (dv (hby q) ht ht).1]
   simp
theorem i7 (hby : ∀ q, aQ (e.mq q)) {q : Int} : Tel e (aJ e q) := by
 unfold aJ
 split
 · exact gQ hby bH
 · exact Tel.refl
theorem iT (hby : ∀ q, aQ (e.mq q)) {q : Int} (h : has e q 2 = true) : has (aJ e q) q 4 = true := by
 unfold aJ
 rw [if_pos h]
 exact eY hby bH
theorem Iv.over (hp : Pf T F n) (hs_ : m) (h : Iv T F n m G e) {s q : Nat} (hq : q < n) (hsR : s < T.rules.length) (hpr : (q : Int) ∈ aj T (ag T s)) (hu : used e s = true) (hc : e.cd s q = 0) (h2 : has e q 2 = true) : aZ T F (Mq n e) 4 q = true := by
 obtain ⟨x, hx, hh, x0, x1⟩ := cV hp hsR
 refine qf hp hs_ hq (h.s.mm q 2 (by omega) (by omega) aM h2) (.inr (.inr ⟨ag T s, ?_, s, bX.2 ⟨s, x, rfl, hx, rfl, hh.symm⟩, xB hp h.x h.s hsR hpr hu hc⟩))
 exact cU hp (by rw [hh]; exact x0) (by rw [hh]; exact x1) (cq.1 hpr).1
structure Agw (G G' : cW) : Prop where
 a : G'.a = G.a
 n : G'.n = G.n
 c : G'.c = G.c
 f : G'.f = G.f
 r : G'.r = G.r
theorem Agw.refl : Agw G G := ⟨rfl, rfl, rfl, rfl, rfl⟩
theorem Iv.with1 (hp : Pf T F n) (hs_ : m) (h : Iv T F n m G e) {r s q : Nat} (hq : q < n) (hsR : s < T.rules.length) (hpr : (q : Int) ∈ aj T (ag T s)) (hr : (r : Int) ∈ ae T kT q) (hb : bn T r s = true) (hn : G.w r s = false) (hf : e.rf true r = true) :
    Iv T F n m { G with w := ct G.w r s } (with1 q e s) ∧ Tel e (with1 q e s) ∧ ((with1 q e s).cd s q = 0 → used e s = true → has e q 2 = true → has (with1 q e s) q 4 = true) := by
 have h1 := h.withd hp hsR hpr hr hb hn hf
 have k1 : Tel e { e with cd := ap e.cd s (ap (e.cd s) q (cS (e.cd s q))), up := aD e.up } := ⟨rfl, rfl, rfl, rfl, fun _ _ _ hz => hz, [], by simp⟩
 unfold Fa.with1
 by_cases hc : ap e.cd s (ap (e.cd s) q (cS (e.cd s q))) s q = 0 ∧ used e s = true
 · have Aa : (decide (({ e with cd := ap e.cd s (ap (e.cd s) q (cS (e.cd s q))), up := aD e.up } : Es).cd s q = 0) && used { e with cd := ap e.cd s (ap (e.cd s) q (cS (e.cd s q))), up := aD e.up } s) = true := by
    rw [Bool.and_eq_true]
    exact ⟨decide_eq_true hc.1, hc.2⟩
   dsimp only
   rw [if_pos Aa]
   refine ⟨h1.lose fun h2 => h1.over hp hs_ hq hsR hpr hc.2 hc.1 h2, k1.trans (i7 h1.y), fun _ _ h2 => iT h1.y h2⟩
 · have Aa : ¬ (decide (({ e with cd := ap e.cd s (ap (e.cd s) q (cS (e.cd s q))), up := aD e.up } : Es).cd s q = 0) && used { e with cd := ap e.cd s (ap (e.cd s) q (cS (e.cd s q))), up := aD e.up } s) = true := by
    rw [Bool.and_eq_true]
    rintro ⟨a, b⟩
    exact hc ⟨of_decide_eq_true a, b⟩
   dsimp only
   rw [if_neg Aa]
   exact ⟨h1, k1, fun a b => absurd ⟨a, b⟩ hc⟩
theorem eJ {q : Int} : (aJ e q).cd = e.cd ∧ (aJ e q).ob = e.ob ∧ (aJ e q).op = e.op := by
 unfold aJ Fa.tell
 split
 · split <;> exact ⟨rfl, rfl, rfl⟩
 · exact ⟨rfl, rfl, rfl⟩
theorem xD {q s u : Int} (h : u ≠ s) : (with1 q e s).cd u = e.cd u := by
 unfold Fa.with1
 dsimp only
 split
 · rw [eJ.1]; exact aq h
 · exact aq h
theorem se {q s : Int} : (with1 q e s).op = e.op ∧ (with1 q e s).ob = e.ob := by
 unfold Fa.with1
 dsimp only
 split
 · exact ⟨eJ.2.2, eJ.2.1⟩
 · exact ⟨rfl, rfl⟩
theorem Iv.withs (hp : Pf T F n) (hs_ : m) {r q : Nat} (hq : q < n) (hr : (r : Int) ∈ ae T kT q) : ∀ (l : List Int) {G : cW} {e : Es}, l.Nodup → Iv T F n m G e → e.rf true r = true → (∀ s ∈ l, ∃ a : Nat, s = (a : Int) ∧ a < T.rules.length ∧ (q : Int) ∈ aj T (ag T a) ∧ bn T r a = true ∧ G.w r a = false) →
    ∃ G', Iv T F n m G' (l.foldl (Fa.with1 q) e) ∧ Agw G G' ∧ Tel e (l.foldl (Fa.with1 q) e) ∧ (l.foldl (Fa.with1 q) e).op = e.op ∧ (∀ u v, G.w u v = true → G'.w u v = true) ∧ (∀ s ∈ l, G'.w r s = true) ∧ (∀ u v, G'.w u v = true → G.w u v = true ∨ u = r ∧ v ∈ l) ∧ (∀ u, u ∉ l → (l.foldl (Fa.with1 q) e).cd u = e.cd u) ∧ ∀ s ∈ l, (l.foldl (Fa.with1 q) e).cd s q = 0 → used e s = true → has e q 2 = true → has (l.foldl (Fa.with1 q) e) q 4 = true := by
 intro l
 induction l with
 | nil => intro G e _ h _ _; exact ⟨G, h, Agw.refl, Tel.refl, rfl, fun _ _ h => h, fun s hs => (by cases hs), fun _ _ h => .inl h, fun _ _ => rfl, fun s hs => (by cases hs)⟩
 | cons s l ih =>
  intro G e Ag h hf hl
  obtain ⟨Aa, Ah⟩ := List.nodup_cons.1 Ag
  obtain ⟨a, rfl, Aj, Ak, hb, hw⟩ := hl s List.mem_cons_self
  obtain ⟨h1, t1, Ac⟩ := h.with1 hp hs_ hq Aj Ak hr hb hw hf
  obtain ⟨G2, h2, g2, t2, o2, m2, w2, v2, c2, Ai⟩ := ih Ah h1 (by rw [t1.rf]; exact hf) fun u hu => by
   obtain ⟨b, rfl, Ad, Ab, Ae, Af⟩ := hl u (List.mem_cons_of_mem _ hu)
   refine ⟨b, rfl, Ad, Ab, Ae, ?_⟩
   cases hg : ct G.w r a r b with
   | false => exact hg
   | true =>
    rcases bQ.1 hg with h3 | ⟨-, h3⟩
    · rw [Af] at h3; cases h3
    · exact absurd (h3 ▸ hu) Aa
  refine ⟨G2, h2, ⟨g2.a, g2.n, g2.c, g2.f, g2.r⟩, t1.trans t2, o2.trans se.1, fun u v hg => m2 u v (jz hg), fun u hu => ?_, fun u v hg => ?_, fun u hu => ?_, fun u hu hc hus h2q => ?_⟩
  · rcases List.mem_cons.1 hu with rfl | hu
    · exact m2 _ _ (bQ.2 (.inr ⟨rfl, rfl⟩))
    · exact w2 u hu
  · rcases v2 u v hg with h3 | ⟨h3, h4⟩
    · rcases bQ.1 h3 with h5 | ⟨h5, h6⟩
      · exact .inl h5
      · exact .inr ⟨h5, by rw [h6]; exact List.mem_cons_self⟩
    · exact .inr ⟨h3, List.mem_cons_of_mem _ h4⟩
  · rw [List.foldl_cons, c2 u fun h3 => hu (List.mem_cons_of_mem _ h3)]
    exact xD fun h3 => hu (by rw [h3]; exact List.mem_cons_self)
  · rcases List.mem_cons.1 hu with rfl | hu
    · have hc : (l.foldl (Fa.with1 q) (Fa.with1 q e a)).cd a q = 0 := hc
      rw [c2 _ Aa] at hc
      exact t2.up _ _ bH (Ac hc hus h2q)
    · exact Ai u hu hc (by unfold Fa.used at hus ⊢; rw [t1.ms]; exact hus) (t1.up _ _ aM h2q)
end
section
variable {T : Th} {F : List Int} {n k : Nat} {m : Prop} {G G' : cW} {e e' : Es}
def P3 (T : Th) (n : Nat) (e : Es) : Prop := ∀ q : Nat, q < n → (ae T kT q).any (used e) = true → e.ob q = 0 → has e q 3 = true
theorem d9 {q t : Int} : (tell e q t).ob = e.ob ∧ (tell e q t).cd = e.cd ∧ (tell e q t).op = e.op := by
 unfold Fa.tell
 split <;> exact ⟨rfl, rfl, rfl⟩
theorem bZ (h : e'.ms = e.ms) : used e' = used e := by funext r; unfold Fa.used; rw [h]
theorem P3.tel (h : P3 T n e) (ht : Tel e e') (ho : e'.ob = e.ob) : P3 T n e' := fun q hq hu h0 => ht.up _ _ aX (h q hq (by rw [bZ ht.ms] at hu; exact hu) (by rw [ho] at h0; exact h0))
theorem Iv.prove (hp : Pf T F n) (hs_ : m) (h : Iv T F n m G e) {q : Nat} (hq : q < n) : Iv T F n m G (bw T e q) ∧ Tel e (bw T e q) ∧ (bw T e q).ob = e.ob ∧ (bw T e q).cd = e.cd ∧ (bw T e q).op = e.op ∧ ((ae T kT q).any (used e) = true → e.ob q = 0 → has (bw T e q) q 3 = true) := by
 unfold bw
 by_cases hc : (decide (e.ob q = 0) && (ae T kT q).any (used e)) = true
 · rw [if_pos hc]
   rw [Bool.and_eq_true] at hc
   exact ⟨h.tell aX (yK hp hs_ h.nf h.x h.s hq (of_decide_eq_true hc.1) hc.2), gQ h.y aX, d9.1, d9.2.1, d9.2.2, fun _ _ => eY h.y aX⟩
 · rw [if_neg hc]
   exact ⟨h, Tel.refl, rfl, rfl, rfl, fun a b => absurd (by rw [a, decide_eq_true b]; rfl) hc⟩
theorem Iv.drop1 (hp : Pf T F n) (hs_ : m) (h : Iv T F n m G e) (h3 : P3 T n e) {r q : Nat} (hq : q < n) (hr : r < T.rules.length) (hpr : (q : Int) ∈ aj T (ag T r)) (hf : e.rf true r = true) (hn : e.cb r q = false → G.r r q = false) :
    ∃ G', Iv T F n m G' (drop1 T r e q) ∧ Tel e (drop1 T r e q) ∧ (drop1 T r e q).cd = e.cd ∧ (drop1 T r e q).op = e.op ∧ P3 T n (drop1 T r e q) ∧ Agh G G' ∧ (∀ u v, G'.r u v = true → G.r u v = true ∨ u = r ∧ v = q) ∧ (∀ u v, G.r u v = true → G'.r u v = true) ∧ (e.cb r q = false → G'.r r q = true) := by
 unfold Fa.drop1
 by_cases hc : e.cb r q = true
 · rw [if_pos hc]
   exact ⟨G, h, Tel.refl, rfl, rfl, h3, Agh.refl, fun _ _ h => .inl h, fun _ _ h => h, fun h2 => absurd hc (by rw [h2]; decide)⟩
 · rw [if_neg hc]
   have hc : e.cb r q = false := by cases h2 : e.cb r q; rfl; exact absurd h2 hc
   obtain ⟨Ab, ht⟩ := cq.1 hpr
   obtain ⟨x, -, hh, x0, x1⟩ := cV hp hr
   have Aa : (r : Int) ∈ fw T q := tL hr (cU hp (by rw [hh]; exact x0) (by rw [hh]; exact x1) Ab)
   have h1 := h.clearR hp hq Aa (hn hc) ht (.inl hf)
   have k1 : Tel e (ce e q) := ⟨rfl, rfl, rfl, rfl, fun _ _ _ hz => hz, [], by simp [ce]⟩
   obtain ⟨h2, t2, o2, c2, p2, v2⟩ := h1.prove hp hs_ hq
   refine ⟨_, h2, k1.trans t2, c2, p2, fun z hz hu h0 => ?_, ⟨rfl, rfl, rfl, rfl, rfl⟩, fun u v hg => bQ.1 hg, fun u v hg => jz hg, fun _ => bQ.2 (.inr ⟨rfl, rfl⟩)⟩
   rw [bZ (k1.trans t2).ms] at hu
   rw [o2] at h0
   by_cases ez : z = q
   · subst ez
     exact v2 hu h0
   · refine (k1.trans t2).up _ _ aX (h3 z hz hu ?_)
     have h0 : ap e.ob q (cS (e.ob q)) z = 0 := h0
     rw [aq (by omega)] at h0
     exact h0
theorem Iv.drops (hp : Pf T F n) (hs_ : m) {r : Nat} (hr : r < T.rules.length) : ∀ (l : List Int) {G : cW} {e : Es}, l.Nodup → Iv T F n m G e → P3 T n e → e.rf true r = true → (∀ z ∈ l, z ∈ aj T (ag T r) ∧ (e.cb r z = false → G.r r z = false)) →
    ∃ G', Iv T F n m G' (l.foldl (Fa.drop1 T r) e) ∧ Tel e (l.foldl (Fa.drop1 T r) e) ∧ (l.foldl (Fa.drop1 T r) e).cd = e.cd ∧ (l.foldl (Fa.drop1 T r) e).op = e.op ∧ P3 T n (l.foldl (Fa.drop1 T r) e) ∧ Agh G G' ∧ (∀ u v, G.r u v = true → G'.r u v = true) ∧ ∀ z ∈ l, e.cb r z = false → G'.r r z = true := by
 intro l
 induction l with
 | nil => intro G e _ h h3 _ _; exact ⟨G, h, Tel.refl, rfl, rfl, h3, Agh.refl, fun _ _ h => h, fun z hz => (by cases hz)⟩
 | cons z l ih =>
  intro G e Ae h h3 hf hl
  obtain ⟨Ab, Ad⟩ := List.nodup_cons.1 Ae
  obtain ⟨hz, hg⟩ := hl z List.mem_cons_self
  obtain ⟨hm, Ac, Aa⟩ := fe hp hr
  obtain ⟨z0, z1⟩ := gL hp Aa (by rw [← Ac]; exact hz)
  obtain ⟨q, rfl⟩ := Int.eq_ofNat_of_zero_le z0
  obtain ⟨G1, h1, t1, c1, o1, p1, g1, v1, m1, d1⟩ := h.drop1 hp hs_ h3 (show q < n by omega) hr hz hf hg
  obtain ⟨G2, h2, t2, c2, o2, p2, g2, m2, d2⟩ := ih Ad h1 p1 (by rw [t1.rf]; exact hf) fun u hu => ⟨(hl u (List.mem_cons_of_mem _ hu)).1, fun hc => by
   rw [t1.cb] at hc
   cases hg2 : G1.r r u with
   | false => rfl
   | true =>
    rcases v1 r u hg2 with h5 | ⟨-, h5⟩
    · rw [(hl u (List.mem_cons_of_mem _ hu)).2 hc] at h5; cases h5
    · exact absurd (h5 ▸ hu) Ab⟩
  refine ⟨G2, h2, t1.trans t2, c2.trans c1, o2.trans o1, p2, g1.trans g2, fun u v hg => m2 u v (m1 u v hg), fun u hu hc => ?_⟩
  rcases List.mem_cons.1 hu with rfl | hu
  · exact m2 _ _ (d1 hc)
  · exact d2 u hu (by rw [t1.cb]; exact hc)
end
section
variable {T : Th} {F : List Int} {n k : Nat} {m : Prop} {G G' : cW} {e e' : Es}
theorem rH (hx : Exa T F n G e) {b : Bool} {r q : Nat} (hq : q < n) (hr : (r : Int) ∈ ae T (kL b) q) (hn : G.c b r = false) (h1 : e.op b q = 1) : cF T F b q = false ∧ ∀ t ∈ ae T (kL b) q, t = (r : Int) ∨ G.c b t = true := by
 have h := hx.op b q hq
 rw [h1] at h
 split at h
 · omega
 · rename_i ho
   have ho : cF T F b q = false := by
    cases hh : cF T F b q with
    | false => rfl
    | true => rw [hh] at ho; exact absurd rfl ho
   refine ⟨ho, fun t ht => ?_⟩
   have Aa := jJ hr hn
   have Ab := gC rules_nd hr hn
   have hz : lf (ae T (kL b) (q : Int)) (ap (G.c b) r true) = 0 := by omega
   have := dr.1 hz t ht
   by_cases e1 : t = (r : Int)
   · exact .inl e1
   · rw [aq e1] at this; exact .inr this
theorem yr {b : Bool} {q : Int} : Tel e (aF e b q) ∧ (aF e b q).ob = e.ob ∧ (aF e b q).cd = e.cd := by
 unfold aF
 split
 · exact ⟨⟨rfl, rfl, rfl, rfl, fun _ _ _ hz => hz, [], by simp⟩, rfl, rfl⟩
 · exact ⟨Tel.refl, rfl, rfl⟩
theorem xy {q : Int} : ∀ (l : List Int) {e : Es}, (l.foldl (Fa.with1 q) e).ob = e.ob := by
 intro l
 induction l with
 | nil => intro e; rfl
 | cons s l ih => intro e; rw [List.foldl_cons, ih, se.2]
theorem wL {q s u z : Int} (h : z ≠ q) : (with1 q e s).cd u z = e.cd u z := by
 have key : ap e.cd s (ap (e.cd s) q (cS (e.cd s q))) u z = e.cd u z := by
  by_cases e1 : u = s
  · subst e1; rw [ax, aq h]
  · rw [aq e1]
 unfold Fa.with1
 dsimp only
 split
 · rw [eJ.1]; exact key
 · exact key
theorem vN {q u z : Int} (h : z ≠ q) : ∀ {l : List Int} {e : Es}, (l.foldl (Fa.with1 q) e).cd u z = e.cd u z := by
 intro l
 induction l with
 | nil => intro e; rfl
 | cons s l ih => intro e; rw [List.foldl_cons, ih, wL h]
theorem vq (hp : Pf T F n) {r : Nat} (hr : r < T.rules.length) : (row T.beats (r : Int)).Nodup := by
 have Aa := hp.ok.bl
 obtain ⟨l, hl⟩ := am (l := T.beats) (i := r) (by omega)
 rw [bS (l := l) (by rw [Int.toNat_natCast]; exact hl)]
 exact cX (hp.beat l (List.mem_of_getElem? hl))
theorem Iv.drop (hp : Pf T F n) (hs_ : m) (h : Iv T F n m G e) (h3 : P3 T n e) {r : Nat} (hr : r < T.rules.length) (hf : e.rf true r = true) (f1 : ∀ z ∈ aj T (ag T r), e.cb r z = false → G.r r z = false) (f2 : ∀ s ∈ row T.beats r, G.w r s = false) (f3 : G.c true r = false) :
    ∃ G', Iv T F n m G' (bO T e r) ∧ Tel e (bO T e r) ∧ P3 T n (bO T e r) ∧ G'.a = G.a ∧ G'.n = G.n ∧ G'.f = G.f ∧ (∀ u v, G.r u v = true → G'.r u v = true) ∧ (∀ u v, G.w u v = true → G'.w u v = true) ∧ (∀ u, G.c true u = true → G'.c true u = true) ∧ G'.c false = G.c false ∧
     (∀ z ∈ aj T (ag T r), e.cb r z = false → G'.r r z = true) ∧ (aP T r = true → (∀ s ∈ row T.beats r, G'.w r s = true) ∧ G'.c true r = true) ∧
     (aP T r = true → e.op true (ag T r) = 1 → has e (ag T r) 2 = true → has (bO T e r) (ag T r) 4 = true) ∧ (∀ u z, z ≠ ag T r ∨ u ∉ row T.beats r ∨ aP T r = false → (bO T e r).cd u z = e.cd u z) ∧ (aP T r = true → ∀ s ∈ row T.beats r, (bO T e r).cd s (ag T r) = 0 → used e s = true → has e (ag T r) 2 = true → has (bO T e r) (ag T r) 4 = true) := by
 obtain ⟨q, hq, Ae⟩ := fe hp hr
 obtain ⟨G1, i1, t1, c1, o1, p1, g1, m1, d1⟩ := h.drops (l := aj T (ag T r)) hp hs_ hr (jf hp hr) h3 hf fun z hz => ⟨hz, f1 z hz⟩
 unfold bO
 by_cases ht : aP T r = true
 · dsimp only
   rw [if_pos ht]
   have Ag : (r : Int) ∈ ae T kT q := by rw [← hq]; exact ku ht
   obtain ⟨G2, i2, g2, t2, o2, m2, w2, v2, Aj, Al⟩ := Iv.withs (m := m) hp hs_ Ae Ag (row T.beats r) (vq hp hr) i1 (by rw [t1.rf]; exact hf) fun s hs => by
    obtain ⟨a, rfl, ha, An⟩ := kI hp hr hs
    exact ⟨a, rfl, ha, by rw [← hq]; exact fX hp hr ht An, decide_eq_true hs, by rw [g1.w]; exact f2 _ hs⟩
   have Ah : G2.c true r = false := by rw [g2.c, g1.c]; exact f3
   have Ac : ((row T.beats r).foldl (Fa.with1 q) ((aj T (ag T r)).foldl (Fa.drop1 T r) e)).rf true r = true := by rw [t2.rf, t1.rf]; exact hf
   have hE : withE T ((aj T (ag T r)).foldl (Fa.drop1 T r) e) r = (row T.beats r).foldl (Fa.with1 q) ((aj T (ag T r)).foldl (Fa.drop1 T r) e) := by unfold withE; rw [hq]
   rw [hE, hq]
   have p2 : P3 T n ((row T.beats r).foldl (Fa.with1 q) ((aj T (ag T r)).foldl (Fa.drop1 T r) e)) := p1.tel t2 (xy _)
   have Ad := t1.trans t2
   have Ai := o2.trans o1
   have Ab : ∀ u z, z ≠ (q : Int) ∨ u ∉ row T.beats r → ((row T.beats r).foldl (Fa.with1 q) ((aj T (ag T r)).foldl (Fa.drop1 T r) e)).cd u z = e.cd u z := fun u z hz => by
    rcases hz with hz | hz
    · rw [vN hz, c1]
    · rw [Aj u hz, c1]
   have Af : ∀ s ∈ row T.beats r, ((row T.beats r).foldl (Fa.with1 q) ((aj T (ag T r)).foldl (Fa.drop1 T r) e)).cd s q = 0 → used e s = true → has e q 2 = true → has ((row T.beats r).foldl (Fa.with1 q) ((aj T (ag T r)).foldl (Fa.drop1 T r) e)) q 4 = true := fun s hs hc hu h2 => Al s hs hc (by rw [bZ t1.ms]; exact hu) (t1.up _ _ aM h2)
   rw [hq] at i2 Ad p2 Ac d1 Ai Ab Af
   clear o2 Aj Al t2 c1 o1 p1 i1 t1 hE
   generalize (row T.beats r).foldl (Fa.with1 q) ((aj T (q : Int)).foldl (Fa.drop1 T r) e) = e2 at *
   have i3 := i2.cls hp (b := true) Ae Ag Ah Ac
   have t3 := yr (e := e2) (b := true) (q := q)
   have p3 : P3 T n (aF e2 true q) := p2.tel t3.1 t3.2.1
   have Aa : (∀ u v, G.r u v = true → G2.r u v = true) ∧ (∀ z ∈ aj T (q : Int), e.cb r z = false → G2.r r z = true) := ⟨fun u v hg => by rw [g2.r]; exact m1 u v hg, fun z hz hc => by rw [g2.r]; exact d1 z hz hc⟩
   by_cases hb : dW e2 true q = true
   · rw [if_pos hb]
     have Am := rH i2.x (b := true) Ae Ag Ah (of_decide_eq_true hb)
     refine ⟨_, i3.lose fun h2 => ?_, Ad.trans (t3.1.trans (i7 i3.y)), p3.tel (i7 i3.y) eJ.2.1, g2.a.trans g1.a, g2.n.trans g1.n, g2.f.trans g1.f, Aa.1, fun u v hg => m2 u v (by rw [g1.w]; exact hg), fun u hu => ?_, ?_, Aa.2, fun _ => ⟨w2, ?_⟩, fun _ _ h2 => iT i3.y (t3.1.up _ _ aM (Ad.up _ _ aM h2)), fun u z hz => ?_, fun _ s hs hc hu h2 => (i7 i3.y).up _ _ bH (t3.1.up _ _ bH (Af s hs (by rw [eJ.1, t3.2.2] at hc; exact hc) hu h2))⟩
     · refine qf hp hs_ Ae (i3.s.mm q 2 (by omega) (by omega) aM h2) (.inl fun t htm => ?_)
       obtain ⟨a, rfl, ha, -, -⟩ := bI htm
       have Ak : Mq n (aF e2 true (q : Int)) = Mq n e2 := by unfold Mq aF; split <;> rfl
       rcases Am.2 a htm with h5 | h5
       · rw [h5, Ak]; exact i2.s.part hp i2.x (b := true) hr Ac
       · rw [Ak]; exact i2.s.part hp i2.x (b := true) ha (i2.s.c true a h5)
     · show aI G2.c true (ap (G2.c true) r true) true u = true
       rw [aC]
       by_cases eu : u = (r : Int)
       · rw [eu, ax]
       · rw [aq eu, g2.c, g1.c]; exact hu
     · show aI G2.c true (ap (G2.c true) r true) false = G.c false
       rw [aN (by decide), g2.c, g1.c]
     · show aI G2.c true (ap (G2.c true) r true) true r = true
       rw [aC, ax]
     · rw [eJ.1, t3.2.2]
       rcases hz with hz | hz | hz
       · exact Ab u z (.inl hz)
       · exact Ab u z (.inr hz)
       · rw [ht] at hz; cases hz
   · rw [if_neg hb]
     refine ⟨_, i3, Ad.trans t3.1, p3, g2.a.trans g1.a, g2.n.trans g1.n, g2.f.trans g1.f, Aa.1, fun u v hg => m2 u v (by rw [g1.w]; exact hg), fun u hu => ?_, ?_, Aa.2, fun _ => ⟨w2, ?_⟩, fun _ h1 _ => absurd (decide_eq_true (by rw [Ai]; exact h1)) hb, fun u z hz => ?_, fun _ s hs hc hu h2 => t3.1.up _ _ bH (Af s hs (by rw [t3.2.2] at hc; exact hc) hu h2)⟩
     · show aI G2.c true (ap (G2.c true) r true) true u = true
       rw [aC]
       by_cases eu : u = (r : Int)
       · rw [eu, ax]
       · rw [aq eu, g2.c, g1.c]; exact hu
     · show aI G2.c true (ap (G2.c true) r true) false = G.c false
       rw [aN (by decide), g2.c, g1.c]
     · show aI G2.c true (ap (G2.c true) r true) true r = true
       rw [aC, ax]
     · rw [t3.2.2]
       rcases hz with hz | hz | hz
       · exact Ab u z (.inl hz)
       · exact Ab u z (.inr hz)
       · rw [ht] at hz; cases hz
 · dsimp only
   rw [if_neg ht]
   exact ⟨G1, i1, t1, p1, g1.a, g1.n, g1.f, m1, fun u v hg => by rw [g1.w]; exact hg, fun u hu => by rw [g1.c]; exact hu, by rw [g1.c], d1, fun h => absurd h ht, fun h => absurd h ht, fun u z _ => by rw [c1], fun h => absurd h ht⟩
end
section
variable {T : Th} {F : List Int} {n k : Nat} {m : Prop} {G G' : cW} {e e' : Es}
def P3x (T : Th) (n : Nat) (h : Int) (e : Es) : Prop := ∀ q : Nat, q < n → (q : Int) ≠ h → (ae T kT q).any (used e) = true → e.ob q = 0 → has e q 3 = true
theorem P3x.tel {h : Int} (h3 : P3x T n h e) (ht : Tel e e') (ho : e'.ob = e.ob) : P3x T n h e' := fun q hq hne hu h0 => ht.up _ _ aX (h3 q hq hne (by rw [bZ ht.ms] at hu; exact hu) (by rw [ho] at h0; exact h0))
theorem xZ {h s z : Int} (hz : z ≠ h) : (Fa.beat1 h e s).ob z = e.ob z := by
 unfold Fa.beat1
 split
 · rfl
 · dsimp only
   split
   · rfl
   · exact aq hz
theorem vZ {h z : Int} (hz : z ≠ h) : ∀ (l : List Int) {e : Es}, (l.foldl (Fa.beat1 h) e).ob z = e.ob z := by
 intro l
 induction l with
 | nil => intro e; rfl
 | cons s l ih => intro e; rw [List.foldl_cons, ih, xZ hz]
theorem Iv.use1 (hp : Pf T F n) (hs_ : m) (h : Iv T F n m G e) {r q : Nat} (hq : q < n) (hr : r < T.rules.length) (hpr : (q : Int) ∈ aj T (ag T r)) (hu : used e r = true) : Iv T F n m G (use1 r e q) ∧ Tel e (use1 r e q) ∧ (use1 r e q).ob = e.ob ∧ (use1 r e q).cd = e.cd ∧ (use1 r e q).op = e.op ∧ (e.cd r q = 0 → has e q 2 = true → has (use1 r e q) q 4 = true) := by
 unfold Fa.use1
 by_cases hc : e.cd r q = 0
 · rw [if_pos hc]
   exact ⟨h.lose fun h2 => h.over hp hs_ hq hr hpr hu hc h2, i7 h.y, eJ.2.1, eJ.1, eJ.2.2, fun _ h2 => iT h.y h2⟩
 · rw [if_neg hc]
   exact ⟨h, Tel.refl, rfl, rfl, rfl, fun h2 => absurd h2 hc⟩
theorem Iv.uses (hp : Pf T F n) (hs_ : m) {r : Nat} (hr : r < T.rules.length) : ∀ (l : List Int) {e : Es}, Iv T F n m G e → used e r = true → (∀ z ∈ l, z ∈ aj T (ag T r)) →
    Iv T F n m G (l.foldl (Fa.use1 r) e) ∧ Tel e (l.foldl (Fa.use1 r) e) ∧ (l.foldl (Fa.use1 r) e).ob = e.ob ∧ (l.foldl (Fa.use1 r) e).cd = e.cd ∧ (l.foldl (Fa.use1 r) e).op = e.op ∧ ∀ z ∈ l, e.cd r z = 0 → has e z 2 = true → has (l.foldl (Fa.use1 r) e) z 4 = true := by
 intro l
 induction l with
 | nil => intro e h _ _; exact ⟨h, Tel.refl, rfl, rfl, rfl, fun z hz => (by cases hz)⟩
 | cons z l ih =>
  intro e h hu hl
  have hz := hl z List.mem_cons_self
  obtain ⟨hm, Ad, Ab⟩ := fe hp hr
  obtain ⟨z0, z1⟩ := gL hp Ab (by rw [← Ad]; exact hz)
  obtain ⟨q, rfl⟩ := Int.eq_ofNat_of_zero_le z0
  obtain ⟨h1, t1, o1, c1, p1, Ac⟩ := h.use1 hp hs_ (show q < n by omega) hr hz hu
  obtain ⟨h2, t2, o2, c2, p2, Ae⟩ := ih h1 (by rw [bZ t1.ms]; exact hu) fun u Aa => hl u (List.mem_cons_of_mem _ Aa)
  refine ⟨h2, t1.trans t2, o2.trans o1, c2.trans c1, p2.trans p1, fun u Aa hc h2q => ?_⟩
  rcases List.mem_cons.1 Aa with rfl | Aa
  · exact t2.up _ _ bH (Ac hc h2q)
  · exact Ae u Aa (by rw [c1]; exact hc) (t1.up _ _ aM h2q)
theorem Iv.use (hp : Pf T F n) (hs_ : m) (h : Iv T F n m G e) {r : Nat} (hr : r < T.rules.length) (hu : used e r = true) (h3 : P3x T n (ag T r) e) (h3n : aP T r = false → P3 T n e) :
    ∃ G', Iv T F n m G' (cD T e r) ∧ P3 T n (cD T e r) ∧ Agh G G' ∧ (cD T e r).ms = e.ms ∧ (cD T e r).rf = e.rf ∧ (cD T e r).cd = e.cd ∧ (cD T e r).op = e.op ∧ (cD T e r).tk = e.tk ∧ (∀ z t, ar t → has e z t = true → has (cD T e r) z t = true) ∧ (∃ l, (cD T e r).td = e.td ++ l) ∧ (∀ u z, e.cb u z = true → (cD T e r).cb u z = true) ∧ (aP T r = true → ∀ s ∈ row T.beats r, (cD T e r).cb s (ag T r) = true) ∧ (∀ z ∈ aj T (ag T r), e.cd r z = 0 → has e z 2 = true → has (cD T e r) z 4 = true) ∧ (li T G e → li T G' (cD T e r)) := by
 obtain ⟨q, hq, Ai⟩ := fe hp hr
 have ha := (h.x.used hr).1 hu
 obtain ⟨h1, t1, o1, c1, p1, Ab⟩ := h.uses (l := aj T (ag T r)) hp hs_ hr hu fun z hz => hz
 unfold cD
 by_cases ht : aP T r = true
 · dsimp only
   rw [if_pos ht]
   have x1 := h3.tel t1 o1
   generalize hE1 : (aj T (ag T r)).foldl (Fa.use1 r) e = e1 at *
   obtain ⟨G2, h2, g2, k2, Af, m2, r2⟩ := h1.defend hp hr ht ha
   have Ak : ∀ z, z ≠ ag T r → (defendE T e1 r).ob z = e1.ob z := fun z hz => vZ hz _
   have Al : (r : Int) ∈ ae T kT q := by rw [← hq]; exact ku ht
   have Aa : ∀ z t, has (defendE T e1 r) z t = has e1 z t := fun z t => by unfold has; rw [k2.mq]
   have Ad : (defendE T e1 r).ms = e.ms := k2.ms.trans t1.ms
   obtain ⟨l1, An⟩ := t1.td
   have Ae : (defendE T e1 r).td = e.td ++ l1 := k2.td.trans An
   have Ag : used (defendE T e1 r) = used e1 := bZ k2.ms
   have P3o : ∀ z : Nat, z < n → (z : Int) ≠ ag T r → (ae T kT z).any (used (defendE T e1 r)) = true → (defendE T e1 r).ob z = 0 → has (defendE T e1 r) z 3 = true := fun z hz hne hu2 h0 => by
    rw [Aa]
    rw [Ag] at hu2
    rw [Ak _ hne] at h0
    exact x1 z hz hne hu2 h0
   generalize defendE T e1 r = e2 at *
   have Ac : ∀ z t, ar t → has e z t = true → has e2 z t = true := fun z t ht hz => by rw [Aa]; exact t1.up z t ht hz
   by_cases h0 : e2.ob (ag T r) = 0
   · rw [if_pos h0]
     have Ah : (ae T kT q).any (used e2) = true := List.any_eq_true.2 ⟨r, Al, by rw [Ag, bZ t1.ms]; exact hu⟩
     have Aj : aZ T F (Mq n e2) 3 (ag T r) = true := by rw [hq]; exact yK hp hs_ h2.nf h2.x h2.s Ai (by rw [← hq]; exact h0) Ah
     have t3 := gQ h2.y (q := ag T r) aX
     obtain ⟨l3, Ao⟩ := t3.td
     refine ⟨G2, h2.tell aX Aj, fun z hz hu2 hz0 => ?_, g2, t3.ms.trans Ad, t3.rf.trans (k2.rf.trans t1.rf), d9.2.1.trans (k2.cd.trans c1), d9.2.2.trans (k2.op.trans p1), t3.tk.trans (k2.tk.trans t1.tk), fun z t ht hz => t3.up z t ht (Ac z t ht hz), ⟨l1 ++ l3, by rw [Ao, Ae, List.append_assoc]⟩, fun u z hz => by rw [t3.cb]; exact m2 u z (by rw [t1.cb]; exact hz), fun _ s hs => by rw [t3.cb]; exact Af s hs, fun z hz hc h2z => t3.up z 4 bH (by rw [Aa]; exact Ab z hz hc h2z), fun hg s hs z hz ho => r2 (fun s hs z hz ho => hg s hs z hz (by rw [t1.rf, t1.cb] at ho; exact ho)) s hs z hz (by rw [t3.rf, t3.cb] at ho; exact ho)⟩
     by_cases ez : (z : Int) = ag T r
     · rw [ez]; exact eY h2.y aX
     · exact t3.up _ _ aX (P3o z hz ez (by rw [bZ t3.ms] at hu2; exact hu2) (by rw [d9.1] at hz0; exact hz0))
   · rw [if_neg h0]
     refine ⟨G2, h2, fun z hz hu2 hz0 => ?_, g2, Ad, k2.rf.trans t1.rf, k2.cd.trans c1, k2.op.trans p1, k2.tk.trans t1.tk, Ac, ⟨l1, Ae⟩, fun u z hz => m2 u z (by rw [t1.cb]; exact hz), fun _ => Af, fun z hz hc h2z => by rw [Aa]; exact Ab z hz hc h2z, fun hg => r2 fun s hs z hz ho => hg s hs z hz (by rw [t1.rf, t1.cb] at ho; exact ho)⟩
     by_cases ez : (z : Int) = ag T r
     · rw [ez] at hz0; exact absurd hz0 h0
     · exact P3o z hz ez hu2 hz0
 · dsimp only
   rw [if_neg ht]
   have Am : aP T r = false := by cases hh : aP T r; rfl; exact absurd hh ht
   exact ⟨G, h1, (h3n Am).tel t1 o1, Agh.refl, t1.ms, t1.rf, c1, p1, t1.tk, t1.up, t1.td, fun u z hz => by rw [t1.cb]; exact hz, fun h => absurd h ht, Ab, fun hg s hs z hz ho => hg s hs z hz (by rw [t1.rf, t1.cb] at ho; exact ho)⟩
end
section
variable {T : Th} {F : List Int} {n k : Nat} {m : Prop} {G G' : cW} {e e' : Es}
theorem P3.ms (h : P3 T n e) (hu : e'.ms true = e.ms true) (ho : e'.ob = e.ob) (hh : ∀ z, has e z 3 = true → has e' z 3 = true) : P3 T n e' := fun q hq ha h0 => hh _ (h q hq (by
 have : used e' = used e := by funext r; unfold Fa.used; rw [hu]
 rw [this] at ha; exact ha) (by rw [ho] at h0; exact h0))
theorem jP {b : Bool} {z r : Int} (h : r ∈ bh T b z) : ∃ a : Nat, r = (a : Int) ∧ a < T.rules.length ∧ aB T (kW b) a = true ∧ z ∈ au T a := by
 unfold bh dw at h
 obtain ⟨a, ha, rfl⟩ := List.mem_map.1 h
 obtain ⟨h1, h2⟩ := List.mem_filter.1 ha
 unfold iu at h2
 split at h2
 · rename_i x hx
   rw [Bool.and_eq_true] at h2
   obtain ⟨k1, -, k3⟩ := dJ (p := kW b) hx
   exact ⟨a, rfl, List.mem_range.1 h1, by rw [k1]; exact h2.1, by rw [k3]; exact of_decide_eq_true h2.2⟩
 · cases h2
theorem pZ {b : Bool} {z : Int} {a : Nat} (ha : a < T.rules.length) (hk : aB T (kW b) a = true) (hz : z ∈ au T a) : (a : Int) ∈ bh T b z := by
 unfold bh dw
 refine List.mem_map.2 ⟨a, List.mem_filter.2 ⟨List.mem_range.2 ha, ?_⟩, rfl⟩
 obtain ⟨x, hx⟩ := am ha
 obtain ⟨k1, -, k3⟩ := dJ (p := kW b) hx
 unfold iu
 rw [hx]
 rw [k1] at hk
 rw [k3] at hz
 simp [hk, hz]
theorem pH {b : Bool} {z : Int} : (bh T b z).Nodup := by
 unfold bh dw
 refine List.Pairwise.map _ (fun a b h => ?_) ((List.nodup_range).filter _)
 intro e
 exact h (Int.ofNat.inj e)
structure Tem (e e' : Es) : Prop where
 rf : e'.rf = e.rf
 cb : e'.cb = e.cb
 cd : e'.cd = e.cd
 ob : e'.ob = e.ob
 op : e'.op = e.op
 tk : e'.tk = e.tk
 mt : e'.ms true = e.ms true
 up : ∀ z t, ar t → has e z t = true → has e' z t = true
 td : ∃ l, e'.td = e.td ++ l
theorem Tem.refl : Tem e e := ⟨rfl, rfl, rfl, rfl, rfl, rfl, rfl, fun _ _ _ h => h, [], by simp⟩
theorem Tem.trans {e2 : Es} (h : Tem e e') (h2 : Tem e' e2) : Tem e e2 := by
 obtain ⟨l, hl⟩ := h.td
 obtain ⟨l2, Aa⟩ := h2.td
 exact ⟨h2.rf.trans h.rf, h2.cb.trans h.cb, h2.cd.trans h.cd, h2.ob.trans h.ob, h2.op.trans h.op, h2.tk.trans h.tk, h2.mt.trans h.mt, fun z t ht hz => h2.up z t ht (h.up z t ht hz), l ++ l2, by rw [Aa, hl, List.append_assoc]⟩
theorem gD (hby : ∀ q, aQ (e.mq q)) {q t : Int} (ht : ar t) : Tem e (tell e q t) :=
 have h := gQ hby (q := q) ht
 ⟨h.rf, h.cb, d9.2.1, d9.1, d9.2.2, h.tk, by rw [h.ms], h.up, h.td⟩
theorem Iv.plusS1 (hp : Pf T F n) (hs_ : m) (h : Iv T F n m G e) {r : Nat} {q : Int} (hr : r < T.rules.length) (hk : aB T (kW false) r = true) (hq : q ∈ au T r) (hn : G.a false r q = false) (hh : has e q 1 = true) :
    Iv T F n m { G with a := aI G.a false (ct (G.a false) r q) } (plusS1 T e r) ∧ Tem e (plusS1 T e r) ∧ ((plusS1 T e r).ms false r = 0 → has (plusS1 T e r) (ag T r) 1 = true) ∧ ∀ u, u ≠ (r : Int) → (plusS1 T e r).ms false u = e.ms false u := by
 have h1 := h.met hp (b := false) hr hk hq hn hh
 have k1 : Tem e (bG e false r) := ⟨rfl, rfl, rfl, rfl, rfl, rfl, (show aI e.ms false (ap (e.ms false) r (cS (e.ms false r))) true = e.ms true from aN (by decide)), fun _ _ _ hz => hz, [], by simp [bG]⟩
 have m1 : ∀ u, u ≠ (r : Int) → (bG e false r).ms false u = e.ms false u := fun u hu => by
  show aI e.ms false (ap (e.ms false) r (cS (e.ms false r))) false u = e.ms false u
  rw [aC, aq hu]
 unfold Fa.plusS1
 dsimp only
 by_cases hc : (bG e false r).ms false r = 0
 · rw [if_pos hc]
   have t2 := gQ h1.y (q := ag T r) aL
   refine ⟨h1.tell aL (zT hp hs_ h1.x h1.s hr hk hc), k1.trans (gD h1.y aL), fun _ => eY h1.y aL, fun u hu => by rw [t2.ms]; exact m1 u hu⟩
 · rw [if_neg hc]
   exact ⟨h1, k1, fun h2 => absurd h2 hc, m1⟩
end
section
variable {T : Th} {F : List Int} {n k : Nat} {m : Prop} {G G' : cW} {e e' : Es} {K : Int → Int → Bool}
structure Gro (e e' : Es) : Prop where
 tk : e'.tk = e.tk
 up : ∀ z t, ar t → has e z t = true → has e' z t = true
 td : ∃ l, e'.td = e.td ++ l
 by_ : ∀ q, aQ (e'.mq q)
 sm : (∀ q, e.mq q < 16) → ∀ q, e'.mq q < 16
 tdd : (∀ z t, ar t → has e z t = true → (z, t) ∈ e.td) → ∀ z t, ar t → has e' z t = true → (z, t) ∈ e'.td
theorem Gro.refl (h : ∀ q, aQ (e.mq q)) : Gro e e := ⟨rfl, fun _ _ _ h => h, ⟨[], by simp⟩, h, fun h => h, fun h => h⟩
theorem Gro.trans {e2 : Es} (h : Gro e e') (h2 : Gro e' e2) : Gro e e2 := by
 obtain ⟨l, hl⟩ := h.td
 obtain ⟨l2, Aa⟩ := h2.td
 exact ⟨h2.tk.trans h.tk, fun z t ht hz => h2.up z t ht (h.up z t ht hz), ⟨l ++ l2, by rw [Aa, hl, List.append_assoc]⟩, h2.by_, fun h0 => h2.sm (h.sm h0), fun h0 => h2.tdd (h.tdd h0)⟩
theorem Gro.tell (h : Gro e e') {q t : Int} (ht : ar t) : Gro e (tell e' q t) := by
 refine h.trans ?_
 have key : ∀ z u, ar u → hb (ap e'.mq q (cC (e'.mq q) t) z) u = (has e' z u || decide (z = q ∧ t = u)) := fun z u hu => by
  by_cases ez : z = q
  · subst ez
    rw [ax, (dv (h.by_ z) ht hu).1]
    simp [has]
  · rw [aq ez]
    simp [ez, has]
 unfold Fa.tell
 split
 · exact Gro.refl h.by_
 · refine ⟨rfl, fun z u hu hz => ?_, ⟨[(q, t)], rfl⟩, fun z => ?_, fun hs z => ?_, fun hm z u hu hz => ?_⟩
   · show hb (ap e'.mq q (cC (e'.mq q) t) z) u = true
     rw [key z u hu, hz]
     rfl
   · show aQ (ap e'.mq q (cC (e'.mq q) t) z)
     by_cases ez : z = q
     · subst ez; rw [ax]; exact (dv (h.by_ z) ht ht).2.1
     · rw [aq ez]; exact h.by_ z
   · show ap e'.mq q (cC (e'.mq q) t) z < 16
     by_cases ez : z = q
     · subst ez; rw [ax]; exact (dv (h.by_ z) ht ht).2.2 (hs z)
     · rw [aq ez]; exact hs z
   · have hz : hb (ap e'.mq q (cC (e'.mq q) t) z) u = true := hz
     show (z, u) ∈ e'.td ++ [(q, t)]
     rw [key z u hu, Bool.or_eq_true] at hz
     rcases hz with hz | hz
     · exact List.mem_append_left _ (hm z u hu hz)
     · obtain ⟨rfl, rfl⟩ := of_decide_eq_true hz
       simp
theorem Gro.same {e2 : Es} (h : Gro e e') (h1 : e2.td = e'.td) (h2 : e2.mq = e'.mq) (h3 : e2.tk = e'.tk) : Gro e e2 := by
 have hh : ∀ z t, has e2 z t = has e' z t := fun z t => by unfold has; rw [h2]
 obtain ⟨l, hl⟩ := h.td
 exact ⟨h3.trans h.tk, fun z t ht hz => by rw [hh]; exact h.up z t ht hz, ⟨l, by rw [h1, hl]⟩, fun q => by rw [h2]; exact h.by_ q, fun hs q => by rw [h2]; exact h.sm hs q, fun hm z t ht hz => by rw [h1]; rw [hh] at hz; exact h.tdd hm z t ht hz⟩
theorem Gro.fold {α : Type} {f : Es → α → Es} : ∀ {l : List α} {e' : Es}, Gro e e' → (∀ x ∈ l, ∀ e2, Gro e e2 → Gro e (f e2 x)) → Gro e (l.foldl f e')
 | [], _, h, _ => h
 | x :: l, _, h, hf => Gro.fold (l := l) (hf x List.mem_cons_self _ h) fun y hy => hf y (List.mem_cons_of_mem _ hy)
theorem Gro.lose (h : Gro e e') {q : Int} : Gro e (aJ e' q) := by
 unfold aJ; split
 · exact h.tell bH
 · exact h
theorem Gro.clear (h : Gro e e') {q : Int} : Gro e (ce e' q) := h.same rfl rfl rfl
theorem Gro.met (h : Gro e e') {b : Bool} {r : Int} : Gro e (bG e' b r) := h.same rfl rfl rfl
theorem Gro.ref (h : Gro e e') {b : Bool} {r : Int} : Gro e (refE e' b r) := by unfold refE; split; exact h; exact h.same rfl rfl rfl
theorem Gro.cls (h : Gro e e') {b : Bool} {r : Int} : Gro e (aF e' b r) := by unfold aF; split; exact h.same rfl rfl rfl; exact h
theorem Gro.prove (h : Gro e e') {q : Int} : Gro e (bw T e' q) := by
 unfold bw; split
 · exact h.tell aX
 · exact h
theorem Gro.disprove (h : Gro e e') {q : Int} : Gro e (aG T e' q) := by
 unfold aG; split
 · exact h.lose
 · exact h
theorem Gro.beat1 (h : Gro e e') {q s : Int} : Gro e (beat1 q e' s) := by
 unfold Fa.beat1
 split
 · exact h
 · dsimp only
   split
   · exact h.same rfl rfl rfl
   · exact h.same rfl rfl rfl
theorem Gro.defend (h : Gro e e') {r : Int} : Gro e (defendE T e' r) := Gro.fold h fun _ _ _ h => h.beat1
theorem Gro.with1 (h : Gro e e') {q s : Int} : Gro e (with1 q e' s) := by
 unfold Fa.with1
 dsimp only
 have h1 : Gro e { e' with cd := ap e'.cd s (ap (e'.cd s) q (cS (e'.cd s q))), up := aD e'.up } := h.same rfl rfl rfl
 split
 · exact h1.lose
 · exact h1
theorem Gro.withE (h : Gro e e') {r : Int} : Gro e (withE T e' r) := Gro.fold h fun _ _ _ h => h.with1
theorem Gro.use (h : Gro e e') {r : Int} : Gro e (cD T e' r) := by
 have h1 : Gro e ((aj T (ag T r)).foldl (use1 r) e') := Gro.fold h fun p _ e2 h => by
  unfold use1
  split
  · exact h.lose
  · exact h
 unfold cD
 dsimp only
 split
 · split
   · exact h1.defend.tell aX
   · exact h1.defend
 · exact h1
theorem Gro.drop (h : Gro e e') {r : Int} : Gro e (bO T e' r) := by
 have h1 : Gro e ((aj T (ag T r)).foldl (drop1 T r) e') := Gro.fold h fun p _ e2 h => by
  unfold drop1
  split
  · exact h
  · exact h.clear.prove
 unfold bO
 dsimp only
 split
 · split
   · exact h1.withE.cls.lose
   · exact h1.withE.cls
 · exact h1
theorem Gro.plusS (h : Gro e e') {q : Int} : Gro e (fY T e' q) := by
 unfold fY
 refine Gro.fold (Gro.fold (h.tell aX) fun r _ e2 h => ?_) fun p _ e2 h => h.lose
 unfold Fa.plusS1
 dsimp only
 split
 · exact h.met.tell aL
 · exact h.met
theorem Gro.minusS1 (h : Gro e e') {r : Int} : Gro e (minusS1 T e' r) := by
 unfold Fa.minusS1
 dsimp only
 split
 · exact h
 · split
   · exact h.ref.cls.tell aM
   · exact h.ref.cls
theorem Gro.minusS (h : Gro e e') {q : Int} : Gro e (dN T F e' q) := by
 unfold dN
 dsimp only
 have h1 : Gro e ((bh T false q).foldl (Fa.minusS1 T) e') := Gro.fold h fun r _ e2 h => h.minusS1
 refine Gro.disprove ?_
 split
 · exact Gro.fold h1 fun p _ e2 h => h.clear.prove
 · exact h1
theorem Gro.plusD (h : Gro e e') {q : Int} : Gro e (iX T e' q) := by
 unfold iX
 refine Gro.fold h fun r _ e2 h => ?_
 unfold plusD1
 dsimp only
 split
 · exact h.met.use
 · exact h.met
theorem Gro.minusD (h : Gro e e') {q : Int} : Gro e (gO T e' q) := by
 unfold gO
 refine Gro.fold h fun r _ e2 h => ?_
 unfold minusD1
 split
 · exact h
 · exact h.ref.drop
theorem Gro.does (h : Gro e e') {q t : Int} : Gro e (fy T F e' q t) := by
 unfold fy
 split
 · exact h.plusS
 · split
   · exact h.minusS
   · split
     · exact h.plusD
     · exact h.minusD
theorem Gro.bare (h : Gro e e') {j : Nat} : Gro e (bareE T j e') := by
 unfold bareE
 refine Gro.fold h fun r _ e2 h => ?_
 unfold gi
 split
 · exact h.defend
 · exact h
theorem Gro.begin (h : Gro e e') {j : Nat} : Gro e (beginE T F j e') := by
 unfold beginE
 refine Gro.fold (Gro.fold h fun q _ e2 h => ?_) fun q _ e2 h => ?_
 · unfold bN
   split
   · exact h.tell aM
   · split
     · exact h.tell aL
     · exact h
 · unfold da
   refine Gro.disprove (Gro.prove ?_)
   split
   · exact h.tell aX
   · exact h
structure Cmp (T : Th) (F : List Int) (n : Nat) (K : Int → Int → Bool) (G : cW) (e : Es) : Prop where
 c1 : ∀ r : Nat, r < T.rules.length → aB T kS r = true → e.ms false r = 0 → has e (ag T r) 1 = true
 cf : ∀ q ∈ F, has e q 1 = true
 c2 : ∀ q : Nat, q < n → (q : Int) ∉ F → (∀ r ∈ ae T kS q, e.rf false r = true) → has e q 2 = true
 p3 : P3 T n e
 cb : ∀ t : Nat, t < T.rules.length → aP T t = true → used e t = true → ∀ s ∈ row T.beats t, e.cb s (ag T t) = true
 gr : li T G e
 gw : ∀ t : Nat, t < T.rules.length → aP T t = true → e.rf true t = true → ∀ s ∈ row T.beats t, G.w t s = true
 gc : ∀ b (r : Nat), r < T.rules.length → aB T (kL b) r = true → e.rf b r = true → G.c b r = true
 c3 : ∀ q, K q 1 = true → has e q 3 = true
 c4 : ∀ q : Nat, q < n → K q 2 = true → (∀ r ∈ ae T kT q, e.rf true r = true) → has e q 4 = true
 co : ∀ q : Nat, q < n → K q 2 = true → ∀ s : Nat, s < T.rules.length → (q : Int) ∈ aj T (ag T s) → used e s = true → e.cd s q = 0 → has e q 4 = true
 cr : ∀ q : Nat, q < n → K q 2 = true → ∀ f ∈ row T.foes q, K f 1 = true → has e q 4 = true
 q2 : ∀ q, K q 2 = true → has e q 2 = true
 q1 : ∀ q, K q 1 = true → has e q 1 = true
theorem Cmp.tem (h : Cmp T F n K G e) (t : Tem e e') (g1 : G'.r = G.r) (g2 : G'.w = G.w) (g3 : G'.c = G.c) (hc1 : ∀ r : Nat, r < T.rules.length → aB T kS r = true → e'.ms false r = 0 → has e' (ag T r) 1 = true) : Cmp T F n K G' e' := by
 have hu : used e' = used e := by funext r; unfold Fa.used; rw [t.mt]
 refine ⟨hc1, fun q hq => t.up _ _ aL (h.cf q hq), fun q hq hF hr => t.up _ _ aM (h.c2 q hq hF (by rw [t.rf] at hr; exact hr)), h.p3.ms t.mt t.ob fun z hz => t.up _ _ aX hz, fun u hu1 ht hus => by rw [t.cb]; rw [hu] at hus; exact h.cb u hu1 ht hus, fun s hs p hp ho => by rw [g1]; rw [t.rf, t.cb] at ho; exact h.gr s hs p hp ho, fun u hu1 ht hr => by rw [g2]; rw [t.rf] at hr; exact h.gw u hu1 ht hr, fun b r hr hk hf => by rw [g3]; rw [t.rf] at hf; exact h.gc b r hr hk hf, fun q hq => t.up _ _ aX (h.c3 q hq), fun q hq hK hr => t.up _ _ bH (h.c4 q hq hK (by rw [t.rf] at hr; exact hr)), fun q hq hK s hs hr hus hc => t.up _ _ bH (h.co q hq hK s hs hr (by rw [hu] at hus; exact hus) (by rw [t.cd] at hc; exact hc)), fun q hq hK f hf hKf => t.up _ _ bH (h.cr q hq hK f hf hKf), fun q hq => t.up _ _ aM (h.q2 q hq), fun q hq => t.up _ _ aL (h.q1 q hq)⟩
theorem Cmp.tem1 (h : Cmp T F n K G e) (t : Tem e e') (hm : e'.ms = e.ms) : Cmp T F n K G e' := h.tem t rfl rfl rfl fun r hr hk h0 => t.up _ _ aL (h.c1 r hr hk (by rw [hm] at h0; exact h0))
theorem qM (hby : ∀ q, aQ (e.mq q)) {q : Int} : Tem e (aJ e q) := by
 unfold aJ
 split
 · exact gD hby bH
 · exact Tem.refl
theorem tell_ms {q t : Int} : (tell e q t).ms = e.ms := by unfold Fa.tell; split <;> rfl
theorem rA {q : Int} : (aJ e q).ms = e.ms := by unfold aJ; split; exact tell_ms; rfl
theorem sg (hp : Pf T F n) (hs_ : m) {q : Int} : ∀ (l : List Int) {G : cW} {e : Es}, l.Nodup → (∀ r ∈ l, r ∈ bh T false q) → Iv T F n m G e → Cmp T F n K G e → has e q 1 = true → (∀ r ∈ l, G.a false r q = false) →
    ∃ G', Iv T F n m G' (l.foldl (plusS1 T) e) ∧ Cmp T F n K G' (l.foldl (plusS1 T) e) ∧ Tem e (l.foldl (plusS1 T) e) ∧ (∀ b r x, G'.a b r x = true ↔ G.a b r x = true ∨ (b = false ∧ r ∈ l ∧ x = q)) ∧ G'.n = G.n ∧ G'.f = G.f := by
 intro l
 induction l with
 | nil => intro G e _ _ h hc _ _; exact ⟨G, h, hc, Tem.refl, fun b r x => by simp, rfl, rfl⟩
 | cons r0 l ih =>
  intro G e Ac hl h hc hq ha
  obtain ⟨Ab, Aa⟩ := List.nodup_cons.1 Ac
  obtain ⟨r, rfl, hr, hk, hb⟩ := jP (hl r0 List.mem_cons_self)
  obtain ⟨h1, t1, d1, o1⟩ := h.plusS1 hp hs_ hr hk hb (ha _ List.mem_cons_self) hq
  have mk : ∀ b s x, aI G.a false (ct (G.a false) r q) b s x = true ↔ G.a b s x = true ∨ (b = false ∧ s = (r : Int) ∧ x = q) := fun b s x => by
   by_cases eb : b = false
   · subst eb; rw [aC, bQ]; simp
   · rw [aN eb]; simp [eb]
  have c1 : Cmp T F n K { G with a := aI G.a false (ct (G.a false) r q) } (plusS1 T e r) := hc.tem t1 rfl rfl rfl fun u hu hku h0 => by
   by_cases eu : (u : Int) = r
   · rw [eu] at h0 ⊢; exact d1 h0
   · rw [o1 u eu] at h0; exact t1.up _ _ aL (hc.c1 u hu hku h0)
  obtain ⟨G2, h2, c2, t2, a2, n2, f2⟩ := ih Aa (fun s hs => hl s (List.mem_cons_of_mem _ hs)) h1 c1 (t1.up _ _ aL hq) fun s hs => by
   cases hg : aI G.a false (ct (G.a false) r q) false s q with
   | false => exact hg
   | true =>
    rcases (mk false s q).1 hg with h3 | ⟨-, h3, -⟩
    · rw [ha s (List.mem_cons_of_mem _ hs)] at h3; cases h3
    · exact absurd (h3 ▸ hs) Ab
  refine ⟨G2, h2, c2, t1.trans t2, fun b s x => ?_, n2, f2⟩
  rw [a2]
  show (aI G.a false (ct (G.a false) r q) b s x = true ∨ _) ↔ _
  rw [mk]
  simp only [List.mem_cons]
  constructor
  · rintro ((h | ⟨h1, h2, h3⟩) | ⟨h1, h2, h3⟩)
    · exact .inl h
    · exact .inr ⟨h1, .inl h2, h3⟩
    · exact .inr ⟨h1, .inr h2, h3⟩
  · rintro (h | ⟨h1, h2 | h2, h3⟩)
    · exact .inl (.inl h)
    · exact .inl (.inr ⟨h1, h2, h3⟩)
    · exact .inr ⟨h1, h2, h3⟩
theorem uc (hp : Pf T F n) (hs_ : m) {q : Int} (h0 : 0 ≤ q) (h1 : q < (n : Int)) : ∀ (l : List Int) {e : Es}, (∀ p ∈ l, p ∈ row T.foes q) → Iv T F n m G e → Cmp T F n K G e → has e q 1 = true →
    Iv T F n m G (l.foldl aJ e) ∧ Cmp T F n K G (l.foldl aJ e) ∧ Tem e (l.foldl aJ e) ∧ ∀ p ∈ l, has e p 2 = true → has (l.foldl aJ e) p 4 = true := by
 intro l
 induction l with
 | nil => intro e _ h hc _; exact ⟨h, hc, Tem.refl, fun p hp => (by cases hp)⟩
 | cons p0 l ih =>
  intro e hl h hc hq
  obtain ⟨Aa, Ab⟩ := pC hp h0 h1 (hl p0 List.mem_cons_self)
  obtain ⟨p, rfl⟩ := Int.eq_ofNat_of_zero_le Aa
  have t1 := qM h.y (q := (p : Int))
  have i1 := h.lose (q := (p : Int)) fun h2 => qf hp hs_ (by omega) (h.s.mm p 2 Aa Ab aM h2) (.inr (.inl ⟨q, cU hp h0 h1 (hl p List.mem_cons_self), h.s.mm q 1 h0 h1 aL hq⟩))
  obtain ⟨i2, c2, t2, l2⟩ := ih (fun z hz => hl z (List.mem_cons_of_mem _ hz)) i1 (hc.tem1 t1 rA) (t1.up _ _ aL hq)
  refine ⟨i2, c2, t1.trans t2, fun z hz hz2 => ?_⟩
  rcases List.mem_cons.1 hz with rfl | hz
  · exact t2.up _ _ bH (iT h.y hz2)
  · exact l2 z hz (t1.up _ _ aM hz2)
end
section
variable {T : Th} {F : List Int} {n k : Nat} {m : Prop} {G G' : cW} {e e' : Es} {K : Int → Int → Bool}
theorem ky {p : RuleM → Bool} {r : Nat} (hr : r < T.rules.length) (hk : aB T p r = true) : (r : Int) ∈ ae T p (ag T r) := by
 obtain ⟨x, hx⟩ := am hr
 obtain ⟨k1, k2, -⟩ := dJ (p := p) hx
 exact bX.2 ⟨r, x, rfl, hx, by rw [← k1]; exact hk, k2.symm⟩
theorem mh {p : RuleM → Bool} {r : Nat} {z : Int} (h : (r : Int) ∈ ae T p z) : r < T.rules.length ∧ ag T r = z ∧ aB T p r = true := by
 obtain ⟨a, e1, ha, hh, hk⟩ := bI h
 have : r = a := by omega
 subst this
 exact ⟨ha, hh, hk⟩
theorem tJ (hx : Exa T F n G e) {b : Bool} {r h : Nat} (hh : h < n) (hr : (r : Int) ∈ ae T (kL b) h) (hn : G.c b r = false) (ho : cF T F b h = false) (hall : ∀ t ∈ ae T (kL b) h, t ≠ (r : Int) → G.c b t = true) : e.op b h = 1 := by
 have h1 := hx.op b h hh
 have Aa : (ae T (kL b) (h : Int)).isEmpty = false := by
  cases hl : ae T (kL b) (h : Int) with
  | nil => rw [hl] at hr; cases hr
  | cons _ _ => rfl
 rw [ho, Aa] at h1
 have hm := gC rules_nd hr hn
 have hz : lf (ae T (kL b) (h : Int)) (ap (G.c b) r true) = 0 := dr.2 fun t ht => by
  by_cases e1 : t = (r : Int)
  · rw [e1, ax]
  · rw [aq e1]; exact hall t ht e1
 have h1 : e.op b h = max 1 (lf (ae T (kL b) (h : Int)) (G.c b)) := h1
 omega
theorem qn (hx : Exa T F n G e) {b : Bool} {h : Int} (hF : b = false → h ∉ F) (hall : ∀ t ∈ ae T (kL b) h, e.rf b t = true) : cF T F b h = false := by
 unfold cF
 rw [Bool.or_eq_false_iff]
 constructor
 · cases hb : ix T (kL b) h with
   | false => rfl
   | true =>
    exfalso
    unfold ix at hb
    obtain ⟨t, ht, h2⟩ := List.any_eq_true.1 hb
    obtain ⟨a, rfl, ha, -, -⟩ := bI ht
    have h3 := hall a ht
    rw [hx.rf b a ha, List.isEmpty_iff.1 h2] at h3
    cases h3
 · cases b with
   | true => rfl
   | false =>
    have := hF rfl
    simp [this]
theorem Cmp.of (h : Cmp T F n K G e) (us : used e' = used e) (mf : e'.ms false = e.ms false) (rf : e'.rf true = e.rf true) (cb : e'.cb = e.cb) (cd : e'.cd = e.cd) (up : ∀ z t, ar t → has e z t = true → has e' z t = true) (g1 : G'.r = G.r) (g2 : G'.w = G.w)
    (c2 : ∀ q : Nat, q < n → (q : Int) ∉ F → (∀ r ∈ ae T kS q, e'.rf false r = true) → has e' q 2 = true) (p3 : P3 T n e') (gc : ∀ b (r : Nat), r < T.rules.length → aB T (kL b) r = true → e'.rf b r = true → G'.c b r = true) : Cmp T F n K G' e' :=
 ⟨fun r hr hk h0 => up _ _ aL (h.c1 r hr hk (by rw [mf] at h0; exact h0)), fun q hq => up _ _ aL (h.cf q hq), c2, p3, fun t ht1 ht hu => by rw [cb]; rw [us] at hu; exact h.cb t ht1 ht hu, fun s hs p hp ho => by rw [g1]; rw [rf, cb] at ho; exact h.gr s hs p hp ho, fun t ht1 ht hr => by rw [g2]; rw [rf] at hr; exact h.gw t ht1 ht hr, gc, fun q hq => up _ _ aX (h.c3 q hq), fun q hq hK hr => up _ _ bH (h.c4 q hq hK (by rw [rf] at hr; exact hr)), fun q hq hK s hs hr hu hc => up _ _ bH (h.co q hq hK s hs hr (by rw [us] at hu; exact hu) (by rw [cd] at hc; exact hc)), fun q hq hK f hf hKf => up _ _ bH (h.cr q hq hK f hf hKf), fun q hq => up _ _ aM (h.q2 q hq), fun q hq => up _ _ aL (h.q1 q hq)⟩
theorem gJ {g : Bool → Int → Int → Bool} {c b : Bool} {r q s x : Int} : aI g c (ct (g c) r q) b s x = true ↔ g b s x = true ∨ (b = c ∧ s = r ∧ x = q) := by
 by_cases eb : b = c
 · subst eb; rw [aC, bQ]; simp
 · rw [aN eb]; simp [eb]
theorem rO {b c : Bool} {r s : Int} (h : ¬ (c = b ∧ s = r)) : (refE e b r).rf c s = e.rf c s := by
 unfold refE
 split
 · rfl
 · show aI e.rf b (ap (e.rf b) r true) c s = e.rf c s
   by_cases ec : c = b
   · subst ec; rw [aC, aq fun e1 => h ⟨rfl, e1⟩]
   · rw [aN ec]
theorem dz {b : Bool} {r : Int} : (refE e b r).ms = e.ms ∧ (refE e b r).cd = e.cd ∧ (refE e b r).ob = e.ob ∧ (refE e b r).op = e.op ∧ (refE e b r).cb = e.cb ∧ (refE e b r).mq = e.mq := by
 unfold refE
 split <;> exact ⟨rfl, rfl, rfl, rfl, rfl, rfl⟩
theorem ft {b : Bool} {r : Int} : (aF e b r).ms = e.ms ∧ (aF e b r).cd = e.cd ∧ (aF e b r).ob = e.ob ∧ (aF e b r).rf = e.rf ∧ (aF e b r).cb = e.cb ∧ (aF e b r).mq = e.mq := by
 unfold aF
 split <;> exact ⟨rfl, rfl, rfl, rfl, rfl, rfl⟩
theorem Iv.minusS1 (hp : Pf T F n) (hs_ : m) (h : Iv T F n m G e) (hc : Cmp T F n K G e) {r : Nat} {q : Int} (hr : r < T.rules.length) (hk : aB T (kW false) r = true) (hb : q ∈ au T r) (hq : has e q 2 = true) :
    ∃ G', Iv T F n m G' (minusS1 T e r) ∧ Cmp T F n K G' (minusS1 T e r) ∧ (∀ b s x, G'.n b s x = true ↔ G.n b s x = true ∨ (b = false ∧ s = (r : Int) ∧ x = q)) ∧ G'.a = G.a ∧ G'.f = G.f := by
 have i1 := h.ref (b := false) hr hb hq
 unfold Fa.minusS1
 by_cases hf : e.rf false r = true
 · have e1 : refE e false r = e := by unfold refE; rw [if_pos hf]
   rw [e1] at i1
   rw [if_pos hf]
   exact ⟨_, i1, hc.tem Tem.refl rfl rfl rfl hc.c1, fun b s x => gJ, rfl, rfl⟩
 · rw [if_neg hf]
   obtain ⟨hd, Ak, Ae⟩ := fe hp hr
   have Af : (r : Int) ∈ ae T (kL false) hd := by rw [← Ak]; exact ky hr hk
   have hn : G.c false r = false := by
    cases hg : G.c false r with
    | false => rfl
    | true => exact absurd (h.s.c false r hg) hf
   have i2 := i1.cls hp (b := false) Ae Af hn sk
   dsimp only
   rw [Ak]
   have Ac : ∀ c s, ¬ (c = false ∧ s = (r : Int)) → (aF (refE e false r) false hd).rf c s = e.rf c s := fun c s hcs => by rw [ft.2.2.2.1]; exact rO hcs
   have Ad : (aF (refE e false r) false hd).ms = e.ms := ft.1.trans dz.1
   have Aj : (aF (refE e false r) false hd).cd = e.cd := ft.2.1.trans dz.2.1
   have Al : (aF (refE e false r) false hd).ob = e.ob := ft.2.2.1.trans dz.2.2.1
   have Ai : (aF (refE e false r) false hd).cb = e.cb := ft.2.2.2.2.1.trans dz.2.2.2.2.1
   have Aa : ∀ z t, has (aF (refE e false r) false hd) z t = has e z t := fun z t => by unfold has; rw [ft.2.2.2.2.2, dz.2.2.2.2.2]
   have gc : ∀ b (s : Nat), s < T.rules.length → aB T (kL b) s = true → (aF (refE e false r) false hd).rf b s = true → aI G.c false (ap (G.c false) r true) b s = true := fun b s hs hks hfs => by
    by_cases ebs : b = false ∧ (s : Int) = r
    · obtain ⟨rfl, es⟩ := ebs
      rw [aC, es, ax]
    · rw [Ac b s ebs] at hfs
      have := hc.gc b s hs hks hfs
      by_cases eb : b = false
      · subst eb; rw [aC, aq fun e1 => ebs ⟨rfl, e1⟩]; exact this
      · rw [aN eb]; exact this
   have key : ∀ z : Nat, z < n → (z : Int) ∉ F → (∀ s ∈ ae T kS z, (aF (refE e false r) false hd).rf false s = true) → has e z 2 = true ∨ z = hd ∧ dW (refE e false r) false hd = true := fun z hz hF Ab => by
    by_cases ez : z = hd
    · subst ez
      refine .inr ⟨rfl, decide_eq_true (tJ i1.x Ae Af hn ?_ fun t ht hne => ?_)⟩
      · exact qn i1.x (fun _ => hF) fun t ht => by have := Ab t ht; rw [ft.2.2.2.1] at this; exact this
      · obtain ⟨a, rfl, ha, -, An⟩ := bI ht
        have h3 := Ab a ht
        rw [Ac false a fun e1 => hne e1.2] at h3
        exact hc.gc false a ha An h3
    · refine .inl (hc.c2 z hz hF fun s hs => ?_)
      have h3 := Ab s hs
      obtain ⟨a, rfl, ha, Ao, -⟩ := bI hs
      rw [Ac false a fun e1 => ez (by have : a = r := (by omega); subst this; omega)] at h3
      exact h3
   have Ah : ∀ {e2 : Es}, e2.ms = (aF (refE e false r) false hd).ms → used e2 = used e := fun h0 => bZ (h0.trans Ad)
   have Ag : ∀ {e2 : Es}, e2.ms = (aF (refE e false r) false hd).ms → e2.ob = (aF (refE e false r) false hd).ob → (∀ z, has e z 3 = true → has e2 z 3 = true) → P3 T n e2 := fun a b c => hc.p3.ms (by rw [a, Ad]) (b.trans Al) c
   by_cases hcb2 : dW (refE e false r) false hd = true
   · rw [if_pos hcb2]
     have Ab := rH i1.x (b := false) Ae Af hn (of_decide_eq_true hcb2)
     have hF : (hd : Int) ∉ F := fun hm => by
      have := Ab.1
      unfold cF at this
      rw [Bool.or_eq_false_iff] at this
      simp [hm] at this
     have Am : aZ T F (Mq n (aF (refE e false r) false hd)) 2 hd = true := zW hp hs_ i2.x i2.s Ae hF fun t ht => by
      rw [ft.2.2.2.1]
      obtain ⟨a, rfl, ha, -, -⟩ := bI ht
      rcases Ab.2 a ht with h5 | h5
      · rw [h5]; exact sk
      · exact i1.s.c false a h5
     have t3 := gQ i2.y (q := (hd : Int)) aM
     refine ⟨_, i2.tell aM Am, hc.of (Ah t3.ms) (by rw [t3.ms, Ad]) (by rw [t3.rf]; funext s; exact Ac true s (by simp)) (t3.cb.trans Ai) (d9.2.1.trans Aj) (fun z t ht hz => t3.up z t ht (by rw [Aa]; exact hz)) rfl rfl (fun z hz hFz hall2 => ?_) (Ag t3.ms d9.1 fun z hz => t3.up z 3 aX (by rw [Aa]; exact hz)) (fun b s hs hks hfs => gc b s hs hks (by rw [t3.rf] at hfs; exact hfs)), fun b s x => gJ, rfl, rfl⟩
     rcases key z hz hFz (by rw [t3.rf] at hall2; exact hall2) with h5 | ⟨h5, -⟩
     · exact t3.up _ _ aM (by rw [Aa]; exact h5)
     · rw [h5]; exact eY i2.y aM
   · rw [if_neg hcb2]
     refine ⟨_, i2, hc.of (Ah rfl) (by rw [Ad]) (by funext s; exact Ac true s (by simp)) Ai Aj (fun z t ht hz => by rw [Aa]; exact hz) rfl rfl (fun z hz hFz hall2 => ?_) (Ag rfl rfl fun z hz => by rw [Aa]; exact hz) gc, fun b s x => gJ, rfl, rfl⟩
     rcases key z hz hFz hall2 with h5 | ⟨-, h5⟩
     · rw [Aa]; exact h5
     · exact absurd h5 hcb2
theorem rh (hp : Pf T F n) (hs_ : m) {q : Int} : ∀ (l : List Int) {G : cW} {e : Es}, (∀ r ∈ l, r ∈ bh T false q) → Iv T F n m G e → Cmp T F n K G e → has e q 2 = true →
    ∃ G', Iv T F n m G' (l.foldl (Fa.minusS1 T) e) ∧ Cmp T F n K G' (l.foldl (Fa.minusS1 T) e) ∧ (∀ b s x, G'.n b s x = true ↔ G.n b s x = true ∨ (b = false ∧ s ∈ l ∧ x = q)) ∧ G'.a = G.a ∧ G'.f = G.f := by
 intro l
 induction l with
 | nil => intro G e _ h hc _; exact ⟨G, h, hc, fun b r x => by simp, rfl, rfl⟩
 | cons r0 l ih =>
  intro G e hl h hc hq
  obtain ⟨r, rfl, hr, hk, hb⟩ := jP (hl r0 List.mem_cons_self)
  obtain ⟨G1, i1, c1, n1, a1, f1⟩ := h.minusS1 hp hs_ hc hr hk hb hq
  obtain ⟨G2, i2, c2, n2, a2, f2⟩ := ih (fun s hs => hl s (List.mem_cons_of_mem _ hs)) i1 c1 (((Gro.refl h.y).minusS1 (T := T) (r := r)).up _ _ aM hq)
  refine ⟨G2, i2, c2, fun b s x => ?_, a2.trans a1, f2.trans f1⟩
  rw [n2, n1]
  simp only [List.mem_cons]
  constructor
  · rintro ((h | ⟨h1, h2, h3⟩) | ⟨h1, h2, h3⟩)
    · exact .inl h
    · exact .inr ⟨h1, .inl h2, h3⟩
    · exact .inr ⟨h1, .inr h2, h3⟩
  · rintro (h | ⟨h1, h2 | h2, h3⟩)
    · exact .inl (.inl h)
    · exact .inl (.inr ⟨h1, h2, h3⟩)
    · exact .inr ⟨h1, h2, h3⟩
theorem wF (hp : Pf T F n) (hs_ : m) {q : Nat} (hqn : q < n) (hfm : aA T F q = true) : ∀ (l : List Int) {G : cW} {e : Es}, l.Nodup → (∀ p ∈ l, p ∈ aj T q ∧ G.f q p = false) → Iv T F n m G e → Cmp T F n K G e → has e q 2 = true →
    ∃ G', Iv T F n m G' (l.foldl (i5 T) e) ∧ Cmp T F n K G' (l.foldl (i5 T) e) ∧ (∀ f p, G'.f f p = true ↔ G.f f p = true ∨ (f = (q : Int) ∧ p ∈ l)) ∧ G'.a = G.a ∧ G'.n = G.n := by
 intro l
 induction l with
 | nil => intro G e _ _ h hc _; exact ⟨G, h, hc, fun f p => by simp, rfl, rfl⟩
 | cons p0 l ih =>
  intro G e Af hl h hc hq
  obtain ⟨Ab, Ae⟩ := List.nodup_cons.1 Af
  obtain ⟨Aa, hg⟩ := hl p0 List.mem_cons_self
  obtain ⟨Ac, Ag⟩ := gL hp hqn Aa
  obtain ⟨p, rfl⟩ := Int.eq_ofNat_of_zero_le Ac
  obtain ⟨Ad, ht⟩ := cq.1 Aa
  have i1 := h.clearF hp (show p < n by omega) (cU hp (by omega) (by omega) Ad) hfm hg ht hq
  obtain ⟨i2, t2, o2, c2, p2, v2⟩ := i1.prove hp hs_ (show p < n by omega)
  have k1 : Tel e (ce e p) := ⟨rfl, rfl, rfl, rfl, fun _ _ _ hz => hz, [], by simp [ce]⟩
  have t3 := k1.trans t2
  have cc : Cmp T F n K { G with f := ct G.f q p } (bw T (ce e p) p) := hc.of (bZ t3.ms) (by rw [t3.ms]) (by rw [t3.rf]) t3.cb (by rw [c2]; rfl) t3.up rfl rfl (fun z hz hF hr => t3.up _ _ aM (hc.c2 z hz hF (by rw [t3.rf] at hr; exact hr))) (fun z hz hu h0 => by
   rw [bZ t3.ms] at hu
   rw [o2] at h0
   by_cases ez : z = p
   · subst ez; exact v2 hu h0
   · refine t3.up _ _ aX (hc.p3 z hz hu ?_)
     have h0 : ap e.ob p (cS (e.ob p)) z = 0 := h0
     rw [aq (by omega)] at h0
     exact h0) fun b s hs hk hf => by rw [t3.rf] at hf; exact hc.gc b s hs hk hf
  obtain ⟨G2, j2, d2, f2, a2, n2⟩ := ih (e := i5 T e p) Ae (fun z hz => ⟨(hl z (List.mem_cons_of_mem _ hz)).1, by
   cases hg2 : ct G.f q p q z with
   | false => exact hg2
   | true =>
    rcases bQ.1 hg2 with h5 | ⟨-, h5⟩
    · rw [(hl z (List.mem_cons_of_mem _ hz)).2] at h5; cases h5
    · exact absurd (h5 ▸ hz) Ab⟩) i2 cc (t3.up _ _ aM hq)
  refine ⟨G2, j2, d2, fun f z => ?_, a2, n2⟩
  rw [f2]
  show (ct G.f q p f z = true ∨ _) ↔ _
  rw [bQ]
  simp only [List.mem_cons]
  constructor
  · rintro ((h | ⟨h1, h2⟩) | ⟨h1, h2⟩)
    · exact .inl h
    · exact .inr ⟨h1, .inl h2⟩
    · exact .inr ⟨h1, .inr h2⟩
  · rintro (h | ⟨h1, h2 | h2⟩)
    · exact .inl (.inl h)
    · exact .inl (.inr ⟨h1, h2⟩)
    · exact .inr ⟨h1, h2⟩
theorem Iv.disprove (hp : Pf T F n) (hs_ : m) (h : Iv T F n m G e) {q : Nat} (hq : q < n) : Iv T F n m G (aG T e q) ∧ Tem e (aG T e q) ∧ (aG T e q).ms = e.ms ∧ ((gj T e q || il T e q || iq T e q) = true → has e q 2 = true → has (aG T e q) q 4 = true) := by
 unfold aG
 by_cases hc : (gj T e q || il T e q || iq T e q) = true
 · rw [if_pos hc]
   refine ⟨h.lose fun h2 => ?_, qM h.y, rA, fun _ h2 => iT h.y h2⟩
   have Ad := h.s.mm q 2 (by omega) (by omega) aM h2
   rw [Bool.or_eq_true, Bool.or_eq_true] at hc
   have Ac : (∀ r ∈ ae T kT q, e.rf true r = true) → aZ T F (Mq n e) 4 q = true := fun hall => qf hp hs_ hq Ad (.inl fun r hr => by
    obtain ⟨a, rfl, ha, -, -⟩ := bI hr
    exact h.s.part hp h.x (b := true) ha (hall a hr))
   rcases hc with (hc | hc) | hc
   · refine Ac fun r hr => ?_
     unfold gj at hc
     rw [Bool.not_eq_true', List.any_eq_false] at hc
     have := hc r hr
     unfold dropped at this
     simpa using this
   · unfold il at hc
     obtain ⟨f, hf, Aa⟩ := List.any_eq_true.1 hc
     obtain ⟨f0, f1⟩ := hp.foe q hq f hf
     exact qf hp hs_ hq Ad (.inr (.inl ⟨f, hf, h.s.mm f 1 f0 f1 aL Aa⟩))
   · unfold iq at hc
     obtain ⟨f, hf, Aa⟩ := List.any_eq_true.1 hc
     obtain ⟨s, Af, Ab⟩ := List.any_eq_true.1 Aa
     rw [Bool.and_eq_true] at Ab
     obtain ⟨a, rfl, ha, Ae, -⟩ := bI Af
     by_cases ht : ae T kT (q : Int) = []
     · exact Ac fun r hr => by rw [ht] at hr; cases hr
     · exact h.over hp hs_ hq ha (cq.2 ⟨by rw [Ae]; exact cU hp (by omega) (by omega) hf, ht⟩) Ab.1 (of_decide_eq_true Ab.2) h2
 · rw [if_neg hc]
   exact ⟨h, Tem.refl, rfl, fun h2 => absurd h2 hc⟩
end
section
variable {T : Th} {F : List Int} {n k : Nat} {m : Prop} {G G' : cW} {e e' : Es} {K : Int → Int → Bool}
theorem Iv.plusD1 (hp : Pf T F n) (hs_ : m) (h : Iv T F n m G e) (hc : Cmp T F n K G e) {r : Nat} {q : Int} (hr : r < T.rules.length) (hb : q ∈ au T r) (hn : G.a true r q = false) (hq : has e q 3 = true) :
    ∃ G', Iv T F n m G' (plusD1 T e r) ∧ Cmp T F n K G' (plusD1 T e r) ∧ (∀ b s x, G'.a b s x = true ↔ G.a b s x = true ∨ (b = true ∧ s = (r : Int) ∧ x = q)) ∧ G'.n = G.n ∧ G'.f = G.f := by
 have i1 := h.met hp (b := true) hr (gH hr) hb hn hq
 have Ac : ∀ s, s ≠ (r : Int) → used (bG e true r) s = used e s := fun s hs => by
  unfold Fa.used
  show decide (aI e.ms true (ap (e.ms true) r (cS (e.ms true r))) true s = 0) = _
  rw [aC, aq hs]
 have Ae : (bG e true r).ms false = e.ms false := by
  show aI e.ms true (ap (e.ms true) r (cS (e.ms true r))) false = e.ms false
  rw [aN (by decide)]
 have Ai : used e r = false := by
  cases hu : used e r with
  | false => rfl
  | true => have := (h.x.used hr).1 hu q hb; rw [hn] at this; cases this
 unfold Fa.plusD1
 dsimp only
 by_cases h0 : (bG e true r).ms true r = 0
 · rw [if_pos h0]
   have Af : used (bG e true r) r = true := decide_eq_true h0
   have Aa : ∀ z : Nat, (r : Int) ∉ ae T kT z → (ae T kT z).any (used (bG e true r)) = true → (ae T kT z).any (used e) = true := fun z hz ha => by
    obtain ⟨t, ht, Ab⟩ := List.any_eq_true.1 ha
    exact List.any_eq_true.2 ⟨t, ht, by rw [← Ac t fun e1 => hz (e1 ▸ ht)]; exact Ab⟩
   obtain ⟨G2, i2, p2, g2, m2, f2, d2, o2, k2, u2, -, b2, Ag, Ah, r2⟩ := i1.use hp hs_ hr Af (fun z hz hne ha hz0 => hc.p3 z hz (Aa z (fun hm => hne (by rw [(mh hm).2.1])) ha) hz0) (fun ht z hz ha hz0 => hc.p3 z hz (Aa z (fun hm => by rw [show aP T r = aB T kT r from rfl, (mh hm).2.2] at ht; cases ht) ha) hz0)
   have Ad : ∀ s, s ≠ (r : Int) → used (cD T (bG e true r) r) s = true → used e s = true := fun s hs h3 => by
    rw [bZ m2, Ac s hs] at h3; exact h3
   refine ⟨G2, i2, ⟨fun s hs hk h3 => u2 _ _ aL (hc.c1 s hs hk (by rw [m2, Ae] at h3; exact h3)), fun z hz => u2 _ _ aL (hc.cf z hz), fun z hz hF hall => u2 _ _ aM (hc.c2 z hz hF (by rw [f2] at hall; exact hall)), p2, fun t ht1 ht Ab s hs => ?_, r2 hc.gr, fun t ht1 ht hf s hs => by rw [g2.w]; rw [f2] at hf; exact hc.gw t ht1 ht hf s hs, fun b s hs hk hf => by rw [g2.c]; rw [f2] at hf; exact hc.gc b s hs hk hf, fun z hz => u2 _ _ aX (hc.c3 z hz), fun z hz hK hall => u2 _ _ bH (hc.c4 z hz hK (by rw [f2] at hall; exact hall)), fun z hz hK s hs hrv Ab hcd => ?_, fun z hz hK f hf hKf => u2 _ _ bH (hc.cr z hz hK f hf hKf), fun z hz => u2 _ _ aM (hc.q2 z hz), fun z hz => u2 _ _ aL (hc.q1 z hz)⟩, fun b s x => by rw [g2.a]; exact gJ, g2.n, g2.f⟩
   · by_cases et : (t : Int) = r
     · have : t = r := by omega
       subst this
       exact Ag ht s hs
     · exact b2 _ _ (hc.cb t ht1 ht (Ad t et Ab) s hs)
   · rw [d2] at hcd
     by_cases et : (s : Int) = r
     · have : s = r := by omega
       subst this
       exact Ah _ hrv hcd (hc.q2 _ hK)
     · exact u2 _ _ bH (hc.co z hz hK s hs hrv (Ad s et Ab) hcd)
 · rw [if_neg h0]
   have us : used (bG e true r) = used e := by
    funext s
    by_cases es : s = (r : Int)
    · rw [es, Ai]; exact decide_eq_false h0
    · exact Ac s es
   refine ⟨_, i1, hc.of us Ae rfl rfl rfl (fun _ _ _ hz => hz) rfl rfl hc.c2 (fun z hz ha hz0 => hc.p3 z hz (by rw [us] at ha; exact ha) hz0) hc.gc, fun b s x => gJ, rfl, rfl⟩
theorem sx (hp : Pf T F n) (hs_ : m) {q : Int} : ∀ (l : List Int) {G : cW} {e : Es}, l.Nodup → (∀ r ∈ l, r ∈ bh T true q ∧ G.a true r q = false) → Iv T F n m G e → Cmp T F n K G e → has e q 3 = true →
    ∃ G', Iv T F n m G' (l.foldl (Fa.plusD1 T) e) ∧ Cmp T F n K G' (l.foldl (Fa.plusD1 T) e) ∧ (∀ b s x, G'.a b s x = true ↔ G.a b s x = true ∨ (b = true ∧ s ∈ l ∧ x = q)) ∧ G'.n = G.n ∧ G'.f = G.f := by
 intro l
 induction l with
 | nil => intro G e _ _ h hc _; exact ⟨G, h, hc, fun b r x => by simp, rfl, rfl⟩
 | cons r0 l ih =>
  intro G e Ac hl h hc hq
  obtain ⟨Ab, Aa⟩ := List.nodup_cons.1 Ac
  obtain ⟨r, rfl, hr, hk, hb⟩ := jP (hl r0 List.mem_cons_self).1
  obtain ⟨G1, i1, c1, a1, n1, f1⟩ := h.plusD1 hp hs_ hc hr hb (hl r List.mem_cons_self).2 hq
  have hg : Gro e (Fa.plusD1 T e r) := by
   unfold Fa.plusD1
   dsimp only
   split
   · exact (Gro.refl h.y).met.use
   · exact (Gro.refl h.y).met
  obtain ⟨G2, i2, c2, a2, n2, f2⟩ := ih Aa (fun s hs => ⟨(hl s (List.mem_cons_of_mem _ hs)).1, by
   cases hg : G1.a true s q with
   | false => rfl
   | true =>
    rcases (a1 true s q).1 hg with h3 | ⟨-, h3, -⟩
    · rw [(hl s (List.mem_cons_of_mem _ hs)).2] at h3; cases h3
    · exact absurd (h3 ▸ hs) Ab⟩) i1 c1 (hg.up _ _ aX hq)
  refine ⟨G2, i2, c2, fun b s x => ?_, n2.trans n1, f2.trans f1⟩
  rw [a2, a1]
  simp only [List.mem_cons]
  constructor
  · rintro ((h | ⟨h1, h2, h3⟩) | ⟨h1, h2, h3⟩)
    · exact .inl h
    · exact .inr ⟨h1, .inl h2, h3⟩
    · exact .inr ⟨h1, .inr h2, h3⟩
  · rintro (h | ⟨h1, h2 | h2, h3⟩)
    · exact .inl (.inl h)
    · exact .inl (.inr ⟨h1, h2, h3⟩)
    · exact .inr ⟨h1, h2, h3⟩
theorem Iv.minusD1 (hp : Pf T F n) (hs_ : m) (h : Iv T F n m G e) (hc : Cmp T F n K G e) {r : Nat} {q : Int} (hr : r < T.rules.length) (hb : q ∈ au T r) (hq : has e q 4 = true) :
    ∃ G', Iv T F n m G' (minusD1 T e r) ∧ Cmp T F n K G' (minusD1 T e r) ∧ (∀ b s x, G'.n b s x = true ↔ G.n b s x = true ∨ (b = true ∧ s = (r : Int) ∧ x = q)) ∧ G'.a = G.a ∧ G'.f = G.f := by
 have i1 := h.ref (b := true) hr hb hq
 unfold Fa.minusD1
 by_cases hf : e.rf true r = true
 · have e1 : refE e true r = e := by unfold refE; rw [if_pos hf]
   rw [e1] at i1
   rw [if_pos hf]
   exact ⟨_, i1, hc.tem Tem.refl rfl rfl rfl hc.c1, fun b s x => gJ, rfl, rfl⟩
 · rw [if_neg hf]
   have Aa : (refE e true r).cb = e.cb := dz.2.2.2.2.1
   have Ab : ∀ z t, has (refE e true r) z t = has e z t := fun z t => jI
   have p1 : P3 T n (refE e true r) := hc.p3.ms (by rw [dz.1]) dz.2.2.1 fun z hz => by rw [Ab]; exact hz
   obtain ⟨G2, i2, t2, p2, a2, n2, f2, r2, w2, c2, Ai, Ah, Ae, Ag, Af, Ak⟩ := i1.drop hp hs_ p1 hr sk (fun z hz hcz => by
       cases hg : G.r r z with
       | false => rfl
       | true =>
        rcases h.s.r r z hg with h5 | h5
        · exact absurd h5 hf
        · rw [Aa, h5] at hcz; cases hcz) (fun s hs => by
       cases hg : G.w r s with
       | false => rfl
       | true => exact absurd (h.s.w r s hg) hf) (by
       cases hg : G.c true r with
       | false => rfl
       | true => exact absurd (h.s.c true r hg) hf)
   have up : ∀ z t, ar t → has e z t = true → has (bO T (refE e true r) r) z t = true := fun z t ht hz => t2.up z t ht (by rw [Ab]; exact hz)
   have ms' : (bO T (refE e true r) r).ms = e.ms := t2.ms.trans dz.1
   have us' : used (bO T (refE e true r) r) = used e := bZ ms'
   have cb' : (bO T (refE e true r) r).cb = e.cb := t2.cb.trans Aa
   have rf' : ∀ b s, ¬ (b = true ∧ s = (r : Int)) → (bO T (refE e true r) r).rf b s = e.rf b s := fun b s hbs => by rw [t2.rf]; exact rO hbs
   obtain ⟨hd, An, Am⟩ := fe hp hr
   refine ⟨G2, i2, ⟨fun s hs hk h3 => up _ _ aL (hc.c1 s hs hk (by rw [ms'] at h3; exact h3)), fun z hz => up _ _ aL (hc.cf z hz), fun z hz hF hall => up _ _ aM (hc.c2 z hz hF fun s hs => by have := hall s hs; rw [rf' false s (by simp)] at this; exact this), p2, fun t ht1 ht hut s hs => by rw [cb']; rw [us'] at hut; exact hc.cb t ht1 ht hut s hs, fun s hs z hz ho => ?_, fun t ht1 ht hft s hs => ?_, fun b s hs hk hfs => ?_, fun z hz => up _ _ aX (hc.c3 z hz), fun z hz hK hall => ?_, fun z hz hK s hs hrv hut hcd => ?_, fun z hz hK f hf2 hKf => up _ _ bH (hc.cr z hz hK f hf2 hKf), fun z hz => up _ _ aM (hc.q2 z hz), fun z hz => up _ _ aL (hc.q1 z hz)⟩, fun b s x => by rw [n2]; exact gJ, a2, f2⟩
   · by_cases es : (s : Int) = r
     · have : s = r := by omega
       subst this
       cases hcz : e.cb s z with
       | false => exact Ah z hz (by rw [Aa]; exact hcz)
       | true => exact r2 _ _ (hc.gr s hs z hz (.inr hcz))
     · rw [rf' true s fun e1 => es e1.2, cb'] at ho
       exact r2 _ _ (hc.gr s hs z hz ho)
   · by_cases es : (t : Int) = r
     · have : t = r := by omega
       subst this
       exact (Ae ht).1 s hs
     · rw [rf' true t fun e1 => es e1.2] at hft
       exact w2 _ _ (hc.gw t ht1 ht hft s hs)
   · cases b with
     | false =>
      rw [Ai]
      rw [rf' false s (by simp)] at hfs
      exact hc.gc false s hs hk hfs
     | true =>
      by_cases es : (s : Int) = r
      · have : s = r := by omega
        subst this
        exact (Ae hk).2
      · rw [rf' true s fun e1 => es e1.2] at hfs
        exact c2 _ (hc.gc true s hs hk hfs)
   · by_cases hm : (r : Int) ∈ ae T kT z
     · obtain ⟨-, Ac, Aj⟩ := mh hm
       have Ad : (z : Int) = ag T r := Ac.symm
       have ht : aP T r = true := Aj
       rw [Ad]
       refine Ag ht ?_ (by rw [Ab, ← Ad]; exact hc.q2 z hK)
       rw [Ac]
       refine tJ i1.x (b := true) hz hm (by
        show G.c true r = false
        cases hg : G.c true r with
        | false => rfl
        | true => exact absurd (h.s.c true r hg) hf) (qn i1.x (fun h5 => by cases h5) fun t htm => by rw [← t2.rf]; exact hall t htm) fun t htm hne => ?_
       obtain ⟨a, rfl, ha, -, Al⟩ := bI htm
       have h3 := hall a htm
       rw [rf' true a fun e1 => hne e1.2] at h3
       exact hc.gc true a ha Al h3
     · refine up _ _ bH (hc.c4 z hz hK fun t htm => ?_)
       have h3 := hall t htm
       rw [rf' true t fun e1 => hm (e1.2 ▸ htm)] at h3
       exact h3
   · rw [us'] at hut
     by_cases hcase : (z : Int) ≠ ag T r ∨ (s : Int) ∉ row T.beats r ∨ aP T r = false
     · rw [Af s z hcase, dz.2.1] at hcd
       exact up _ _ bH (hc.co z hz hK s hs hrv hut hcd)
     · have h5 : (z : Int) = ag T r := Classical.byContradiction fun h5 => hcase (.inl h5)
       have h6 : (s : Int) ∈ row T.beats r := Classical.byContradiction fun h6 => hcase (.inr (.inl h6))
       have h7 : aP T r = true := by cases h7 : aP T r; exact absurd (.inr (.inr h7)) hcase; rfl
       rw [h5] at hcd hK ⊢
       exact Ak h7 s h6 hcd (by rw [bZ dz.1]; exact hut) (by rw [Ab]; exact hc.q2 _ hK)
theorem qR (hp : Pf T F n) (hs_ : m) {q : Int} : ∀ (l : List Int) {G : cW} {e : Es}, (∀ r ∈ l, r ∈ bh T true q) → Iv T F n m G e → Cmp T F n K G e → has e q 4 = true →
    ∃ G', Iv T F n m G' (l.foldl (Fa.minusD1 T) e) ∧ Cmp T F n K G' (l.foldl (Fa.minusD1 T) e) ∧ (∀ b s x, G'.n b s x = true ↔ G.n b s x = true ∨ (b = true ∧ s ∈ l ∧ x = q)) ∧ G'.a = G.a ∧ G'.f = G.f := by
 intro l
 induction l with
 | nil => intro G e _ h hc _; exact ⟨G, h, hc, fun b r x => by simp, rfl, rfl⟩
 | cons r0 l ih =>
  intro G e hl h hc hq
  obtain ⟨r, rfl, hr, hk, hb⟩ := jP (hl r0 List.mem_cons_self)
  obtain ⟨G1, i1, c1, n1, a1, f1⟩ := h.minusD1 hp hs_ hc hr hb hq
  have hg : Gro e (Fa.minusD1 T e r) := by
   unfold Fa.minusD1
   split
   · exact Gro.refl h.y
   · exact (Gro.refl h.y).ref.drop
  obtain ⟨G2, i2, c2, n2, a2, f2⟩ := ih (fun s hs => hl s (List.mem_cons_of_mem _ hs)) i1 c1 (hg.up _ _ bH hq)
  refine ⟨G2, i2, c2, fun b s x => ?_, a2.trans a1, f2.trans f1⟩
  rw [n2, n1]
  simp only [List.mem_cons]
  constructor
  · rintro ((h | ⟨h1, h2, h3⟩) | ⟨h1, h2, h3⟩)
    · exact .inl h
    · exact .inr ⟨h1, .inl h2, h3⟩
    · exact .inr ⟨h1, .inr h2, h3⟩
  · rintro (h | ⟨h1, h2 | h2, h3⟩)
    · exact .inl (.inl h)
    · exact .inl (.inr ⟨h1, h2, h3⟩)
    · exact .inr ⟨h1, h2, h3⟩
end
def aT (K : Int → Int → Bool) (q t : Int) : Int → Int → Bool := fun z u => K z u || decide (z = q ∧ u = t)
section
variable {T : Th} {F : List Int} {n k : Nat} {m : Prop} {G G' : cW} {e e' : Es} {K : Int → Int → Bool}
theorem dy {q t z u : Int} : aT K q t z u = true ↔ K z u = true ∨ (z = q ∧ u = t) := by unfold aT; simp
theorem fU {q t z u : Int} (h : u ≠ t) : aT K q t z u = K z u := by unfold aT; simp [h]
theorem Cmp.k34 (h : Cmp T F n K G e) {q t : Int} (h1 : t ≠ 1) (h2 : t ≠ 2) : Cmp T F n (aT K q t) G e := by
 have e1 : ∀ z, aT K q t z 1 = K z 1 := fun z => fU (Ne.symm h1)
 have e2 : ∀ z, aT K q t z 2 = K z 2 := fun z => fU (Ne.symm h2)
 exact ⟨h.c1, h.cf, h.c2, h.p3, h.cb, h.gr, h.gw, h.gc, fun z hz => h.c3 z (by rw [e1] at hz; exact hz), fun z hz hK => h.c4 z hz (by rw [e2] at hK; exact hK), fun z hz hK => h.co z hz (by rw [e2] at hK; exact hK), fun z hz hK f hf hKf => h.cr z hz (by rw [e2] at hK; exact hK) f hf (by rw [e1] at hKf; exact hKf), fun z hz => h.q2 z (by rw [e2] at hz; exact hz), fun z hz => h.q1 z (by rw [e1] at hz; exact hz)⟩
theorem Cmp.k1 (h : Cmp T F n K G e) {q : Int} (h1 : has e q 1 = true) (h3 : has e q 3 = true) (h4 : ∀ z : Nat, z < n → K z 2 = true → q ∈ row T.foes z → has e z 4 = true) : Cmp T F n (aT K q 1) G e := by
 have e2 : ∀ z, aT K q 1 z 2 = K z 2 := fun z => fU (by decide)
 refine ⟨h.c1, h.cf, h.c2, h.p3, h.cb, h.gr, h.gw, h.gc, fun z hz => ?_, fun z hz hK => h.c4 z hz (by rw [e2] at hK; exact hK), fun z hz hK => h.co z hz (by rw [e2] at hK; exact hK), fun z hz hK f hf hKf => ?_, fun z hz => h.q2 z (by rw [e2] at hz; exact hz), fun z hz => ?_⟩
 · rcases dy.1 hz with h5 | ⟨rfl, -⟩
   · exact h.c3 z h5
   · exact h3
 · rw [e2] at hK
   rcases dy.1 hKf with h5 | ⟨rfl, -⟩
   · exact h.cr z hz hK f hf h5
   · exact h4 z hz hK hf
 · rcases dy.1 hz with h5 | ⟨rfl, -⟩
   · exact h.q1 z h5
   · exact h1
theorem Cmp.k2 (h : Cmp T F n K G e) {q : Nat} (h2 : has e q 2 = true) (h4 : (∀ r ∈ ae T kT q, e.rf true r = true) → has e q 4 = true) (ho : ∀ s : Nat, s < T.rules.length → (q : Int) ∈ aj T (ag T s) → used e s = true → e.cd s q = 0 → has e q 4 = true) (hr : ∀ f ∈ row T.foes q, K f 1 = true → has e q 4 = true) : Cmp T F n (aT K q 2) G e := by
 have e1 : ∀ z, aT K q 2 z 1 = K z 1 := fun z => fU (by decide)
 refine ⟨h.c1, h.cf, h.c2, h.p3, h.cb, h.gr, h.gw, h.gc, fun z hz => h.c3 z (by rw [e1] at hz; exact hz), fun z hz hK => ?_, fun z hz hK => ?_, fun z hz hK f hf hKf => ?_, fun z hz => ?_, fun z hz => h.q1 z (by rw [e1] at hz; exact hz)⟩
 · rcases dy.1 hK with h5 | ⟨h5, -⟩
   · exact h.c4 z hz h5
   · rw [h5]; exact h4
 · rcases dy.1 hK with h5 | ⟨h5, -⟩
   · exact h.co z hz h5
   · rw [h5]; exact ho
 · rw [e1] at hKf
   rcases dy.1 hK with h5 | ⟨h5, -⟩
   · exact h.cr z hz h5 f hf hKf
   · rw [h5] at hf ⊢; exact hr f hf hKf
 · rcases dy.1 hz with h5 | ⟨h5, -⟩
   · exact h.q2 z h5
   · rw [h5]; exact h2
structure Tie (T : Th) (F : List Int) (K : Int → Int → Bool) (G : cW) : Prop where
 a : ∀ b (r : Nat) x, r < T.rules.length → aB T (kW b) r = true → x ∈ au T r → (G.a b r x = true ↔ K x (tp b) = true)
 n : ∀ b (r : Nat) x, r < T.rules.length → aB T (kW b) r = true → x ∈ au T r → (G.n b r x = true ↔ K x (tn b) = true)
 f : ∀ f p, aA T F f = true → p ∈ aj T f → (G.f f p = true ↔ K f 2 = true)
theorem Tie.addA (h : Tie T F K G) {b0 : Bool} {q : Int} (ha : ∀ b r x, G'.a b r x = true ↔ G.a b r x = true ∨ (b = b0 ∧ r ∈ bh T b0 q ∧ x = q)) (hn : G'.n = G.n) (hf : G'.f = G.f) : Tie T F (aT K q (tp b0)) G' := by
 refine ⟨fun b r x hr hk hx => ?_, fun b r x hr hk hx => ?_, fun f p h1 h2 => ?_⟩
 · rw [ha, h.a b r x hr hk hx, dy]
   constructor
   · rintro (h1 | ⟨rfl, -, h2⟩)
     · exact .inl h1
     · exact .inr ⟨h2, rfl⟩
   · rintro (h1 | ⟨rfl, h2⟩)
     · exact .inl h1
     · have eb : b = b0 := by revert h2; cases b <;> cases b0 <;> decide
       subst eb
       exact .inr ⟨rfl, pZ hr hk hx, rfl⟩
 · rw [hn, h.n b r x hr hk hx, fU (by cases b <;> cases b0 <;> decide)]
 · rw [hf, h.f f p h1 h2, fU (by cases b0 <;> decide)]
theorem Tie.addN (h : Tie T F K G) {b0 : Bool} {q : Int} (hn : ∀ b r x, G'.n b r x = true ↔ G.n b r x = true ∨ (b = b0 ∧ r ∈ bh T b0 q ∧ x = q)) (ha : G'.a = G.a) (hf : ∀ f p, aA T F f = true → p ∈ aj T f → (G'.f f p = true ↔ aT K q (tn b0) f 2 = true)) : Tie T F (aT K q (tn b0)) G' := by
 refine ⟨fun b r x hr hk hx => ?_, fun b r x hr hk hx => ?_, hf⟩
 · rw [ha, h.a b r x hr hk hx, fU (by cases b <;> cases b0 <;> decide)]
 · rw [hn, h.n b r x hr hk hx, dy]
   constructor
   · rintro (h1 | ⟨rfl, -, h2⟩)
     · exact .inl h1
     · exact .inr ⟨h2, rfl⟩
   · rintro (h1 | ⟨rfl, h2⟩)
     · exact .inl h1
     · have eb : b = b0 := by revert h2; cases b <;> cases b0 <;> decide
       subst eb
       exact .inr ⟨rfl, pZ hr hk hx, rfl⟩
def iQ (e : Es) : Int → Int → Bool := fun z u => decide ((z, u) ∈ e.td.take e.tk)
structure mz (T : Th) (F : List Int) (n : Nat) (m : List Int) (e : Es) : Prop where
 iv : ∃ G, Iv T F n True G e ∧ Cmp T F n (iQ e) G e ∧ Tie T F (iQ e) G
 sm : ∀ q, e.mq q < 16
 td : ∀ z t, ar t → has e z t = true → (z, t) ∈ e.td
theorem vF (hp : Pf T F n) (hs_ : m) (h : Iv T F n m G e) (hc : Cmp T F n K G e) (ht : Tie T F K G) {q : Nat} {t : Int} (hq : q < n) (htag : ar t) (hh : has e q t = true) (hK : K q t = false) : ∃ G', Iv T F n m G' (fy T F e q t) ∧ Cmp T F n (aT K q t) G' (fy T F e q t) ∧ Tie T F (aT K q t) G' := by
 have Ab : ∀ b, t = tp b → ∀ r ∈ bh T b q, G.a b r q = false := fun b hb r hr => by
  obtain ⟨a, rfl, ha, hk, hx⟩ := jP hr
  cases hg : G.a b a q with
  | false => rfl
  | true => have := (ht.a b a q ha hk hx).1 hg; rw [← hb, hK] at this; cases this
 rcases htag with rfl | rfl | rfl | rfl
 · show ∃ G', Iv T F n m G' (fY T e q) ∧ Cmp T F n (aT K q 1) G' (fY T e q) ∧ Tie T F (aT K q 1) G'
   have Ae := h.s.mm q 1 (by omega) (by omega) aL hh
   have Ag : aZ T F (Mq n e) 3 q = true := cond3.trans (eV.2 (.inl Ae))
   have t0 := gD h.y (q := (q : Int)) aX
   obtain ⟨G1, i1, c1, t1, a1, n1, f1⟩ := sg hp hs_ (q := (q : Int)) (bh T false q) pH (fun _ h => h) (h.tell aX Ag) (hc.tem1 t0 tell_ms) (t0.up _ _ aL hh) (Ab false rfl)
   obtain ⟨i2, c2, t2, l2⟩ := uc hp hs_ (q := (q : Int)) (by omega) (by omega) (row T.foes q) (fun _ h => h) i1 c1 (t1.up _ _ aL (t0.up _ _ aL hh))
   refine ⟨G1, i2, c2.k1 (t2.up _ _ aL (t1.up _ _ aL (t0.up _ _ aL hh))) (t2.up _ _ aX (t1.up _ _ aX (eY h.y aX))) fun z hz hKz hf => ?_, ht.addA (b0 := false) a1 n1 f1⟩
   exact l2 z (cU hp (by omega) (by omega) hf) (c1.q2 z hKz)
 · show ∃ G', Iv T F n m G' (dN T F e q) ∧ Cmp T F n (aT K q 2) G' (dN T F e q) ∧ Tie T F (aT K q 2) G'
   unfold dN
   dsimp only
   obtain ⟨G1, i1, c1, n1, a1, f1⟩ := rh hp hs_ (q := (q : Int)) (bh T false q) (fun _ h => h) h hc hh
   have Aa : has ((bh T false q).foldl (Fa.minusS1 T) e) q 2 = true := (Gro.fold (Gro.refl h.y) fun r _ e2 h => h.minusS1 : Gro e ((bh T false q).foldl (Fa.minusS1 T) e)).up _ _ aM hh
   have Ac : ∀ {G2 : cW} {e2 : Es}, Iv T F n m G2 e2 → Cmp T F n K G2 e2 → has e2 q 2 = true → Iv T F n m G2 (aG T e2 q) ∧ Cmp T F n (aT K q 2) G2 (aG T e2 q) := fun {G2 e2} i2 c2 h2 => by
    obtain ⟨i3, t3, m3, d3⟩ := i2.disprove hp hs_ hq
    refine ⟨i3, (c2.tem1 t3 m3).k2 (t3.up _ _ aM h2) (fun hall => d3 ?_ h2) (fun s hs hrv hu hcd => d3 ?_ h2) fun f hf hKf => d3 ?_ h2⟩
    · rw [t3.rf] at hall
      have : gj T e2 q = true := by
       unfold gj
       rw [Bool.not_eq_true', List.any_eq_false]
       intro r hr
       unfold dropped
       rw [hall r hr]
       decide
      rw [this]
      rfl
    · have : iq T e2 q = true := by
       unfold iq
       obtain ⟨Af, -⟩ := cq.1 hrv
       obtain ⟨x, hx, Ad, x0, x1⟩ := cV hp hs
       refine List.any_eq_true.2 ⟨ag T s, cU hp (by rw [Ad]; exact x0) (by rw [Ad]; exact x1) Af, List.any_eq_true.2 ⟨s, ky hs (gH hs), ?_⟩⟩
       rw [bZ m3] at hu
       rw [t3.cd] at hcd
       rw [hu, decide_eq_true hcd]
       rfl
      rw [this]
      simp
    · obtain ⟨f0, f1⟩ := hp.foe q hq f hf
      have h1 : has e2 f 1 = true := c2.q1 f hKf
      have : il T e2 q = true := List.any_eq_true.2 ⟨f, hf, h1⟩
      rw [this]
      simp
   by_cases hfm : aA T F q = true
   · rw [if_pos hfm]
     obtain ⟨G2, i2, c2, f2, a2, n2⟩ := wF hp hs_ hq hfm (aj T q) ((cX (eG hp hq).1).filter _) (fun p hpr => ⟨hpr, by
      rw [f1]
      cases hg : G.f q p with
      | false => rfl
      | true => have := (ht.f q p hfm hpr).1 hg; rw [hK] at this; cases this⟩) i1 c1 Aa
     obtain ⟨i3, c3⟩ := Ac i2 c2 ((Gro.fold (Gro.refl i1.y) fun p _ e2 h => h.clear.prove : Gro _ ((aj T q).foldl (i5 T) ((bh T false q).foldl (Fa.minusS1 T) e))).up _ _ aM Aa)
     refine ⟨G2, i3, c3, ht.addN (b0 := false) (by rw [n2]; exact n1) (a2.trans a1) fun f p h1 h2 => ?_⟩
     rw [f2, f1, ht.f f p h1 h2, show tn false = 2 from rfl, dy]
     constructor
     · rintro (h5 | ⟨h5, -⟩)
       · exact .inl h5
       · exact .inr ⟨h5, rfl⟩
     · rintro (h5 | ⟨h5, -⟩)
       · exact .inl h5
       · exact .inr ⟨h5, by rw [h5] at h2; exact h2⟩
   · rw [if_neg hfm]
     obtain ⟨i3, c3⟩ := Ac i1 c1 Aa
     refine ⟨G1, i3, c3, ht.addN (b0 := false) n1 a1 fun f p h1 h2 => ?_⟩
     rw [f1, ht.f f p h1 h2, show tn false = 2 from rfl, dy]
     constructor
     · exact .inl
     · rintro (h5 | ⟨h5, -⟩)
       · exact h5
       · rw [h5] at h1; exact absurd h1 hfm
 · obtain ⟨G1, i1, c1, a1, n1, f1⟩ := sx hp hs_ (q := (q : Int)) (bh T true q) pH (fun r hr => ⟨hr, Ab true rfl r hr⟩) h hc hh
   exact ⟨G1, i1, c1.k34 (by decide) (by decide), ht.addA (b0 := true) a1 n1 f1⟩
 · obtain ⟨G1, i1, c1, n1, a1, f1⟩ := qR hp hs_ (q := (q : Int)) (bh T true q) (fun _ h => h) h hc hh
   exact ⟨G1, i1, c1.k34 (by decide) (by decide), ht.addN (b0 := true) n1 a1 fun f p h1 h2 => by rw [f1, ht.f f p h1 h2, fU (by decide)]⟩
end
section
variable {T : Th} {F : List Int} {n k : Nat} {m : Prop} {m0 : List Int} {G G' : cW} {e e' : Es} {K : Int → Int → Bool}
theorem qw {α : Type} {l l2 : List α} {j : Nat} {x : α} (h : l[j]? = some x) : (l ++ l2).take (j + 1) = l.take j ++ [x] := by
 have hj := (List.getElem?_eq_some_iff.1 h).1
 rw [List.take_append_of_le_length (by omega), List.take_add_one, h]
 rfl
theorem uY (hp : Pf T F n) (_ : gA T F m0 k) (h : mz T F n m0 e) (htok : Tok n e) (hlt : e.tk < e.td.length) : mz T F n m0 (gT T F e) := by
 obtain ⟨x, hx⟩ := am hlt
 obtain ⟨x0, x1, xt, xh⟩ := htok.inn x (List.mem_of_getElem? hx)
 obtain ⟨G, i0, c0, t0⟩ := h.iv
 obtain ⟨q, hq⟩ := Int.eq_ofNat_of_zero_le x0
 have hK : iQ e q x.2 = false := by
  unfold iQ
  rw [decide_eq_false_iff_not, ← hq]
  intro hm
  have hn : (e.td.take (e.tk + 1)).Nodup := (List.take_sublist _ _).nodup htok.nd
  have h2 := qw (l2 := []) hx
  rw [List.append_nil] at h2
  rw [h2, List.nodup_append] at hn
  exact hn.2.2 _ hm _ (List.mem_singleton.2 rfl) rfl
 have i1 : Iv T F n True G (dY e) := ⟨i0.x.same rfl rfl rfl rfl rfl, ⟨i0.s.a, i0.s.nn, i0.s.c, i0.s.f, i0.s.r, i0.s.w, i0.s.cb⟩, i0.y, ey i0.o rfl rfl, i0.nf⟩
 have c1 : Cmp T F n (iQ e) G (dY e) := ⟨c0.c1, c0.cf, c0.c2, c0.p3, c0.cb, c0.gr, c0.gw, c0.gc, c0.c3, c0.c4, c0.co, c0.cr, c0.q2, c0.q1⟩
 obtain ⟨G1, i2, c2, t2⟩ := vF hp trivial i1 c1 t0 (show q < n by omega) xt (show has e q x.2 = true by rw [← hq]; exact xh) hK
 have hE : gT T F e = fy T F (dY e) q x.2 := by
  unfold gT
  rw [List.getD_eq_getElem?_getD, hx, ← hq]
  rfl
 rw [hE]
 have hg : Gro (dY e) (fy T F (dY e) q x.2) := (Gro.refl i1.y).does
 obtain ⟨l, hl⟩ := hg.td
 have Aa : iQ (fy T F (dY e) q x.2) = aT (iQ e) q x.2 := by
  funext z u
  unfold iQ aT
  rw [hg.tk, hl, show (dY e).tk = e.tk + 1 from rfl, show (dY e).td = e.td from rfl, qw hx]
  rw [Bool.eq_iff_iff]
  simp only [decide_eq_true_eq, Bool.or_eq_true, List.mem_append, List.mem_singleton]
  rw [show x = ((q : Int), x.2) from Prod.ext hq rfl, Prod.mk.injEq]
 exact ⟨⟨G1, i2, by rw [Aa]; exact c2, by rw [Aa]; exact t2⟩, hg.sm h.sm, hg.tdd h.td⟩
theorem uG : li T rq (aU T F) := by
 intro s _ p _ ho
 rcases ho with ho | ho
 · have ho : false = true := ho
   cases ho
 · have ho : false = true := ho
   cases ho
theorem wG (hp : Pf T F n) : ∀ j : Nat, j ≤ T.rules.length → ∃ G, Iv T F n False G (bareE T j (aU T F)) ∧ Agh rq G ∧ Alk (aU T F) (bareE T j (aU T F)) ∧ li T G (bareE T j (aU T F)) ∧ ∀ t : Nat, t < j → aP T t = true → au T t = [] → ∀ s ∈ row T.beats t, (bareE T j (aU T F)).cb s (ag T t) = true := by
 intro j
 induction j with
 | zero => intro _; exact ⟨rq, Iv.start, Agh.refl, Alk.refl, uG, fun t ht => absurd ht (by omega)⟩
 | succ j ih =>
  intro hj
  obtain ⟨G, i, g, a, r, c⟩ := ih (by omega)
  have hE : bareE T (j + 1) (aU T F) = gi T (bareE T j (aU T F)) j := by unfold bareE; rw [List.range_succ, List.foldl_append]; rfl
  rw [hE]
  unfold gi
  by_cases hc : (aP T j && (au T j).isEmpty) = true
  · rw [if_pos hc]
    rw [Bool.and_eq_true, List.isEmpty_iff] at hc
    obtain ⟨G2, i2, g2, a2, Aa, m2, r2⟩ := i.defend hp (show j < T.rules.length by omega) hc.1 fun x hx => by rw [hc.2] at hx; cases hx
    refine ⟨G2, i2, g.trans g2, a.trans a2, r2 r, fun t ht htm hb s hs => ?_⟩
    by_cases e1 : t = j
    · subst e1; exact Aa s hs
    · exact m2 _ _ (c t (by omega) htm hb s hs)
  · rw [if_neg hc]
    refine ⟨G, i, g, a, r, fun t ht htm hb s hs => ?_⟩
    by_cases e1 : t = j
    · subst e1; exact absurd (by rw [htm, hb]; rfl) hc
    · exact c t (by omega) htm hb s hs
theorem uS (h : Iv T F n m G e) : ∀ j : Nat, j ≤ n → Iv T F n m G ((List.range j).foldl (bN T F) e) ∧ Tem e ((List.range j).foldl (bN T F) e) ∧ ((List.range j).foldl (bN T F) e).ms = e.ms ∧ ∀ q : Nat, q < j → (aA T F q = false → has ((List.range j).foldl (bN T F) e) q 2 = true) ∧ (aA T F q = true → e.op false q = 0 → has ((List.range j).foldl (bN T F) e) q 1 = true) := by
 intro j
 induction j with
 | zero => intro _; exact ⟨h, Tem.refl, rfl, fun q hq => absurd hq (by omega)⟩
 | succ j ih =>
  intro hj
  obtain ⟨i, t, ms, d⟩ := ih (by omega)
  rw [List.range_succ, List.foldl_append]
  show Iv T F n m G (bN T F _ j) ∧ Tem e (bN T F _ j) ∧ (bN T F _ j).ms = e.ms ∧ _
  have old : ∀ {e2 : Es}, (∀ z t, ar t → has ((List.range j).foldl (bN T F) e) z t = true → has e2 z t = true) → ∀ q : Nat, q < j → (aA T F q = false → has e2 q 2 = true) ∧ (aA T F q = true → e.op false q = 0 → has e2 q 1 = true) := fun up q hq => ⟨fun h1 => up _ _ aM ((d q hq).1 h1), fun h1 h2 => up _ _ aL ((d q hq).2 h1 h2)⟩
  generalize (List.range j).foldl (bN T F) e = e1 at *
  show Iv T F n m G (bN T F e1 j) ∧ Tem e (bN T F e1 j) ∧ (bN T F e1 j).ms = e.ms ∧ ∀ q : Nat, q < j + 1 → (aA T F q = false → has (bN T F e1 j) q 2 = true) ∧ (aA T F q = true → e.op false q = 0 → has (bN T F e1 j) q 1 = true)
  unfold bN
  by_cases Aa : aA T F j = true
  · rw [Aa]
    simp only [Bool.not_true, Bool.false_eq_true, if_false]
    by_cases h0 : e1.op false j = 0
    · rw [if_pos h0]
      have t2 := gD i.y (q := (j : Int)) aL
      have hm : aZ T F (Mq n e1) 1 j = true := by
       refine cond1.trans (fN.2 ?_)
       have h3 := i.x.op false j (by omega)
       rw [h0] at h3
       split at h3
       · rename_i h4
         rw [Bool.or_eq_true] at h4
         unfold aA at Aa
         rw [Bool.or_eq_true] at Aa
         rcases h4 with h4 | h4
         · unfold cF at h4
           rw [Bool.or_eq_true] at h4
           rcases h4 with h4 | h4
           · unfold ix at h4
             obtain ⟨r, hr, hb⟩ := List.any_eq_true.1 h4
             refine .inr ⟨r, hr, ?_⟩
             unfold cO
             rw [List.isEmpty_iff.1 hb]
             rfl
           · rw [Bool.and_eq_true] at h4
             exact .inl (of_decide_eq_true h4.2)
         · rcases Aa with Aa | Aa
           · exact .inl (of_decide_eq_true Aa)
           · have h4 : (ae T kS (j : Int)).isEmpty = true := h4
             rw [h4] at Aa; cases Aa
       · omega
      refine ⟨i.tell aL hm, t.trans t2, tell_ms.trans ms, fun q hq => ?_⟩
      by_cases e2 : q = j
      · subst e2; exact ⟨fun h5 => (by rw [Aa] at h5; cases h5), fun _ _ => eY i.y aL⟩
      · exact old t2.up q (by omega)
    · rw [if_neg h0]
      refine ⟨i, t, ms, fun q hq => ?_⟩
      by_cases e2 : q = j
      · subst e2; exact ⟨fun h5 => (by rw [Aa] at h5; cases h5), fun _ h5 => absurd (by rw [t.op]; exact h5) h0⟩
      · exact old (fun _ _ _ h => h) q (by omega)
  · have Aa : aA T F j = false := by cases hh : aA T F j; rfl; exact absurd hh Aa
    rw [Aa]
    simp only [Bool.not_false, if_true]
    have t2 := gD i.y (q := (j : Int)) aM
    have hm : aZ T F (Mq n e1) 2 j = true := by
     unfold aA at Aa
     simp only [Bool.or_eq_false_iff, decide_eq_false_iff_not, Bool.not_eq_false', List.isEmpty_iff] at Aa
     exact cond2.trans (gp.2 ⟨Aa.1, fun r hr => by rw [Aa.2] at hr; cases hr⟩)
    refine ⟨i.tell aM hm, t.trans t2, tell_ms.trans ms, fun q hq => ?_⟩
    by_cases e2 : q = j
    · subst e2; exact ⟨fun _ => eY i.y aM, fun h5 => by rw [Aa] at h5; cases h5⟩
    · exact old t2.up q (by omega)
theorem vA (hp : Pf T F n) (hs_ : m) (h : Iv T F n m G e) : ∀ j : Nat, j ≤ n → Iv T F n m G ((List.range j).foldl (da T) e) ∧ Tem e ((List.range j).foldl (da T) e) ∧ ((List.range j).foldl (da T) e).ms = e.ms ∧ ∀ q : Nat, q < j → (ae T kT q).any (used e) = true → e.ob q = 0 → has ((List.range j).foldl (da T) e) q 3 = true := by
 intro j
 induction j with
 | zero => intro _; exact ⟨h, Tem.refl, rfl, fun q hq => absurd hq (by omega)⟩
 | succ j ih =>
  intro hj
  obtain ⟨i, t, ms, d⟩ := ih (by omega)
  rw [List.range_succ, List.foldl_append]
  generalize (List.range j).foldl (da T) e = e1 at *
  show Iv T F n m G (da T e1 j) ∧ Tem e (da T e1 j) ∧ (da T e1 j).ms = e.ms ∧ ∀ q : Nat, q < j + 1 → (ae T kT q).any (used e) = true → e.ob q = 0 → has (da T e1 j) q 3 = true
  unfold da
  have first : Iv T F n m G (if has e1 j 1 = true then tell e1 j 3 else e1) ∧ Tem e1 (if has e1 j 1 = true then tell e1 j 3 else e1) ∧ (if has e1 j 1 = true then tell e1 j 3 else e1).ms = e1.ms := by
   by_cases h1 : has e1 j 1 = true
   · rw [if_pos h1]
     exact ⟨i.tell aX (cond3.trans (eV.2 (.inl (i.s.mm j 1 (by omega) (by omega) aL h1)))), gD i.y aX, tell_ms⟩
   · rw [if_neg h1]
     exact ⟨i, Tem.refl, rfl⟩
  generalize (if has e1 j 1 = true then tell e1 j 3 else e1) = e2 at *
  obtain ⟨i2, t2, Aa⟩ := first
  obtain ⟨i3, t3, o3, c3, p3, v3⟩ := i2.prove hp hs_ (show j < n by omega)
  have t3' : Tem e2 (bw T e2 j) := ⟨t3.rf, t3.cb, c3, o3, p3, t3.tk, by rw [t3.ms], t3.up, t3.td⟩
  obtain ⟨i4, t4, Ab, -⟩ := i3.disprove hp hs_ (show j < n by omega)
  have tt := t2.trans (t3'.trans t4)
  refine ⟨i4, t.trans tt, Ab.trans (t3.ms.trans (Aa.trans ms)), fun q hq hu h0 => ?_⟩
  by_cases e5 : q = j
  · subst e5
    refine t4.up _ _ aX (v3 ?_ ?_)
    · rw [bZ (Aa.trans ms)]; exact hu
    · rw [t2.ob, t.ob]; exact h0
  · exact tt.up _ _ aX (d q (by omega) hu h0)
theorem tf (hp : Pf T F n) (_ : gA T F m0 k) : mz T F n m0 (mH T F n) := by
 obtain ⟨G, i0, g0, a0, r0, b0⟩ := wG hp T.rules.length (Nat.le_refl _)
 have Aj : ∀ q, aQ ((aU T F).mq q) := fun _ => (show aQ 0 by unfold aQ; omega)
 have hg : Gro (aU T F) (beginE T F n (bareE T T.rules.length (aU T F))) := (Gro.refl Aj).bare.begin
 have Ah : beginE T F n (bareE T T.rules.length (aU T F)) = (List.range n).foldl (da T) ((List.range n).foldl (bN T F) (bareE T T.rules.length (aU T F))) := rfl
 rw [Ah] at hg
 generalize hE0 : bareE T T.rules.length (aU T F) = e0 at *
 obtain ⟨Ab, t1, m1, d1⟩ := uS i0 n (Nat.le_refl _)
 generalize hE1 : (List.range n).foldl (bN T F) e0 = e1 at *
 have i1 : Iv T F n True G e1 := ⟨Ab.x, ⟨Ab.s.a, Ab.s.nn, Ab.s.c, Ab.s.f, Ab.s.r, Ab.s.w, Ab.s.cb⟩, Ab.y, Ab.o, fun _ q hq hf => (d1 q hq).1 hf⟩
 obtain ⟨i2, t2, m2, d2⟩ := vA hp trivial i1 n (Nat.le_refl _)
 have hL : mH T F n = { (List.range n).foldl (da T) e1 with up := 0 } := by unfold mH; rw [hE0, Ah]
 generalize (List.range n).foldl (da T) e1 = e2 at *
 have Ac := t1.trans t2
 have Af : ∀ b s, e2.rf b s = false := fun b s => by rw [Ac.rf, a0.rf]; rfl
 have Ag : ∀ b r x, G.a b r x = false := fun b r x => by rw [g0.a]; rfl
 have Ae : ∀ b (r : Nat), r < T.rules.length → aB T (kW b) r = true → e2.ms b r = 0 → au T r = [] := fun b r hr hk h0 => by
  rw [i2.x.ms b r hr hk, dr] at h0
  cases hb : au T r with
  | nil => rfl
  | cons x l => have := h0 x (by rw [hb]; exact List.mem_cons_self); rw [Ag] at this; cases this
 have Ai : ∀ q : Nat, q < n → cF T F false q = true → aA T F q = true → has e2 q 1 = true := fun q hq ho hfm => by
  refine t2.up _ _ aL ((d1 q hq).2 hfm ?_)
  rw [i0.x.op false q hq, ho]
  rfl
 have Am : e2.tk = 0 := by rw [Ac.tk, a0.tk]; rfl
 have hK : ∀ z u, iQ e2 z u = false := fun z u => by unfold iQ; rw [Am]; rfl
 have Aa : Cmp T F n (iQ e2) G e2 := by
  refine ⟨fun r hr hk h0 => ?_, fun q hq => ?_, fun q hq hF hall => ?_, fun q hq hu h0 => ?_, fun t ht1 ht hu s hs => ?_, fun s hs p hp ho => ?_, fun t _ _ h => (by rw [Af] at h; cases h), fun b r _ _ h => (by rw [Af] at h; cases h), fun q h => (by rw [hK] at h; cases h), fun q _ h => (by rw [hK] at h; cases h), fun q _ h => (by rw [hK] at h; cases h), fun q _ h => (by rw [hK] at h; cases h), fun q h => (by rw [hK] at h; cases h), fun q h => (by rw [hK] at h; cases h)⟩
  · obtain ⟨hd, An, Ak⟩ := fe hp hr
    have hb := Ae false r hr hk h0
    have Ad := ky hr hk
    rw [An] at Ad ⊢
    refine Ai hd Ak ?_ ?_
    · unfold cF
      have : ix T (kL false) hd = true := List.any_eq_true.2 ⟨r, Ad, by rw [hb]; rfl⟩
      rw [this]; rfl
    · unfold aA
      cases hl : ae T kS (hd : Int) with
      | nil => rw [hl] at Ad; cases Ad
      | cons _ _ => simp
  · obtain ⟨q0, q1⟩ := hp.fact q hq
    obtain ⟨z, rfl⟩ := Int.eq_ofNat_of_zero_le q0
    refine Ai z (by omega) ?_ ?_
    · unfold cF; simp [hq]
    · unfold aA; simp [hq]
  · refine t2.up _ _ aM ((d1 q hq).1 ?_)
    unfold aA
    cases hl : ae T kS (q : Int) with
    | nil => simp [hF]
    | cons r l => have := hall r (by rw [hl]; exact List.mem_cons_self); rw [Af] at this; cases this
  · exact d2 q hq (by rw [bZ m2] at hu; exact hu) (by rw [t2.ob] at h0; exact h0)
  · rw [Ac.cb]
    exact b0 t ht1 ht (Ae true t ht1 (gH ht1) (of_decide_eq_true hu)) s hs
  · exact r0 s hs p hp (by rw [Ac.rf, Ac.cb] at ho; exact ho)
 have Al : Tie T F (iQ e2) G := ⟨fun b r x _ _ _ => (by rw [Ag, hK]), fun b r x _ _ _ => (by rw [hK, g0.n]; exact Iff.rfl), fun f p _ _ => (by rw [hK, g0.f]; exact Iff.rfl)⟩
 rw [hL]
 refine ⟨⟨G, ⟨i2.x.same rfl rfl rfl rfl rfl, ⟨i2.s.a, i2.s.nn, i2.s.c, i2.s.f, i2.s.r, i2.s.w, i2.s.cb⟩, i2.y, ey i2.o rfl rfl, i2.nf⟩, ⟨Aa.c1, Aa.cf, Aa.c2, Aa.p3, Aa.cb, Aa.gr, Aa.gw, Aa.gc, Aa.c3, Aa.c4, Aa.co, Aa.cr, Aa.q2, Aa.q1⟩, Al⟩, fun q => hg.sm (fun _ => (by decide : (0 : Int) < 16)) q, hg.tdd fun z t ht h => ?_⟩
 have h : hb 0 t = true := h
 rw [iH ht] at h
 cases h
end
set_option maxHeartbeats 1600000
section
variable {T : Th} {F : List Int} {n k : Nat} {m m0 : List Int} {N : Prop} {G G' : cW} {e e' : Es} {K : Int → Int → Bool}
theorem sQ (hp : Pf T F n) (h : Iv T F n N G e) (hc : Cmp T F n K G e) (ht : Tie T F K G) (hK : ∀ z t, ar t → has e z t = true → K z t = true) (hm : ∀ q t : Int, 0 ≤ q → q < (n : Int) → ar t → hs m0 q t = true → has e q t = true) {q : Nat} {t : Int} (hq : q < n) (htag : ar t) (hcond : aZ T F m0 t q = true) : has e q t = true := by
 have whole : ∀ b (r : Nat), r < T.rules.length → aB T (kW b) r = true → cO T m0 r (tp b) = true → ∀ x ∈ au T r, G.a b r x = true := fun b r hr hk hw x hx => by
  obtain ⟨x0, x1⟩ := gS hp hr hx
  have Am : ar (tp b) := by cases b; exact aL; exact aX
  exact (ht.a b r x hr hk hx).2 (hK x _ Am (hm x _ x0 x1 Am (nW.1 hw x hx)))
 have part : ∀ b (r : Nat), r < T.rules.length → aB T (kW b) r = true → dT T m0 r (tn b) = true → e.rf b r = true := fun b r hr hk hw => by
  obtain ⟨x, hx, As⟩ := nU.1 hw
  obtain ⟨x0, x1⟩ := gS hp hr hx
  have Al : ar (tn b) := by cases b; exact aM; exact bH
  rw [h.x.rf b r hr]
  exact List.any_eq_true.2 ⟨x, hx, (ht.n b r x hr hk hx).2 (hK x _ Al (hm x _ x0 x1 Al As))⟩
 have Ah : ∀ r : Nat, r < T.rules.length → cO T m0 r 3 = true → used e r = true := fun r hr hw => (h.x.used hr).2 (whole true r hr (gH hr) hw)
 have Ac : ∀ r : Nat, r < T.rules.length → dT T m0 r 4 = true → e.rf true r = true := fun r hr hw => part true r hr (gH hr) hw
 rcases htag with rfl | rfl | rfl | rfl
 · rw [cond1] at hcond
   rcases fN.1 hcond with h1 | ⟨r, hr, hw⟩
   · exact hc.cf _ h1
   · obtain ⟨a, rfl, ha, hh, hk⟩ := bI hr
     have := hc.c1 a ha hk (by rw [h.x.ms false a ha hk, dr]; exact whole false a ha hk hw)
     rw [hh] at this
     exact this
 · rw [cond2] at hcond
   obtain ⟨h1, h2⟩ := gp.1 hcond
   refine hc.c2 q hq h1 fun r hr => ?_
   obtain ⟨a, rfl, ha, hh, hk⟩ := bI hr
   exact part false a ha hk (h2 a hr)
 · rw [cond3] at hcond
   rcases eV.1 hcond with h1 | ⟨⟨r, hr, hw⟩, h3, h4⟩
   · exact hc.c3 q (hK q 1 aL (hm q 1 (by omega) (by omega) aL h1))
   · have Aa : ae T kT (q : Int) ≠ [] := fun e0 => by rw [e0] at hr; cases hr
     obtain ⟨a, rfl, ha, hh, hk⟩ := bI hr
     refine hc.p3 q hq (List.any_eq_true.2 ⟨a, hr, Ah a ha hw⟩) ?_
     rw [h.x.ob q hq Aa]
     have z1 : lf ((row T.foes (q : Int)).filter (aA T F)) (fun f => G.f f q) = 0 := dr.2 fun f hf => by
      obtain ⟨Aj, Ap⟩ := List.mem_filter.1 hf
      obtain ⟨f0, f1⟩ := hp.foe q hq f Aj
      exact (ht.f f q Ap (cq.2 ⟨cU hp (by omega) (by omega) Aj, Aa⟩)).2 (hK f 2 aM (hm f 2 f0 f1 aM (h3 f Aj)))
     have z2 : lf (fw T q) (fun s => G.r s q) = 0 := dr.2 fun s hs => by
      unfold fw at hs
      obtain ⟨b, hb, rfl⟩ := List.mem_map.1 hs
      obtain ⟨Ar, Au⟩ := List.mem_filter.1 hb
      have Ad := List.mem_range.1 Ar
      have An := of_decide_eq_true Au
      have Ae : (q : Int) ∈ aj T (ag T b) := cq.2 ⟨cU hp (by omega) (by omega) An, Aa⟩
      refine hc.gr b Ad q Ae ?_
      rcases j6.1 (h4 _ An b (ky Ad (gH Ad))) with h5 | ⟨t, Ak, h5, h6⟩
      · exact .inl (Ac b Ad h5)
      · obtain ⟨c, rfl, Ab, Av, Ag⟩ := bI Ak
        have := hc.cb c Ab Ag (Ah c Ab h6) b (of_decide_eq_true h5)
        rw [Av] at this
        exact .inr this
     rw [z1, z2]
     rfl
 · rw [cond4] at hcond
   obtain ⟨h1, h2⟩ := iD.1 hcond
   have Af := hK q 2 aM (hm q 2 (by omega) (by omega) aM h1)
   rcases h2 with h2 | ⟨f, hf, h2⟩ | ⟨f, hf, s, At, h2⟩
   · refine hc.c4 q hq Af fun r hr => ?_
     obtain ⟨a, rfl, ha, -, -⟩ := bI hr
     exact Ac a ha (h2 a hr)
   · obtain ⟨f0, f1⟩ := hp.foe q hq f hf
     exact hc.cr q hq Af f hf (hK f 1 aL (hm f 1 f0 f1 aL h2))
   · by_cases Aa : ae T kT (q : Int) = []
     · exact hc.c4 q hq Af fun r hr => by rw [Aa] at hr; cases hr
     · obtain ⟨a, rfl, ha, Aq, -⟩ := bI At
       obtain ⟨h5, h6⟩ := kr.1 h2
       have Ae : (q : Int) ∈ aj T (ag T a) := cq.2 ⟨by rw [Aq]; exact cU hp (by omega) (by omega) hf, Aa⟩
       refine hc.co q hq Af a ha Ae (Ah a ha h5) ?_
       rw [h.x.cd a ha q Ae, dr]
       intro t Ak
       obtain ⟨Ao, Ai⟩ := List.mem_filter.1 Ak
       obtain ⟨c, rfl, Ab, -, Ag⟩ := bI Ao
       rcases h6 c Ao with h8 | h8
       · exact hc.gw c Ab Ag (Ac c Ab h8) a (of_decide_eq_true Ai)
       · rw [h8] at Ai; cases Ai
theorem qo {α : Type} {P : List α → Prop} (h0 : P []) (hs : ∀ l x, P l → P (l ++ [x])) (l : List α) : P l := by
 have h : ∀ l : List α, P l.reverse := by
  intro l
  induction l with
  | nil => exact h0
  | cons x l ih => rw [List.reverse_cons]; exact hs _ _ ih
 have := h l.reverse
 rwa [List.reverse_reverse] at this
theorem nN {l : List (Int × Int)} {x : Int × Int} : dI (l ++ [x]) = ap (dI l) x.1 (cC (dI l x.1) x.2) := by unfold dI; rw [List.foldl_append]; rfl
theorem xF : ∀ {l : List (Int × Int)}, (∀ y ∈ l, ar y.2) → ∀ q, aQ (dI l q) := by
 intro l
 induction l using qo with
 | h0 => intro _ q; show aQ 0; unfold aQ; omega
 | hs l x ih =>
  intro h q
  have ih := ih fun y hy => h y (List.mem_append_left _ hy)
  rw [nN]
  by_cases e : q = x.1
  · subst e; rw [ax]; exact (dv (ih _) (h x (by simp)) (h x (by simp))).2.1
  · rw [aq e]; exact ih q
theorem uD {q t : Int} (ht : ar t) : ∀ {l : List (Int × Int)}, (∀ y ∈ l, ar y.2) → hb (dI l q) t = true → (q, t) ∈ l := by
 intro l
 induction l using qo with
 | h0 => intro _ h; have h : hb 0 t = true := h; rw [iH ht] at h; cases h
 | hs l x ih =>
  intro hl h
  have Aa : ∀ y ∈ l, ar y.2 := fun y hy => hl y (List.mem_append_left _ hy)
  have hx : ar x.2 := hl x (by simp)
  rw [nN] at h
  by_cases e : q = x.1
  · subst e
    rw [ax, (dv (xF Aa x.1) hx ht).1, Bool.or_eq_true] at h
    rcases h with h | h
    · exact List.mem_append_left _ (ih Aa h)
    · have h := of_decide_eq_true h
      rw [← h]
      simp
  · rw [aq e] at h
    exact List.mem_append_left _ (ih Aa h)
theorem ud : ∀ x y : _root_.Fin 16, (tags.all fun t => decide (hb (x.val : Int) t = hb (y.val : Int) t)) = true → x = y := by decide +kernel
theorem ye {x y : Int} (x0 : 0 ≤ x) (x1 : x < 16) (y0 : 0 ≤ y) (y1 : y < 16) (h : ∀ t, ar t → hb x t = hb y t) : x = y := by
 obtain ⟨a, rfl⟩ := Int.eq_ofNat_of_zero_le x0
 obtain ⟨b, rfl⟩ := Int.eq_ofNat_of_zero_le y0
 have := ud ⟨a, by omega⟩ ⟨b, by omega⟩ (List.all_eq_true.2 fun t ht => by
  have Aa : ar t := by simp [tags] at ht; exact ht
  exact decide_eq_true (h t Aa))
 have h2 : a = b := congrArg (fun z : _root_.Fin 16 => z.val) this
 rw [h2]
theorem tR (hp : Pf T F n) (hs_ : gA T F m k) (h : oL T F n e) (htok : Tok n e) : ∀ (j : Nat) x, e.td[j]? = some x → hs m x.1 x.2 = true := by
 intro j
 induction j using Nat.strongRecOn with
 | _ j ih =>
  intro x hx
  obtain ⟨x0, x1, xt, -⟩ := htok.inn x (List.mem_of_getElem? hx)
  refine (xR hp hs_ x0 x1 xt).2 (oW hp (m := js n (dI (e.td.take j))) ?_ x0 x1 xt (h.ok j x hx))
  intro q t h0 ht hz
  by_cases hq : q < (n : Int)
  · rw [rQ h0 hq] at hz
    obtain ⟨i, hi⟩ := List.mem_iff_getElem?.1 (uD ht (fun y hy => (htok.inn y (List.mem_of_mem_take hy)).2.2.1) hz)
    have Aa : i < j := by
     have := (List.getElem?_eq_some_iff.1 hi).1
     rw [List.length_take] at this
     omega
    rw [List.getElem?_take_of_lt Aa] at hi
    have Ab := ih i Aa (q, t) hi
    exact Ab
  · obtain ⟨a, rfl⟩ := Int.eq_ofNat_of_zero_le h0
    have : hs (js n (dI (e.td.take j))) a t = hb 0 t := by
     unfold hs js
     rw [List.getD_eq_getElem?_getD, List.getElem?_map, Int.toNat_natCast, List.getElem?_eq_none (by simp; omega)]
     rfl
    rw [this, iH ht] at hz
    cases hz
theorem rN (hp : Pf T F n) (hs_ : gA T F m k) (h : mz T F n m e) (htk : e.tk = e.td.length) (htok : Tok n e) : (∀ q t : Int, 0 ≤ q → q < (n : Int) → ar t → has e q t = hs m q t) ∧ ∀ q : Nat, q < n → e.mq q = m.getD q 0 := by
 obtain ⟨G, i, c, t⟩ := h.iv
 have hK : ∀ z t, ar t → has e z t = true → iQ e z t = true := fun z t ht hz => by
  unfold iQ
  rw [htk, List.take_length]
  exact decide_eq_true (h.td z t ht hz)
 have key : ∀ j : Nat, ∀ q t : Int, 0 ≤ q → q < (n : Int) → ar t → hs (Mk T F j) q t = true → has e q t = true := by
  intro j
  induction j with
  | zero =>
   intro q t h0 h1 ht hh
   have : hs (Mk T F 0) q t = hb ((List.replicate T.lits.toNat (0 : Int)).getD q.toNat 0) t := rfl
   rw [this, jZ, iH ht] at hh
   cases hh
  | succ j ih =>
   intro q t h0 h1 ht hh
   rw [jA, iK hG h0 (by rw [jG hp]; exact h1) ht, Bool.or_eq_true] at hh
   rcases hh with hh | hh
   · exact ih q t h0 h1 ht hh
   · obtain ⟨a, rfl⟩ := Int.eq_ofNat_of_zero_le h0
     exact sQ hp i c ‹Tie T F (iQ e) G› hK ih (by omega) ht hh
 have same : ∀ q t : Int, 0 ≤ q → q < (n : Int) → ar t → has e q t = hs m q t := fun q t h0 h1 ht => by
  rw [Bool.eq_iff_iff]
  exact ⟨fun hh => by
   obtain ⟨j, hj⟩ := List.mem_iff_getElem?.1 (h.td q t ht hh)
   have Aa := tR hp hs_ i.o htok j (q, t) hj
   exact Aa, fun hh => key k q t h0 h1 ht (by rw [hs_.1] at hh; exact hh)⟩
 refine ⟨same, fun q hq => ye (i.y q).1 (h.sm q) ?_ ?_ fun t ht => ?_⟩
 · exact (rY hs_ q).1
 · rw [hs_.1]; exact pX q
 · have := same q t (by omega) (by omega) ht
   unfold has hs at this
   rw [Int.toNat_natCast] at this
   exact this
end
end Go.Proofs.YtmlhcncagdfjfaaGreat.Fa
