import Derived.Test.YthifoamnmhlghaaGreatFru
namespace Go.Proofs.YthifoamnmhlghaaGreat.Fa
theorem mX {v : Int} (h0 : 0 ≤ v) (h1 : v < 1099511627776) : aE v = v + 1 := by
 unfold aE
 rw [IntKind.wrap_i64]
 omega
theorem tA {v u : Int} (h0 : 0 ≤ v) (h1 : v < 1099511627776) (h2 : 0 ≤ u) (h3 : u < 1099511627776) : li v u = v + u := by
 unfold li
 rw [IntKind.wrap_i64]
 omega
section
variable {T : Th} {F : List Int} {n : Nat} {p : RuleM → Bool}
theorem dp {k : Nat} {r : RuleM} (h : T.rules[k]? = some r) : aC T p k = p r ∧ ag T k = r.head ∧ aB T k = r.body := by
 unfold aC ag aB
 rw [Int.toNat_natCast, h]
 exact ⟨rfl, rfl, rfl⟩
theorem iV {k : Nat} {z : Int} : cF T p z k = (aC T p k && decide (ag T k = z)) := by
 cases h : T.rules[k]? with
 | none => unfold cF aC; rw [Int.toNat_natCast, h]; rfl
 | some r => obtain ⟨e1, e2, -⟩ := dp (p := p) h; rw [e1, e2]; unfold cF; rw [h]
theorem tM (k r : Nat) : dz T p k r = if r < k ∧ aC T p r = true then ((aB T r).length : Int) else 0 := by
 induction k with
 | zero => rw [if_neg (by omega)]; rfl
 | succ k ih =>
  rw [jd]
  by_cases hk : aC T p k = true
  · rw [if_pos hk]
    by_cases e : r = k
    · subst e; rw [ay, if_pos ⟨by omega, hk⟩]
    · rw [aw (by omega), ih]
      by_cases h2 : r < k ∧ aC T p r = true
      · rw [if_pos h2, if_pos ⟨by omega, h2.2⟩]
      · rw [if_neg h2, if_neg fun h3 => h2 ⟨by omega, h3.2⟩]
  · rw [if_neg hk, ih]
    by_cases h2 : r < k ∧ aC T p r = true
    · rw [if_pos h2, if_pos ⟨by omega, h2.2⟩]
    · rw [if_neg h2, if_neg fun h3 => h2 ⟨by have : r ≠ k := (fun e => hk (e ▸ h3.2)); omega, h3.2⟩]
theorem tH (k : Nat) (hk : k ≤ 4096) (q : Int) : opK T p k q = ((bQ T p k q).length : Int) := by
 induction k with
 | zero => rfl
 | succ k ih =>
  have ih := ih (by omega)
  rw [gW, dJ, iV]
  have hl : (bQ T p k q).length ≤ k := by
   unfold bQ
   rw [List.length_map]
   exact Nat.le_trans (List.length_filter_le _ _) (by simp)
  cases hb : aC T p k with
  | false => simp [ih]
  | true =>
   by_cases e : ag T k = q
   · subst e
     rw [if_pos rfl, ay, ih, mX (by omega) (by omega)]
     simp
   · rw [if_pos rfl, aw (fun h => e h.symm), ih]
     simp [e]
theorem tS {f : Int → Int} (k : Nat) (q : Int) : cE T p f k q = if (∃ r : Nat, r < k ∧ aC T p r = true ∧ aB T r = [] ∧ ag T r = q) then 0 else f q := by
 induction k with
 | zero => rw [if_neg (by rintro ⟨r, h, _⟩; omega)]; rfl
 | succ k ih =>
  rw [eG]
  by_cases hb : (aC T p k && (aB T k).isEmpty) = true
  · rw [if_pos hb]
    simp only [Bool.and_eq_true, List.isEmpty_iff] at hb
    by_cases e : ag T k = q
    · subst e
      rw [ay, if_pos ⟨k, by omega, hb.1, hb.2, rfl⟩]
    · rw [aw (fun h => e h.symm), ih]
      by_cases h2 : ∃ r : Nat, r < k ∧ aC T p r = true ∧ aB T r = [] ∧ ag T r = q
      · rw [if_pos h2]
        obtain ⟨r, h3, h4⟩ := h2
        rw [if_pos ⟨r, by omega, h4⟩]
      · rw [if_neg h2, if_neg]
        rintro ⟨r, h3, h4⟩
        by_cases e2 : r = k
        · exact e (e2 ▸ h4.2.2)
        · exact h2 ⟨r, by omega, h4⟩
  · rw [if_neg hb, ih]
    by_cases h2 : ∃ r : Nat, r < k ∧ aC T p r = true ∧ aB T r = [] ∧ ag T r = q
    · rw [if_pos h2]
      obtain ⟨r, h3, h4⟩ := h2
      rw [if_pos ⟨r, by omega, h4⟩]
    · rw [if_neg h2, if_neg]
      rintro ⟨r, h3, h4⟩
      by_cases e2 : r = k
      · subst e2
        apply hb
        rw [h4.1, h4.2.1]
        rfl
      · exact h2 ⟨r, by omega, h4⟩
theorem ow {q : Int} : gA T p q = true ↔ ∃ r : Nat, r < T.rules.length ∧ aC T p r = true ∧ aB T r = [] ∧ ag T r = q := by
 unfold gA
 rw [List.any_eq_true]
 constructor
 · rintro ⟨x, hx, he⟩
   obtain ⟨a, r, rfl, hr, hp, hh⟩ := bV.1 hx
   obtain ⟨e1, e2, e3⟩ := dp (p := p) hr
   exact ⟨a, (List.getElem?_eq_some_iff.1 hr).1, by rw [e1]; exact hp, List.isEmpty_iff.1 he, by rw [e2]; exact hh⟩
 · rintro ⟨a, ha, h1, h2, h3⟩
   obtain ⟨r, hr⟩ := ap ha
   obtain ⟨e1, e2, e3⟩ := dp (p := p) hr
   exact ⟨a, bV.2 ⟨a, r, rfl, hr, by rw [← e1]; exact h1, by rw [← e2]; exact h3⟩, by rw [h2]; rfl⟩
theorem sJ {l : List Int} {f : Int → Int} {q : Int} : l.foldl (fun f x => ar f x 0) f q = if q ∈ l then 0 else f q := by
 induction l generalizing f with
 | nil => rfl
 | cons x l ih =>
  rw [List.foldl_cons, ih]
  by_cases h : q ∈ l
  · rw [if_pos h, if_pos (List.mem_cons_of_mem _ h)]
  · rw [if_neg h]
    by_cases e : q = x
    · subst e; rw [ay, if_pos List.mem_cons_self]
    · rw [aw e, if_neg (by simp [e, h])]
theorem re (hp : Pf T F n) (b : Bool) (q : Nat) : (dP F (eE T F n)).op b q = (aS T F).op b q := by
 have hr := hp.ok.rl
 have key : cE T (kL b) (opK T (kL b) T.rules.length) T.rules.length q = if gA T (kL b) q then 0 else ((af T (kL b) q).length : Int) := by
  rw [tS, tH _ (by omega)]
  by_cases h : gA T (kL b) (q : Int) = true
  · rw [if_pos (ow.1 h), if_pos h]
  · rw [if_neg fun h2 => h (ow.2 h2), if_neg h]; rfl
 show aJ (eE T F n).op false (F.foldl (fun f x => ar f x 0) ((eE T F n).op false)) b (q : Int) = if ci T F b q then 0 else ((af T (kL b) q).length : Int)
 unfold ci
 cases b
 · rw [aF, sJ]
   show (if (q : Int) ∈ F then 0 else cE T (kL false) (opK T (kL false) T.rules.length) T.rules.length q) = _
   rw [key]
   by_cases h1 : (q : Int) ∈ F
   · simp [h1]
   · simp [h1]
 · rw [aM (by decide)]
   show cE T (kL true) (opK T (kL true) T.rules.length) T.rules.length q = _
   rw [key]
   simp
theorem sz {h : Int} {l : List Int} (hn : l.Nodup) {d : Int → Int → Int} {s q : Int} : l.foldl (iw h) d s q = if s ∈ l ∧ q = h then aE (d s q) else d s q := by
 induction l generalizing d with
 | nil => simp
 | cons x l ih =>
  obtain ⟨h1, h2⟩ := List.nodup_cons.1 hn
  rw [List.foldl_cons, ih h2]
  have e0 : iw h d x s q = if s = x ∧ q = h then aE (d s q) else d s q := by
   unfold iw
   by_cases e : s = x
   · subst e
     rw [ay]
     by_cases e2 : q = h
     · subst e2; rw [ay, if_pos ⟨rfl, rfl⟩]
     · rw [aw e2, if_neg fun a => e2 a.2]
   · rw [aw e, if_neg fun a => e a.1]
  rw [e0]
  by_cases e : s = x
  · subst e
    rw [if_neg fun a => h1 a.1]
    simp
  · by_cases e2 : s ∈ l ∧ q = h
    · rw [if_pos e2, if_neg fun a => e a.1, if_pos ⟨List.mem_cons_of_mem _ e2.1, e2.2⟩]
    · rw [if_neg e2, if_neg fun a => e a.1, if_neg]
      rintro ⟨a, b⟩
      exact e2 ⟨(List.mem_cons.1 a).resolve_left e, b⟩
theorem pG {k : Int} : aO T k = aC T kT k := rfl
theorem tr (hp : Pf T F n) (k : Nat) (hk : k ≤ T.rules.length) (s : Nat) (q : Int) : eR T k s q = gJ (bQ T kT k q) fun t => beatB T t s := by
 have hr := hp.ok.rl
 induction k with
 | zero => rfl
 | succ k ih =>
  have ih := ih (by omega)
  have hl : (bQ T kT k q).length ≤ k := by
   unfold bQ
   rw [List.length_map]
   exact Nat.le_trans (List.length_filter_le _ _) (by simp)
  have hc : 0 ≤ gJ (bQ T kT k q) (fun t => beatB T t s) ∧ gJ (bQ T kT k q) (fun t => beatB T t s) ≤ 4096 := by
   unfold gJ
   have := List.length_filter_le (fun t => beatB T t (s : Int)) (bQ T kT k q)
   omega
  rw [kC, dJ, iV, pG]
  cases hb : aC T kT k with
  | false => simp [ih]
  | true =>
   have hnd : (row T.beats (k : Int)).Nodup := by
    have hbl := hp.ok.bl
    obtain ⟨l, hl⟩ := ap (l := T.beats) (i := k) (by omega)
    rw [bS (l := l) (by rw [Int.toNat_natCast]; exact hl)]
    exact cq (hp.beat l (List.mem_of_getElem? hl))
   rw [if_pos rfl, sz hnd, ih]
   by_cases e : ag T k = q
   · subst e
     simp only [Bool.true_and, decide_true, if_true, and_true]
     unfold gJ at hc ⊢
     rw [List.filter_append, List.length_append]
     by_cases hbt : (s : Int) ∈ row T.beats k
     · rw [if_pos hbt, mX (by omega) (by omega)]
       have : beatB T k s = true := by unfold beatB; exact decide_eq_true hbt
       simp [this]
     · rw [if_neg hbt]
       have : ¬ beatB T k s = true := by unfold beatB; simp [hbt]
       simp [this]
   · rw [if_neg fun a => e a.2.symm]
     simp [e]
def cK (g : Nat → Int) : Nat → Int
 | 0 => 0
 | k + 1 => cK g k + g k
theorem sP {q : Int} {l : List Int} (hn : l.Nodup) {f : Int → Int} {z : Int} : l.foldl (fw T F q) f z = if z ∈ l then fw T F q f z z else f z := by
 induction l generalizing f with
 | nil => simp
 | cons x l ih =>
  obtain ⟨h1, h2⟩ := List.nodup_cons.1 hn
  rw [List.foldl_cons, ih h2]
  by_cases e : z = x
  · subst e
    rw [if_neg h1, if_pos List.mem_cons_self]
  · have e2 : fw T F q f x z = f z := by unfold fw; rw [aw e]
    by_cases h : z ∈ l
    · rw [if_pos h, if_pos (List.mem_cons_of_mem _ h)]
      unfold fw at e2 ⊢
      rw [ay, ay, e2]
    · rw [if_neg h, if_neg (by simp [e, h]), e2]
def gV (T : Th) (F : List Int) (z : Int) (q : Nat) : Int := if z ∈ ak T q then ((af T kA q).length : Int) + (if aD T F q then 1 else 0) else 0
theorem tL (hp : Pf T F n) (k : Nat) (hk : k ≤ n) (z : Int) : obK T F k z = cK (gV T F z) k ∧ 0 ≤ cK (gV T F z) k ∧ cK (gV T F z) k ≤ (k : Int) * 4097 := by
 have hr := hp.ok.rl
 have hn4 := hp.n4
 induction k with
 | zero => exact ⟨rfl, Int.le_refl _, by show (0 : Int) ≤ _; omega⟩
 | succ k ih =>
  obtain ⟨h1, h2, h3⟩ := ih (by omega)
  have hl : (af T kA (k : Int)).length ≤ T.rules.length := eN
  have hg : 0 ≤ gV T F z k ∧ gV T F z k ≤ 4097 := by
   unfold gV
   split
   · split <;> omega
   · omega
  refine ⟨?_, by show 0 ≤ _ + _; omega, by show _ + _ ≤ _; omega⟩
  show _ = cK (gV T F z) k + gV T F z k
  rw [nw, sP (cq (i6 hp (by omega)))]
  unfold gV
  by_cases hm : z ∈ ak T (k : Int)
  · rw [if_pos hm, if_pos hm]
    unfold fw
    rw [ay, h1, tA h2 (by omega) (by omega) (by omega)]
    by_cases hf : aD T F (k : Int) = true
    · rw [if_pos hf, if_pos hf, mX (by omega) (by omega)]
      unfold gV
      omega
    · rw [if_neg hf, if_neg hf]
      unfold gV
      omega
  · rw [if_neg hm, if_neg hm, h1]
    unfold gV
    omega
theorem gn {f g : Nat → Int} {k : Nat} (h : ∀ i, i < k → f i = g i) : cK f k = cK g k := by
 induction k with
 | zero => rfl
 | succ k ih => show _ + _ = _ + _; rw [ih fun i hi => h i (by omega), h k (by omega)]
theorem j4 {f g : Nat → Int} {k : Nat} : cK (fun i => f i + g i) k = cK f k + cK g k := by
 induction k with
 | zero => rfl
 | succ k ih => show cK _ k + (f k + g k) = (cK f k + f k) + (cK g k + g k); rw [ih]; omega
theorem jr {k : Nat} : cK (fun _ => 0) k = 0 := by
 induction k with
 | zero => rfl
 | succ k ih => show cK _ k + 0 = 0; rw [ih]; rfl
theorem oH (a : Nat) (c : Int) (k : Nat) : cK (fun q => if q = a then c else 0) k = if a < k then c else 0 := by
 induction k with
 | zero => rw [if_neg (by omega)]; rfl
 | succ k ih =>
  show cK _ k + (if k = a then c else 0) = _
  rw [ih]
  by_cases e : k = a
  · subst e; rw [if_neg (by omega), if_pos rfl, if_pos (by omega)]; omega
  · rw [if_neg e]
    by_cases e2 : a < k
    · rw [if_pos e2, if_pos (by omega)]; omega
    · rw [if_neg e2, if_neg (by omega)]; rfl
theorem s7 {l : List Int} (hn : l.Nodup) {P : Int → Bool} (hl : ∀ x ∈ l, 0 ≤ x ∧ x < (n : Int)) : gJ l P = cK (fun q => if (q : Int) ∈ l ∧ P q = true then 1 else 0) n := by
 induction l with
 | nil => simp [gJ, jr]
 | cons x l ih =>
  obtain ⟨h1, h2⟩ := List.nodup_cons.1 hn
  have ih := ih h2 fun y hy => hl y (List.mem_cons_of_mem _ hy)
  obtain ⟨x0, x1⟩ := hl x List.mem_cons_self
  obtain ⟨a, rfl⟩ := Int.eq_ofNat_of_zero_le x0
  have e1 : gJ ((a : Int) :: l) P = gJ l P + if P a = true then 1 else 0 := by
   unfold gJ
   by_cases h : P a = true
   · rw [List.filter_cons_of_pos h, if_pos h]; simp
   · rw [List.filter_cons_of_neg h, if_neg h]; simp
  have one : ∀ (c : Int) (k : Nat), cK (fun q => if q = a then c else 0) k = if a < k then c else 0 := oH a
  have e2 : (if P a = true then (1 : Int) else 0) = cK (fun q => if q = a then (if P a = true then 1 else 0) else 0) n := by rw [one]; exact (if_pos (show a < n by omega)).symm
  rw [e1, ih, e2, ← j4]
  refine gn fun q hq => ?_
  by_cases e : q = a
  · subst e
    rw [if_pos rfl, if_neg fun h => h1 h.1]
    by_cases hP : P (q : Int) = true
    · rw [if_pos hP, if_pos ⟨List.mem_cons_self, hP⟩]; rfl
    · rw [if_neg hP, if_neg fun h => hP h.2]; rfl
  · rw [if_neg e]
    have : ((q : Int) ∈ (a : Int) :: l) ↔ (q : Int) ∈ l := by
     rw [List.mem_cons]
     exact ⟨fun h => h.resolve_left (by omega), .inr⟩
    simp only [this]
    omega
theorem sB {l : List Int} (R : Nat) (hh : ∀ a : Nat, a < R → 0 ≤ ag T a ∧ ag T a < (n : Int)) (hR : R ≤ T.rules.length) : (((List.range R).filter fun a : Nat => decide (ag T a ∈ l)).length : Int) = cK (fun q => if (q : Int) ∈ l then ((bQ T kA R q).length : Int) else 0) n := by
 induction R with
 | zero => rw [show (fun q : Nat => if (q : Int) ∈ l then ((bQ T kA 0 q).length : Int) else 0) = fun _ => 0 from by funext q; split <;> rfl, jr]; rfl
 | succ R ih =>
  have ih := ih (fun a ha => hh a (by omega)) (by omega)
  obtain ⟨x0, x1⟩ := hh R (by omega)
  obtain ⟨a, ha⟩ := Int.eq_ofNat_of_zero_le x0
  obtain ⟨r, hr⟩ := ap (l := T.rules) (i := R) (by omega)
  have hk : aC T kA R = true := (dp (p := kA) hr).1
  have one : ∀ (c : Int) (k : Nat), cK (fun q => if q = a then c else 0) k = if a < k then c else 0 := oH a
  have e1 : (((List.range (R + 1)).filter fun a : Nat => decide (ag T a ∈ l)).length : Int) = ((List.range R).filter fun a : Nat => decide (ag T a ∈ l)).length + cK (fun q => if q = a then (if ag T R ∈ l then 1 else 0) else 0) n := by
   rw [one, if_pos (show a < n by omega), List.range_succ, List.filter_append, List.length_append]
   by_cases h : ag T R ∈ l
   · simp [h]
   · simp [h]
  rw [e1, ih, ← j4]
  refine gn fun q hq => ?_
  rw [dJ, iV, hk]
  by_cases e : q = a
  · subst e
    rw [ha]
    by_cases hm : (q : Int) ∈ l
    · simp [hm]
    · simp [hm]
  · have : ¬ ag T R = (q : Int) := by omega
    simp [e, this]
theorem rb (hp : Pf T F n) (z : Nat) (hz : z < n) : obK T F n z = (aS T F).ob z := by
 rw [(tL hp n (Nat.le_refl _) z).1]
 show _ = if (af T kT (z : Int)).isEmpty then 0 else gJ (row T.foes z) (aD T F) + ((ed T z).length : Nat)
 by_cases ht : (af T kT (z : Int)).isEmpty = true
 · rw [if_pos ht]
   have : cK (gV T F z) n = cK (fun _ => 0) n := gn fun q hq => by
    unfold gV
    rw [if_neg]
    intro hm
    exact (b7.1 hm).2 (List.isEmpty_iff.1 ht)
   rw [this, jr]
 · rw [if_neg ht]
   have hin : ∀ x ∈ row T.foes (z : Int), 0 ≤ x ∧ x < (n : Int) := hp.foe z hz
   have h1 := s7 (n := n) (P := aD T F) (cq (en hp hz).1) hin
   have h2 := sB (T := T) (n := n) (l := row T.foes (z : Int)) T.rules.length (fun a ha => by obtain ⟨x, -, e, x0, x1⟩ := cB hp ha; rw [e]; exact ⟨x0, x1⟩) (Nat.le_refl _)
   have h3 : ((ed T (z : Int)).length : Int) = (((List.range T.rules.length).filter fun a : Nat => decide (ag T a ∈ row T.foes (z : Int))).length : Int) := by
    unfold ed
    rw [List.length_map]
   rw [h1, h3, h2, ← j4]
   refine gn fun q hq => ?_
   unfold gV
   have hiff : (z : Int) ∈ ak T q ↔ (q : Int) ∈ row T.foes z := by
    rw [b7]
    constructor
    · intro h; exact cD hp (by omega) (by omega) h.1
    · intro h; exact ⟨cD hp (by omega) (by omega) h, fun e => ht (by rw [e]; rfl)⟩
   by_cases hm : (q : Int) ∈ row T.foes z
   · rw [if_pos (hiff.2 hm), if_pos hm]
     by_cases hf : aD T F (q : Int) = true
     · rw [if_pos hf, if_pos ⟨hm, hf⟩]
       show ((af T kA q).length : Int) + 1 = 1 + ((af T kA q).length : Int)
       omega
     · rw [if_neg hf, if_neg fun h => hf h.2]
       show ((af T kA q).length : Int) + 0 = 0 + ((af T kA q).length : Int)
       omega
   · rw [if_neg fun h => hm (hiff.1 h), if_neg fun h => hm h.1, if_neg hm]; rfl
theorem iT (hp : Pf T F n) : lV T F n :=
 ⟨fun b r hr => by
  show dz T (kW b) T.rules.length r = if aC T (kW b) r then ((aB T r).length : Int) else 0
  rw [tM]
  by_cases h : aC T (kW b) r = true
  · rw [if_pos ⟨hr, h⟩, if_pos h]
  · rw [if_neg fun a => h a.2, if_neg h], fun b q _ => re hp b q, fun s _ p _ => tr hp _ (Nat.le_refl _) s p, fun q hq => rb hp q hq⟩
end
end Go.Proofs.YthifoamnmhlghaaGreat.Fa
namespace Go.Proofs.YthifoamnmhlghaaGreat.Fa
open Go.RowKit
def dX (b : Bool) : Nat := if b then 1 else 0
def cJ (m : List Int) (q : Nat) : Nat := dX (hs m q 1) + dX (hs m q 2) + dX (hs m q 3) + dX (hs m q 4)
def bz (m : List Int) : Nat → Nat
 | 0 => 0
 | k + 1 => bz m k + cJ m k
theorem fj (b : Bool) : dX b ≤ 1 := by cases b <;> simp [dX]
theorem bD {a b : Bool} (h : a = true → b = true) : dX a ≤ dX b := by cases a <;> cases b <;> simp_all [dX]
theorem l5 {m : List Int} {q : Nat} : cJ m q ≤ 4 := by
 unfold cJ
 have := fj (hs m q 1)
 have := fj (hs m q 2)
 have := fj (hs m q 3)
 have := fj (hs m q 4)
 omega
theorem iz {m : List Int} : ∀ {k : Nat}, bz m k ≤ 4 * k
 | 0 => by simp [bz]
 | k + 1 => by
  have := iz (m := m) (k := k)
  have := l5 (m := m) (q := k)
  unfold bz
  omega
theorem fV {m m' : List Int} (h : Le m m') {q : Nat} : cJ m q ≤ cJ m' q := by
 unfold cJ
 have h1 := bD (h q 1 (by omega) tag1)
 have h2 := bD (h q 2 (by omega) tag2)
 have h3 := bD (h q 3 (by omega) tag3)
 have h4 := bD (h q 4 (by omega) tag4)
 omega
theorem fW {m m' : List Int} (h : Le m m') : ∀ {k : Nat}, bz m k ≤ bz m' k
 | 0 => Nat.le_refl _
 | k + 1 => by
  have := fW h (k := k)
  have := fV h (q := k)
  unfold bz
  omega
theorem iG {m m' : List Int} (h : Le m m') {q : Nat} (hq : cJ m q < cJ m' q) : ∀ {k : Nat}, q < k → bz m k < bz m' k
 | 0, hk => by omega
 | k + 1, hk => by
  have h1 := fV h (q := k)
  unfold bz
  by_cases e : q = k
  · subst e
    have := fW h (k := q)
    omega
  · have := iG h hq (k := k) (by omega)
    omega
theorem mP {a b : Bool} (h1 : a = false) (h2 : b = true) : dX a < dX b := by rw [h1, h2]; decide
theorem l7 {m m' : List Int} (h : Le m m') {q : Nat} {t : Int} (ht : ax t) (h1 : hs m q t = false) (h2 : hs m' q t = true) : cJ m q < cJ m' q := by
 unfold cJ
 have g1 := bD (h q 1 (by omega) tag1)
 have g2 := bD (h q 2 (by omega) tag2)
 have g3 := bD (h q 3 (by omega) tag3)
 have g4 := bD (h q 4 (by omega) tag4)
 have g5 := mP h1 h2
 rcases ht with rfl | rfl | rfl | rfl <;> omega
theorem jx {T : Th} {F m : List Int} (h : ∀ (q : Nat) (t : Int), q < m.length → ax t → (!hs m q t && dl T F m t q) = false) : aK T F m = m := by
 apply List.ext_getElem?
 intro q
 by_cases hq : q < m.length
 · unfold aK
   rw [List.getElem?_map, List.getElem?_range hq, List.getElem?_eq_getElem hq]
   have e : m.getD q 0 = m[q] := by rw [List.getD_eq_getElem?_getD, List.getElem?_eq_getElem hq]; rfl
   show some (dy T F m q 4 (dy T F m q 3 (dy T F m q 2 (dy T F m q 1 (m.getD q 0))))) = _
   have a : ∀ (t x : Int), ax t → dy T F m q t x = x := fun t x ht => by unfold dy; rw [h q t hq ht]; rfl
   rw [a 1 _ tag1, a 2 _ tag2, a 3 _ tag3, a 4 _ tag4, e]
 · rw [List.getElem?_eq_none (by rw [cu]; omega), List.getElem?_eq_none (by omega)]
theorem gy {T : Th} {F m : List Int} (hb : kN m) (hne : aK T F m ≠ m) : bz m m.length < bz (aK T F m) m.length := by
 apply Classical.byContradiction
 intro hn
 apply hne
 refine jx fun q t hq ht => ?_
 cases e : (!hs m q t && dl T F m t q) with
 | false => rfl
 | true =>
  exfalso
  simp only [Bool.and_eq_true, Bool.not_eq_true'] at e
  refine hn (iG (gH hb) (l7 (gH hb) ht e.1 ?_) hq)
  rw [fE hb (by omega) (by omega) ht, e.2]
  simp
theorem pk {T : Th} {F : List Int} {n : Nat} (hp : Pf T F n) : ∃ m k, bo T F m k := by
 have key : ∀ (d k : Nat), 4 * n ≤ bz (bn T F k (List.replicate T.lits.toNat 0)) n + d → ∃ m k, bo T F m k := by
  intro d
  induction d with
  | zero =>
   intro k h
   refine ⟨_, k, rfl, ?_⟩
   by_cases hne : aK T F (bn T F k (List.replicate T.lits.toNat 0)) = bn T F k (List.replicate T.lits.toNat 0)
   · exact hne
   · have h2 : bz (bn T F k (List.replicate T.lits.toNat 0)) (bn T F k (List.replicate T.lits.toNat 0)).length < bz (aK T F (bn T F k (List.replicate T.lits.toNat 0))) (bn T F k (List.replicate T.lits.toNat 0)).length := gy ft hne
     rw [show (bn T F k (List.replicate T.lits.toNat 0)).length = n from gF hp] at h2
     have h3 := iz (m := aK T F (bn T F k (List.replicate T.lits.toNat 0))) (k := n)
     omega
  | succ d ih =>
   intro k h
   by_cases hne : aK T F (bn T F k (List.replicate T.lits.toNat 0)) = bn T F k (List.replicate T.lits.toNat 0)
   · exact ⟨_, k, rfl, hne⟩
   · refine ih (k + 1) ?_
     have h2 : bz (bn T F k (List.replicate T.lits.toNat 0)) (bn T F k (List.replicate T.lits.toNat 0)).length < bz (aK T F (bn T F k (List.replicate T.lits.toNat 0))) (bn T F k (List.replicate T.lits.toNat 0)).length := gy ft hne
     rw [show (bn T F k (List.replicate T.lits.toNat 0)).length = n from gF hp] at h2
     rw [fX]
     omega
 exact key (4 * n) 0 (by omega)
end Go.Proofs.YthifoamnmhlghaaGreat.Fa
