import Derived.Test.YtmlhcncagdfjfaaGreatFsC
namespace Go.Proofs.YtmlhcncagdfjfaaGreat.Fa
theorem qL {v : Int} (h0 : 0 ≤ v) (h1 : v < 1099511627776) : aH v = v + 1 := by
 unfold aH
 rw [IntKind.wrap_i64]
 omega
theorem E5 {v u : Int} (h0 : 0 ≤ v) (h1 : v < 1099511627776) (h2 : 0 ≤ u) (h3 : u < 1099511627776) : oF v u = v + u := by
 unfold oF
 rw [IntKind.wrap_i64]
 omega
section
variable {T : Th} {F : List Int} {n : Nat} {p : RuleM → Bool}
theorem ed {k : Nat} {r : RuleM} (h : T.rules[k]? = some r) : aF T p k = p r ∧ ah T k = r.head ∧ ax T k = r.body := by
 unfold aF ah ax
 rw [Int.toNat_natCast, h]
 exact ⟨rfl, rfl, rfl⟩
theorem lj {k : Nat} {z : Int} : ce T p z k = (aF T p k && decide (ah T k = z)) := by
 cases h : T.rules[k]? with
 | none => unfold ce aF; rw [Int.toNat_natCast, h]; rfl
 | some r => obtain ⟨e1, e2, -⟩ := ed (p := p) h; rw [e1, e2]; unfold ce; rw [h]
theorem Fp (k r : Nat) : fV T p k r = if r < k ∧ aF T p r = true then ((ax T r).length : Int) else 0 := by
 induction k with
 | zero => rw [if_neg (by omega)]; rfl
 | succ k ih =>
  rw [ot]
  by_cases hk : aF T p k = true
  · rw [if_pos hk]
    by_cases e : r = k
    · subst e; rw [aA, if_pos ⟨by omega, hk⟩]
    · rw [aw (by omega), ih]
      by_cases h2 : r < k ∧ aF T p r = true
      · rw [if_pos h2, if_pos ⟨by omega, h2.2⟩]
      · rw [if_neg h2, if_neg fun h3 => h2 ⟨by omega, h3.2⟩]
  · rw [if_neg hk, ih]
    by_cases h2 : r < k ∧ aF T p r = true
    · rw [if_pos h2, if_pos ⟨by omega, h2.2⟩]
    · rw [if_neg h2, if_neg fun h3 => h2 ⟨by have : r ≠ k := (fun e => hk (e ▸ h3.2)); omega, h3.2⟩]
theorem Fg (k : Nat) (hk : k ≤ 4096) (q : Int) : opK T p k q = ((bD T p k q).length : Int) := by
 induction k with
 | zero => rfl
 | succ k ih =>
  have ih := ih (by omega)
  rw [lC, dk, lj]
  have hl : (bD T p k q).length ≤ k := by
   unfold bD
   rw [List.length_map]
   exact Nat.le_trans (List.length_filter_le _ _) (by simp)
  cases hb : aF T p k with
  | false => simp [ih]
  | true =>
   by_cases e : ah T k = q
   · subst e
     rw [if_pos rfl, aA, ih, qL (by omega) (by omega)]
     simp
   · rw [if_pos rfl, aw (fun h => e h.symm), ih]
     simp [e]
theorem Fd {f : Int → Int} (k : Nat) (q : Int) : eP T p f k q = if (∃ r : Nat, r < k ∧ aF T p r = true ∧ ax T r = [] ∧ ah T r = q) then 0 else f q := by
 induction k with
 | zero => rw [if_neg (by rintro ⟨r, h, _⟩; omega)]; rfl
 | succ k ih =>
  rw [kP]
  by_cases hb : (aF T p k && (ax T k).isEmpty) = true
  · rw [if_pos hb]
    simp only [Bool.and_eq_true, List.isEmpty_iff] at hb
    by_cases e : ah T k = q
    · subst e
      rw [aA, if_pos ⟨k, by omega, hb.1, hb.2, rfl⟩]
    · rw [aw (fun h => e h.symm), ih]
      by_cases h2 : ∃ r : Nat, r < k ∧ aF T p r = true ∧ ax T r = [] ∧ ah T r = q
      · rw [if_pos h2]
        obtain ⟨r, h3, h4⟩ := h2
        rw [if_pos ⟨r, by omega, h4⟩]
      · rw [if_neg h2, if_neg]
        rintro ⟨r, h3, h4⟩
        by_cases e2 : r = k
        · exact e (e2 ▸ h4.2.2)
        · exact h2 ⟨r, by omega, h4⟩
  · rw [if_neg hb, ih]
    by_cases h2 : ∃ r : Nat, r < k ∧ aF T p r = true ∧ ax T r = [] ∧ ah T r = q
    · rw [if_pos h2]
      obtain ⟨r, h3, h4⟩ := h2
      rw [if_pos ⟨r, by omega, h4⟩]
    · rw [if_neg h2, if_neg]
      rintro ⟨r, h3, h4⟩
      by_cases e2 : r = k
      · subst e2
        apply hb
        rw [h4.1, h4.2.1]
        rfl
      · exact h2 ⟨r, by omega, h4⟩
theorem tL {q : Int} : je T p q = true ↔ ∃ r : Nat, r < T.rules.length ∧ aF T p r = true ∧ ax T r = [] ∧ ah T r = q := by
 unfold je
 rw [List.any_eq_true]
 constructor
 · rintro ⟨x, hx, he⟩
   obtain ⟨a, r, rfl, hr, hp, hh⟩ := cN.1 hx
   obtain ⟨e1, e2, e3⟩ := ed (p := p) hr
   exact ⟨a, (List.getElem?_eq_some_iff.1 hr).1, by rw [e1]; exact hp, List.isEmpty_iff.1 he, by rw [e2]; exact hh⟩
 · rintro ⟨a, ha, h1, h2, h3⟩
   obtain ⟨r, hr⟩ := an ha
   obtain ⟨e1, e2, e3⟩ := ed (p := p) hr
   exact ⟨a, cN.2 ⟨a, r, rfl, hr, by rw [← e1]; exact h1, by rw [← e2]; exact h3⟩, by rw [h2]; rfl⟩
theorem D9 {l : List Int} {f : Int → Int} {q : Int} : l.foldl (fun f x => ar f x 0) f q = if q ∈ l then 0 else f q := by
 induction l generalizing f with
 | nil => rfl
 | cons x l ih =>
  rw [List.foldl_cons, ih]
  by_cases h : q ∈ l
  · rw [if_pos h, if_pos (List.mem_cons_of_mem _ h)]
  · rw [if_neg h]
    by_cases e : q = x
    · subst e; rw [aA, if_pos List.mem_cons_self]
    · rw [aw e, if_neg (by simp [e, h])]
theorem yd (hp : Pf T F n) (b : Bool) (q : Nat) : (eJ F (fZ T F n)).op b q = (aZ T F).op b q := by
 have hr := hp.ok.rl
 have key : eP T (kL b) (opK T (kL b) T.rules.length) T.rules.length q = if je T (kL b) q then 0 else ((ag T (kL b) q).length : Int) := by
  rw [Fd, Fg _ (by omega)]
  by_cases h : je T (kL b) (q : Int) = true
  · rw [if_pos (tL.1 h), if_pos h]
  · rw [if_neg fun h2 => h (tL.2 h2), if_neg h]; rfl
 show aM (fZ T F n).op false (F.foldl (fun f x => ar f x 0) ((fZ T F n).op false)) b (q : Int) = if dc T F b q then 0 else ((ag T (kL b) q).length : Int)
 unfold dc
 cases b
 · rw [aG, D9]
   show (if (q : Int) ∈ F then 0 else eP T (kL false) (opK T (kL false) T.rules.length) T.rules.length q) = _
   rw [key]
   by_cases h1 : (q : Int) ∈ F
   · simp [h1]
   · simp [h1]
 · rw [aT (by decide)]
   show eP T (kL true) (opK T (kL true) T.rules.length) T.rules.length q = _
   rw [key]
   simp
theorem zI {h : Int} {l : List Int} (hn : l.Nodup) {d : Int → Int → Int} {s q : Int} : l.foldl (ku h) d s q = if s ∈ l ∧ q = h then aH (d s q) else d s q := by
 induction l generalizing d with
 | nil => simp
 | cons x l ih =>
  obtain ⟨h1, h2⟩ := List.nodup_cons.1 hn
  rw [List.foldl_cons, ih h2]
  have e0 : ku h d x s q = if s = x ∧ q = h then aH (d s q) else d s q := by
   unfold ku
   by_cases e : s = x
   · subst e
     rw [aA]
     by_cases e2 : q = h
     · subst e2; rw [aA, if_pos ⟨rfl, rfl⟩]
     · rw [aw e2, if_neg fun a => e2 a.2]
   · rw [aw e, if_neg fun a => e a.1]
  rw [e0]
  by_cases e : s = x
  · subst e
    rw [if_neg fun a => h1 a.1]
    simp
  · by_cases e2 : s ∈ l ∧ q = h
    · rw [if_pos e2, if_neg fun a => e a.1, if_pos ⟨List.mem_cons_of_mem _ e2.1, e2.2⟩]
    · rw [if_neg e2, if_neg fun a => e a.1, if_neg]
      rintro ⟨a, b⟩
      exact e2 ⟨(List.mem_cons.1 a).resolve_left e, b⟩
theorem uY {k : Int} : aW T k = aF T kT k := rfl
theorem Fk (hp : Pf T F n) (k : Nat) (hk : k ≤ T.rules.length) (s : Nat) (q : Int) : gv T k s q = js (bD T kT k q) fun t => beatB T t s := by
 have hr := hp.ok.rl
 induction k with
 | zero => rfl
 | succ k ih =>
  have ih := ih (by omega)
  have hl : (bD T kT k q).length ≤ k := by
   unfold bD
   rw [List.length_map]
   exact Nat.le_trans (List.length_filter_le _ _) (by simp)
  have hc : 0 ≤ js (bD T kT k q) (fun t => beatB T t s) ∧ js (bD T kT k q) (fun t => beatB T t s) ≤ 4096 := by
   unfold js
   have := List.length_filter_le (fun t => beatB T t (s : Int)) (bD T kT k q)
   omega
  rw [nR, dk, lj, uY]
  cases hb : aF T kT k with
  | false => simp [ih]
  | true =>
   have Aa : (row T.beats (k : Int)).Nodup := by
    have Ab := hp.ok.bl
    obtain ⟨l, hl⟩ := an (l := T.beats) (i := k) (by omega)
    rw [bE (l := l) (by rw [Int.toNat_natCast]; exact hl)]
    exact dw (hp.beat l (List.mem_of_getElem? hl))
   rw [if_pos rfl, zI Aa, ih]
   by_cases e : ah T k = q
   · subst e
     simp only [Bool.true_and, decide_true, if_true, and_true]
     unfold js at hc ⊢
     rw [List.filter_append, List.length_append]
     by_cases hbt : (s : Int) ∈ row T.beats k
     · rw [if_pos hbt, qL (by omega) (by omega)]
       have : beatB T k s = true := by unfold beatB; exact decide_eq_true hbt
       simp [this]
     · rw [if_neg hbt]
       have : ¬ beatB T k s = true := by unfold beatB; simp [hbt]
       simp [this]
   · rw [if_neg fun a => e a.2.symm]
     simp [e]
def dv (g : Nat → Int) : Nat → Int
 | 0 => 0
 | k + 1 => dv g k + g k
theorem zO {q : Int} {l : List Int} (hn : l.Nodup) {f : Int → Int} {z : Int} : l.foldl (gZ T F q) f z = if z ∈ l then gZ T F q f z z else f z := by
 induction l generalizing f with
 | nil => simp
 | cons x l ih =>
  obtain ⟨h1, h2⟩ := List.nodup_cons.1 hn
  rw [List.foldl_cons, ih h2]
  by_cases e : z = x
  · subst e
    rw [if_neg h1, if_pos List.mem_cons_self]
  · have e2 : gZ T F q f x z = f z := by unfold gZ; rw [aw e]
    by_cases h : z ∈ l
    · rw [if_pos h, if_pos (List.mem_cons_of_mem _ h)]
      unfold gZ at e2 ⊢
      rw [aA, aA, e2]
    · rw [if_neg h, if_neg (by simp [e, h]), e2]
def ju (T : Th) (F : List Int) (z : Int) (q : Nat) : Int := if z ∈ ak T q then ((ag T kA q).length : Int) + (if aE T F q then 1 else 0) else 0
theorem Fu (hp : Pf T F n) (k : Nat) (hk : k ≤ n) (z : Int) : obK T F k z = dv (ju T F z) k ∧ 0 ≤ dv (ju T F z) k ∧ dv (ju T F z) k ≤ (k : Int) * 4097 := by
 have hr := hp.ok.rl
 have Aa := hp.n4
 induction k with
 | zero => exact ⟨rfl, Int.le_refl _, by show (0 : Int) ≤ _; omega⟩
 | succ k ih =>
  obtain ⟨h1, h2, h3⟩ := ih (by omega)
  have hl : (ag T kA (k : Int)).length ≤ T.rules.length := gl
  have hg : 0 ≤ ju T F z k ∧ ju T F z k ≤ 4097 := by
   unfold ju
   split
   · split <;> omega
   · omega
  refine ⟨?_, by show 0 ≤ _ + _; omega, by show _ + _ ≤ _; omega⟩
  show _ = dv (ju T F z) k + ju T F z k
  rw [rR, zO (dw (lB hp (by omega)))]
  unfold ju
  by_cases hm : z ∈ ak T (k : Int)
  · rw [if_pos hm, if_pos hm]
    unfold gZ
    rw [aA, h1, E5 h2 (by omega) (by omega) (by omega)]
    by_cases hf : aE T F (k : Int) = true
    · rw [if_pos hf, if_pos hf, qL (by omega) (by omega)]
      unfold ju
      omega
    · rw [if_neg hf, if_neg hf]
      unfold ju
      omega
  · rw [if_neg hm, if_neg hm, h1]
    unfold ju
    omega
theorem jg {f g : Nat → Int} {k : Nat} (h : ∀ i, i < k → f i = g i) : dv f k = dv g k := by
 induction k with
 | zero => rfl
 | succ k ih => show _ + _ = _ + _; rw [ih fun i hi => h i (by omega), h k (by omega)]
theorem oq {f g : Nat → Int} {k : Nat} : dv (fun i => f i + g i) k = dv f k + dv g k := by
 induction k with
 | zero => rfl
 | succ k ih => show dv _ k + (f k + g k) = (dv f k + f k) + (dv g k + g k); rw [ih]; omega
theorem mM {k : Nat} : dv (fun _ => 0) k = 0 := by
 induction k with
 | zero => rfl
 | succ k ih => show dv _ k + 0 = 0; rw [ih]; rfl
theorem tI (a : Nat) (c : Int) (k : Nat) : dv (fun q => if q = a then c else 0) k = if a < k then c else 0 := by
 induction k with
 | zero => rw [if_neg (by omega)]; rfl
 | succ k ih =>
  show dv _ k + (if k = a then c else 0) = _
  rw [ih]
  by_cases e : k = a
  · subst e; rw [if_neg (by omega), if_pos rfl, if_pos (by omega)]; omega
  · rw [if_neg e]
    by_cases e2 : a < k
    · rw [if_pos e2, if_pos (by omega)]; omega
    · rw [if_neg e2, if_neg (by omega)]; rfl
theorem zY {l : List Int} (hn : l.Nodup) {P : Int → Bool} (hl : ∀ x ∈ l, 0 ≤ x ∧ x < (n : Int)) : js l P = dv (fun q => if (q : Int) ∈ l ∧ P q = true then 1 else 0) n := by
 induction l with
 | nil => simp [js, mM]
 | cons x l ih =>
  obtain ⟨h1, h2⟩ := List.nodup_cons.1 hn
  have ih := ih h2 fun y hy => hl y (List.mem_cons_of_mem _ hy)
  obtain ⟨x0, x1⟩ := hl x List.mem_cons_self
  obtain ⟨a, rfl⟩ := Int.eq_ofNat_of_zero_le x0
  have e1 : js ((a : Int) :: l) P = js l P + if P a = true then 1 else 0 := by
   unfold js
   by_cases h : P a = true
   · rw [List.filter_cons_of_pos h, if_pos h]; simp
   · rw [List.filter_cons_of_neg h, if_neg h]; simp
  have Aa : ∀ (c : Int) (k : Nat), dv (fun q => if q = a then c else 0) k = if a < k then c else 0 := tI a
  have e2 : (if P a = true then (1 : Int) else 0) = dv (fun q => if q = a then (if P a = true then 1 else 0) else 0) n := by rw [Aa]; exact (if_pos (show a < n by omega)).symm
  rw [e1, ih, e2, ← oq]
  refine jg fun q hq => ?_
  by_cases e : q = a
  · subst e
    rw [if_pos rfl, if_neg fun h => h1 h.1]
    by_cases hP : P (q : Int) = true
    · rw [if_pos hP, if_pos ⟨List.mem_cons_self, hP⟩]; rfl
    · rw [if_neg hP, if_neg fun h => hP h.2]; rfl
  · rw [if_neg e]
    have : ((q : Int) ∈ (a : Int) :: l) ↔ (q : Int) ∈ l := by
     rw [List.mem_cons]
     exact ⟨fun h => h.resolve_left (by omega), .inr⟩
    simp only [this]
    omega
theorem zR {l : List Int} (R : Nat) (hh : ∀ a : Nat, a < R → 0 ≤ ah T a ∧ ah T a < (n : Int)) (hR : R ≤ T.rules.length) : (((List.range R).filter fun a : Nat => decide (ah T a ∈ l)).length : Int) = dv (fun q => if (q : Int) ∈ l then ((bD T kA R q).length : Int) else 0) n := by
 induction R with
 | zero => rw [show (fun q : Nat => if (q : Int) ∈ l then ((bD T kA 0 q).length : Int) else 0) = fun _ => 0 from by funext q; split <;> rfl, mM]; rfl
 | succ R ih =>
  have ih := ih (fun a ha => hh a (by omega)) (by omega)
  obtain ⟨x0, x1⟩ := hh R (by omega)
  obtain ⟨a, ha⟩ := Int.eq_ofNat_of_zero_le x0
  obtain ⟨r, hr⟩ := an (l := T.rules) (i := R) (by omega)
  have hk : aF T kA R = true := (ed (p := kA) hr).1
  have Aa : ∀ (c : Int) (k : Nat), dv (fun q => if q = a then c else 0) k = if a < k then c else 0 := tI a
  have e1 : (((List.range (R + 1)).filter fun a : Nat => decide (ah T a ∈ l)).length : Int) = ((List.range R).filter fun a : Nat => decide (ah T a ∈ l)).length + dv (fun q => if q = a then (if ah T R ∈ l then 1 else 0) else 0) n := by
   rw [Aa, if_pos (show a < n by omega), List.range_succ, List.filter_append, List.length_append]
   by_cases h : ah T R ∈ l
   · simp [h]
   · simp [h]
  rw [e1, ih, ← oq]
  refine jg fun q hq => ?_
  rw [dk, lj, hk]
  by_cases e : q = a
  · subst e
    rw [ha]
    by_cases hm : (q : Int) ∈ l
    · simp [hm]
    · simp [hm]
  · have : ¬ ah T R = (q : Int) := by omega
    simp [e, this]
theorem yv (hp : Pf T F n) (z : Nat) (hz : z < n) : obK T F n z = (aZ T F).ob z := by
 rw [(Fu hp n (Nat.le_refl _) z).1]
 show _ = if (ag T kT (z : Int)).isEmpty then 0 else js (row T.foes z) (aE T F) + ((fF T z).length : Nat)
 by_cases ht : (ag T kT (z : Int)).isEmpty = true
 · rw [if_pos ht]
   have : dv (ju T F z) n = dv (fun _ => 0) n := jg fun q hq => by
    unfold ju
    rw [if_neg]
    intro hm
    exact (cW.1 hm).2 (List.isEmpty_iff.1 ht)
   rw [this, mM]
 · rw [if_neg ht]
   have Ab : ∀ x ∈ row T.foes (z : Int), 0 ≤ x ∧ x < (n : Int) := hp.foe z hz
   have h1 := zY (n := n) (P := aE T F) (dw (eQ hp hz).1) Ab
   have h2 := zR (T := T) (n := n) (l := row T.foes (z : Int)) T.rules.length (fun a ha => by obtain ⟨x, -, e, x0, x1⟩ := dp hp ha; rw [e]; exact ⟨x0, x1⟩) (Nat.le_refl _)
   have h3 : ((fF T (z : Int)).length : Int) = (((List.range T.rules.length).filter fun a : Nat => decide (ah T a ∈ row T.foes (z : Int))).length : Int) := by
    unfold fF
    rw [List.length_map]
   rw [h1, h3, h2, ← oq]
   refine jg fun q hq => ?_
   unfold ju
   have Aa : (z : Int) ∈ ak T q ↔ (q : Int) ∈ row T.foes z := by
    rw [cW]
    constructor
    · intro h; exact cU hp (by omega) (by omega) h.1
    · intro h; exact ⟨cU hp (by omega) (by omega) h, fun e => ht (by rw [e]; rfl)⟩
   by_cases hm : (q : Int) ∈ row T.foes z
   · rw [if_pos (Aa.2 hm), if_pos hm]
     by_cases hf : aE T F (q : Int) = true
     · rw [if_pos hf, if_pos ⟨hm, hf⟩]
       show ((ag T kA q).length : Int) + 1 = 1 + ((ag T kA q).length : Int)
       omega
     · rw [if_neg hf, if_neg fun h => hf h.2]
       show ((ag T kA q).length : Int) + 0 = 0 + ((ag T kA q).length : Int)
       omega
   · rw [if_neg fun h => hm (Aa.1 h), if_neg fun h => hm h.1, if_neg hm]; rfl
theorem lD (hp : Pf T F n) : pP T F n :=
 ⟨fun b r hr => by
  show fV T (kW b) T.rules.length r = if aF T (kW b) r then ((ax T r).length : Int) else 0
  rw [Fp]
  by_cases h : aF T (kW b) r = true
  · rw [if_pos ⟨hr, h⟩, if_pos h]
  · rw [if_neg fun a => h a.2, if_neg h], fun b q _ => yd hp b q, fun s _ p _ => Fk hp _ (Nat.le_refl _) s p, fun q hq => yv hp q hq⟩
end
end Go.Proofs.YtmlhcncagdfjfaaGreat.Fa
namespace Go.Proofs.YtmlhcncagdfjfaaGreat.Fa
open Go.RowKit
def fi (b : Bool) : Nat := if b then 1 else 0
def dx (m : List Int) (q : Nat) : Nat := fi (hs m q 1) + fi (hs m q 2) + fi (hs m q 3) + fi (hs m q 4)
def bL (m : List Int) : Nat → Nat
 | 0 => 0
 | k + 1 => bL m k + dx m k
theorem gN (b : Bool) : fi b ≤ 1 := by cases b <;> simp [fi]
theorem bR {a b : Bool} (h : a = true → b = true) : fi a ≤ fi b := by cases a <;> cases b <;> simp_all [fi]
theorem pL {m : List Int} {q : Nat} : dx m q ≤ 4 := by
 unfold dx
 have := gN (hs m q 1)
 have := gN (hs m q 2)
 have := gN (hs m q 3)
 have := gN (hs m q 4)
 omega
theorem kE {m : List Int} : ∀ {k : Nat}, bL m k ≤ 4 * k
 | 0 => by simp [bL]
 | k + 1 => by
  have := kE (m := m) (k := k)
  have := pL (m := m) (q := k)
  unfold bL
  omega
theorem iW {m m' : List Int} (h : Le m m') {q : Nat} : dx m q ≤ dx m' q := by
 unfold dx
 have h1 := bR (h q 1 (by omega) tag1)
 have h2 := bR (h q 2 (by omega) tag2)
 have h3 := bR (h q 3 (by omega) tag3)
 have h4 := bR (h q 4 (by omega) tag4)
 omega
theorem iK {m m' : List Int} (h : Le m m') : ∀ {k : Nat}, bL m k ≤ bL m' k
 | 0 => Nat.le_refl _
 | k + 1 => by
  have := iK h (k := k)
  have := iW h (q := k)
  unfold bL
  omega
theorem kB {m m' : List Int} (h : Le m m') {q : Nat} (hq : dx m q < dx m' q) : ∀ {k : Nat}, q < k → bL m k < bL m' k
 | 0, hk => by omega
 | k + 1, hk => by
  have h1 := iW h (q := k)
  unfold bL
  by_cases e : q = k
  · subst e
    have := iK h (k := q)
    omega
  · have := kB h hq (k := k) (by omega)
    omega
theorem sy {a b : Bool} (h1 : a = false) (h2 : b = true) : fi a < fi b := by rw [h1, h2]; decide
theorem pN {m m' : List Int} (h : Le m m') {q : Nat} {t : Int} (ht : aq t) (h1 : hs m q t = false) (h2 : hs m' q t = true) : dx m q < dx m' q := by
 unfold dx
 have g1 := bR (h q 1 (by omega) tag1)
 have g2 := bR (h q 2 (by omega) tag2)
 have g3 := bR (h q 3 (by omega) tag3)
 have g4 := bR (h q 4 (by omega) tag4)
 have g5 := sy h1 h2
 rcases ht with rfl | rfl | rfl | rfl <;> omega
theorem mj {T : Th} {F m : List Int} (h : ∀ (q : Nat) (t : Int), q < m.length → aq t → (!hs m q t && bf T F m t q) = false) : aO T F m = m := by
 apply List.ext_getElem?
 intro q
 by_cases hq : q < m.length
 · unfold aO
   rw [List.getElem?_map, List.getElem?_range hq, List.getElem?_eq_getElem hq]
   have e : m.getD q 0 = m[q] := by rw [List.getD_eq_getElem?_getD, List.getElem?_eq_getElem hq]; rfl
   show some (em T F m q 4 (em T F m q 3 (em T F m q 2 (em T F m q 1 (m.getD q 0))))) = _
   have a : ∀ (t x : Int), aq t → em T F m q t x = x := fun t x ht => by unfold em; rw [h q t hq ht]; rfl
   rw [a 1 _ tag1, a 2 _ tag2, a 3 _ tag3, a 4 _ tag4, e]
 · rw [List.getElem?_eq_none (by rw [dj]; omega), List.getElem?_eq_none (by omega)]
theorem i7 {T : Th} {F m : List Int} (hb : oU m) (hne : aO T F m ≠ m) : bL m m.length < bL (aO T F m) m.length := by
 apply Classical.byContradiction
 intro hn
 apply hne
 refine mj fun q t hq ht => ?_
 cases e : (!hs m q t && bf T F m t q) with
 | false => rfl
 | true =>
  exfalso
  simp only [Bool.and_eq_true, Bool.not_eq_true'] at e
  refine hn (kB (jF hb) (pN (jF hb) ht e.1 ?_) hq)
  rw [ig hb (by omega) (by omega) ht, e.2]
  simp
theorem uo {T : Th} {F : List Int} {n : Nat} (hp : Pf T F n) : ∃ m k, fU T F m k := by
 have key : ∀ (d k : Nat), 4 * n ≤ bL (bJ T F k (List.replicate T.lits.toNat 0)) n + d → ∃ m k, fU T F m k := by
  intro d
  induction d with
  | zero =>
   intro k h
   refine ⟨_, k, rfl, ?_⟩
   by_cases hne : aO T F (bJ T F k (List.replicate T.lits.toNat 0)) = bJ T F k (List.replicate T.lits.toNat 0)
   · exact hne
   · have h2 : bL (bJ T F k (List.replicate T.lits.toNat 0)) (bJ T F k (List.replicate T.lits.toNat 0)).length < bL (aO T F (bJ T F k (List.replicate T.lits.toNat 0))) (bJ T F k (List.replicate T.lits.toNat 0)).length := i7 gL hne
     rw [show (bJ T F k (List.replicate T.lits.toNat 0)).length = n from jH hp] at h2
     have h3 := kE (m := aO T F (bJ T F k (List.replicate T.lits.toNat 0))) (k := n)
     omega
  | succ d ih =>
   intro k h
   by_cases hne : aO T F (bJ T F k (List.replicate T.lits.toNat 0)) = bJ T F k (List.replicate T.lits.toNat 0)
   · exact ⟨_, k, rfl, hne⟩
   · refine ih (k + 1) ?_
     have h2 : bL (bJ T F k (List.replicate T.lits.toNat 0)) (bJ T F k (List.replicate T.lits.toNat 0)).length < bL (aO T F (bJ T F k (List.replicate T.lits.toNat 0))) (bJ T F k (List.replicate T.lits.toNat 0)).length := i7 gL hne
     rw [show (bJ T F k (List.replicate T.lits.toNat 0)).length = n from jH hp] at h2
     rw [iU]
     omega
 exact key (4 * n) 0 (by omega)
end Go.Proofs.YtmlhcncagdfjfaaGreat.Fa
namespace Go.Proofs.YtmlhcncagdfjfaaGreat.Fa
structure dm where
 a : Bool → Int → Int → Bool
 n : Bool → Int → Int → Bool
 c : Bool → Int → Bool
 f : Int → Int → Bool
 r : Int → Int → Bool
 w : Int → Int → Bool
 d : Int → Int → Bool
def lf (l : List Int) (P : Int → Bool) : Int := ((l.filter fun x => !P x).length : Nat)
section
variable {l : List Int} {P Q : Int → Bool} {x : Int}
theorem iO : 0 ≤ lf l P := Int.natCast_nonneg _
theorem lm : lf l P ≤ (l.length : Int) := by unfold lf; have := List.length_filter_le (fun x => !P x) l; omega
theorem dK : lf l P = 0 ↔ ∀ x ∈ l, P x = true := by
 unfold lf
 constructor
 · intro h y hy
   cases hp : P y with
   | true => rfl
   | false =>
    have h2 : y ∈ l.filter fun x => !P x := List.mem_filter.2 ⟨hy, by simp [hp]⟩
    have := List.length_pos_of_mem h2
    omega
 · intro h
   have : (l.filter fun x => !P x) = [] := List.filter_eq_nil_iff.2 fun y hy => by simp [h y hy]
   rw [this]
   rfl
theorem rN (h : ∀ y ∈ l, P y = Q y) : lf l P = lf l Q := by
 unfold lf
 rw [List.filter_congr fun y hy => by rw [h y hy]]
theorem iz (hn : l.Nodup) (hx : x ∈ l) (hp : P x = false) : lf l (ar P x true) = lf l P - 1 := by
 induction l with
 | nil => cases hx
 | cons y l ih =>
  obtain ⟨h1, h2⟩ := List.nodup_cons.1 hn
  by_cases e : x = y
  · subst e
    have h3 : lf l (ar P x true) = lf l P := rN fun z hz => aw fun (e : z = x) => h1 (e ▸ hz)
    unfold lf at h3 ⊢
    rw [List.filter_cons_of_neg (by simp [aA]), List.filter_cons_of_pos (by simp [hp])]
    simp only [List.length_cons]
    omega
  · have hm : x ∈ l := (List.mem_cons.1 hx).resolve_left e
    have h3 := ih h2 hm
    unfold lf at h3 ⊢
    have e2 : ar P x true y = P y := aw fun (e' : y = x) => e e'.symm
    cases hy : P y with
    | true => rw [List.filter_cons_of_neg (by simp [e2, hy]), List.filter_cons_of_neg (by simp [hy])]; exact h3
    | false => rw [List.filter_cons_of_pos (by simp [e2, hy]), List.filter_cons_of_pos (by simp [hy])]; simp only [List.length_cons]; omega
theorem vR (hx : x ∉ l) : lf l (ar P x true) = lf l P := rN fun z hz => aw fun (e : z = x) => hx (e ▸ hz)
end
structure Exa (T : Th) (F : List Int) (n : Nat) (G : dm) (e : Es) : Prop where
 ms : ∀ b (r : Nat), r < T.rules.length → aF T (kW b) r = true → e.ms b r = lf (ax T r) (G.a b r)
 rf : ∀ b (r : Nat), r < T.rules.length → e.rf b r = (ax T r).any (G.n b r)
 op : ∀ b (q : Nat), q < n → e.op b q = if dc T F b q || (ag T (kL b) q).isEmpty then 0 else max 1 (lf (ag T (kL b) q) (G.c b))
 cd : ∀ s : Nat, s < T.rules.length → ∀ p ∈ ak T (ah T s), e.cd s p = lf ((ag T kT p).filter fun t => beatB T t s) fun t => G.w t s
 ob : ∀ p : Nat, p < n → ag T kT p ≠ [] → e.ob p = lf ((row T.foes p).filter (aE T F)) (fun f => G.f f p) + lf (fF T p) fun s => G.r s p
def tj : dm := ⟨fun _ _ _ => false, fun _ _ _ => false, fun _ _ => false, fun _ _ => false, fun _ _ => false, fun _ _ => false, fun _ _ => false⟩
theorem kK {l : List Int} : lf l (fun _ => false) = (l.length : Int) := congrArg (fun k : Nat => (k : Int)) (congrArg List.length (List.filter_eq_self.2 fun _ _ => rfl))
theorem Exa.start {T : Th} {F : List Int} {n : Nat} : Exa T F n tj (aZ T F) := by
 refine ⟨fun b r hr hk => ?_, fun b r hr => ?_, fun b q hq => ?_, fun s hs p hp => ?_, fun p hp ht => ?_⟩
 · show (if aF T (kW b) r then ((ax T r).length : Int) else 0) = lf _ fun _ => false
   rw [if_pos hk, kK]
 · show false = (ax T r).any fun _ => false
   simp
 · show (if dc T F b q then 0 else ((ag T (kL b) q).length : Int)) = if dc T F b q || (ag T (kL b) q).isEmpty then 0 else max 1 (lf (ag T (kL b) q) fun _ => false)
   rw [kK]
   cases dc T F b q with
   | true => rfl
   | false =>
    cases h : ag T (kL b) (q : Int) with
    | nil => rfl
    | cons x l => simp; omega
 · show js (ag T kT p) (fun t => beatB T t s) = lf _ fun _ => false
   rw [kK]
   rfl
 · show (if (ag T kT (p : Int)).isEmpty then 0 else js (row T.foes p) (aE T F) + ((fF T p).length : Nat)) = lf _ (fun _ => false) + lf _ fun _ => false
   rw [kK, kK, if_neg (by simpa using ht)]
   rfl
def cY (g : Int → Int → Bool) (x y : Int) : Int → Int → Bool := ar g x (ar (g x) y true)
theorem ps {g : Int → Int → Bool} {x y z : Int} : (fun u => cY g x y u z) = if z = y then ar (fun u => g u y) x true else fun u => g u z := by
 funext u
 unfold cY
 by_cases e : u = x
 · subst e
   rw [aA]
   by_cases e2 : z = y
   · subst e2; rw [if_pos rfl, aA, aA]
   · rw [if_neg e2, aw e2]
 · rw [aw e]
   by_cases e2 : z = y
   · subst e2; rw [if_pos rfl, aw e]
   · rw [if_neg e2]
theorem tS {g : Int → Int → Bool} {x y : Int} : cY g x y x = ar (g x) y true := aA
theorem tM {g : Int → Int → Bool} {x y u : Int} (h : u ≠ x) : cY g x y u = g u := aw h
theorem kr {g : Int → Int → Bool} {x y u v : Int} (h : g u v = true) : cY g x y u v = true := by
 unfold cY
 by_cases e : u = x
 · subst e
   rw [aA]
   by_cases e2 : v = y
   · subst e2; rw [aA]
   · rw [aw e2]; exact h
 · rw [aw e]; exact h
theorem cq {g : Int → Int → Bool} {x y u v : Int} : cY g x y u v = true ↔ g u v = true ∨ (u = x ∧ v = y) := by
 unfold cY
 by_cases e : u = x
 · subst e
   rw [aA]
   by_cases e2 : v = y
   · subst e2; rw [aA]; simp
   · rw [aw e2]; simp [e2]
 · rw [aw e]; simp [e]
theorem mO {v : Int} (h0 : 0 < v) (h1 : v < 1099511627776) : dt v = v - 1 := by
 unfold dt
 rw [IntKind.wrap_i64]
 omega
section
variable {T : Th} {F : List Int} {n : Nat} {G : dm} {e e' : Es}
theorem Exa.same (h : Exa T F n G e) (h1 : e'.ms = e.ms) (h2 : e'.rf = e.rf) (h3 : e'.op = e.op) (h4 : e'.cd = e.cd) (h5 : e'.ob = e.ob) : Exa T F n G e' :=
 ⟨fun b r hr hk => by rw [h1]; exact h.ms b r hr hk, fun b r hr => by rw [h2]; exact h.rf b r hr, fun b q hq => by rw [h3]; exact h.op b q hq, fun s hs p hp => by rw [h4]; exact h.cd s hs p hp, fun p hp ht => by rw [h5]; exact h.ob p hp ht⟩
theorem Exa.tell (h : Exa T F n G e) {q t : Int} : Exa T F n G (tell e q t) := by
 unfold Fa.tell
 split
 · exact h
 · exact h.same rfl rfl rfl rfl rfl
theorem kJ {l : List Int} {P : Int → Bool} {x : Int} (hx : x ∈ l) (hp : P x = false) : 0 < lf l P := by
 have h0 := iO (l := l) (P := P)
 have : lf l P ≠ 0 := fun e => by have := dK.1 e x hx; rw [hp] at this; cases this
 omega
theorem A7 (hp : Pf T F n) {r : Nat} (hr : r < T.rules.length) : (ax T r).Nodup ∧ (ax T r).length ≤ 16 := by
 obtain ⟨x, hx⟩ := an hr
 obtain ⟨-, -, e⟩ := ed (p := kA) hx
 rw [e]
 have := hp.ok.rule x (List.mem_of_getElem? hx)
 exact ⟨dw (bW (by omega) this.2.2.2.2.2).2, this.2.2.2.2.1⟩
theorem Exa.met (hp : Pf T F n) (h : Exa T F n G e) {b : Bool} {r : Nat} {q : Int} (hr : r < T.rules.length) (hk : aF T (kW b) r = true) (hq : q ∈ ax T r) (hn : G.a b r q = false) : Exa T F n { G with a := aM G.a b (cY (G.a b) r q) } (bO e b r) := by
 obtain ⟨Ab, hl⟩ := A7 hp hr
 refine ⟨fun c s hs hks => ?_, h.rf, h.op, h.cd, h.ob⟩
 show aM e.ms b (ar (e.ms b) r (dt (e.ms b r))) c s = lf (ax T s) (aM G.a b (cY (G.a b) r q) c s)
 by_cases ec : c = b
 · subst ec
   rw [aG, aG]
   by_cases es : s = r
   · subst es
     have h1 := h.ms c s hr hk
     have Aa := kJ hq hn
     have Ac := lm (l := ax T s) (P := G.a c s)
     rw [aA, tS, iz Ab hq hn, h1, mO Aa (by omega)]
   · rw [aw (by omega), tM (by omega)]
     exact h.ms c s hs hks
 · rw [aT ec, aT ec]
   exact h.ms c s hs hks
theorem yG {l : List Int} {P : Int → Bool} {x : Int} (hx : x ∈ l) : l.any (ar P x true) = true := List.any_eq_true.2 ⟨x, hx, aA⟩
theorem Exa.ref (h : Exa T F n G e) {b : Bool} {r : Nat} {q : Int} (hr : r < T.rules.length) (hq : q ∈ ax T r) : Exa T F n { G with n := aM G.n b (cY (G.n b) r q) } (refE e b r) := by
 have key : ∀ c (s : Nat), s < T.rules.length → (if c = b ∧ s = r then true else e.rf c s) = (ax T s).any (aM G.n b (cY (G.n b) r q) c s) := by
  intro c s hs
  by_cases ec : c = b
  · subst ec
    rw [aG]
    by_cases es : s = r
    · subst es
      rw [if_pos ⟨rfl, rfl⟩, tS, yG hq]
    · rw [if_neg fun a => es a.2, tM (by omega)]
      exact h.rf c s hs
  · rw [if_neg fun a => ec a.1, aT ec]
    exact h.rf c s hs
 unfold refE
 by_cases hrf : e.rf b r = true
 · rw [if_pos hrf]
   refine ⟨h.ms, fun c s hs => ?_, h.op, h.cd, h.ob⟩
   rw [← key c s hs]
   by_cases ec : c = b ∧ s = r
   · rw [if_pos ec, ec.1, ec.2]; exact hrf
   · rw [if_neg ec]
 · rw [if_neg hrf]
   refine ⟨h.ms, fun c s hs => ?_, h.op, h.cd, h.ob⟩
   rw [← key c s hs]
   show aM e.rf b (ar (e.rf b) r true) c s = _
   by_cases ec : c = b
   · subst ec
     rw [aG]
     by_cases es : s = r
     · subst es; rw [aA, if_pos ⟨rfl, rfl⟩]
     · rw [aw (by omega), if_neg fun a => es a.2]
   · rw [aT ec, if_neg fun a => ec a.1]
theorem rules_nd {p : RuleM → Bool} {z : Int} : (ag T p z).Nodup := by
 unfold ag bD
 refine List.Pairwise.map _ (fun a b h => ?_) ((List.nodup_range).filter _)
 intro e
 exact h (Int.ofNat.inj e)
theorem Exa.cls (hp : Pf T F n) (h : Exa T F n G e) {b : Bool} {r : Int} {q : Nat} (hq : q < n) (hr : r ∈ ag T (kL b) q) (hn : G.c b r = false) : Exa T F n { G with c := aM G.c b (ar (G.c b) r true) } (aI e b q) := by
 have Ai := hp.ok.rl
 have Af : (ag T (kL b) (q : Int)).length ≤ T.rules.length := gl
 have Ah := lm (l := ag T (kL b) (q : Int)) (P := G.c b)
 have Ag := kJ hr hn
 have Ad := iz rules_nd hr hn
 have h1 := h.op b q hq
 have Ab : (ag T (kL b) (q : Int)).isEmpty = false := by
  cases hh : ag T (kL b) (q : Int) with
  | nil => rw [hh] at hr; cases hr
  | cons _ _ => rfl
 have Aa : ∀ c (z : Nat), z < n → ¬ (c = b ∧ z = q) → lf (ag T (kL c) z) (aM G.c b (ar (G.c b) r true) c) = lf (ag T (kL c) z) (G.c c) := by
  intro c z hz Ae
  by_cases ec : c = b
  · subst ec
    rw [aG]
    refine vR fun hm => Ae ⟨rfl, ?_⟩
    obtain ⟨a, x, e1, hx, -, hh⟩ := cN.1 hm
    obtain ⟨a2, x2, e2, Ac, -, Aj⟩ := cN.1 hr
    have : a = a2 := by omega
    subst this
    rw [hx] at Ac
    cases Ac
    omega
  · rw [aT ec]
 unfold aI
 rw [Ab, Bool.or_false] at h1
 by_cases h2 : 1 < e.op b q
 · rw [if_pos h2]
   refine ⟨h.ms, h.rf, fun c z hz => ?_, h.cd, h.ob⟩
   show aM e.op b (ar (e.op b) q (dt (e.op b q))) c z = if dc T F c z || (ag T (kL c) z).isEmpty then 0 else max 1 (lf (ag T (kL c) z) (aM G.c b (ar (G.c b) r true) c))
   by_cases ec : c = b ∧ z = q
   · obtain ⟨rfl, rfl⟩ := ec
     rw [aG, aA, aG, Ab, Bool.or_false, Ad]
     cases ho : dc T F c z with
     | true => rw [ho] at h1; simp at h1; omega
     | false =>
      rw [ho] at h1
      simp only [Bool.false_eq_true, if_false] at h1 ⊢
      rw [mO (by omega) (by omega)]
      omega
   · rw [Aa c z hz ec]
     have : aM e.op b (ar (e.op b) q (dt (e.op b q))) c z = e.op c z := by
      by_cases ec2 : c = b
      · subst ec2; rw [aG, aw (by intro e3; exact ec ⟨rfl, by omega⟩)]
      · rw [aT ec2]
     rw [this]
     exact h.op c z hz
 · rw [if_neg h2]
   refine ⟨h.ms, h.rf, fun c z hz => ?_, h.cd, h.ob⟩
   show e.op c z = if dc T F c z || (ag T (kL c) z).isEmpty then 0 else max 1 (lf (ag T (kL c) z) (aM G.c b (ar (G.c b) r true) c))
   by_cases ec : c = b ∧ z = q
   · obtain ⟨rfl, rfl⟩ := ec
     rw [aG, Ab, Bool.or_false, Ad, h1]
     rw [h1] at h2
     cases ho : dc T F c z with
     | true => rfl
     | false =>
      rw [ho] at h2
      simp only [Bool.false_eq_true, if_false] at h2 ⊢
      omega
   · rw [Aa c z hz ec]
     exact h.op c z hz
theorem FP {p : Int} : (fF T p).Nodup := by
 unfold fF
 refine List.Pairwise.map _ (fun a b h => ?_) ((List.nodup_range).filter _)
 intro e
 exact h (Int.ofNat.inj e)
theorem wi {p : Int} : (fF T p).length ≤ T.rules.length := by
 unfold fF
 rw [List.length_map]
 exact Nat.le_trans (List.length_filter_le _ _) (by simp)
theorem Exa.clearF (hp : Pf T F n) (h : Exa T F n G e) {f : Int} {p : Nat} (hpn : p < n) (hf : f ∈ row T.foes p) (hfm : aE T F f = true) (hn : G.f f p = false) (ht : ag T kT p ≠ []) : Exa T F n { G with f := cY G.f f p } (cT e p) := by
 have hm : f ∈ (row T.foes p).filter (aE T F) := List.mem_filter.2 ⟨hf, hfm⟩
 have Ab : ((row T.foes (p : Int)).filter (aE T F)).Nodup := (dw (eQ hp hpn).1).filter _
 have Ag : ((row T.foes (p : Int)).filter (aE T F)).length ≤ 64 := Nat.le_trans (List.length_filter_le _ _) (eQ hp hpn).2
 have Aa := iz (P := fun u => G.f u p) Ab hm hn
 have Ac := kJ (P := fun u => G.f u p) hm hn
 have Ae := lm (l := (row T.foes (p : Int)).filter (aE T F)) (P := fun u => G.f u p)
 have Ai := iO (l := fF T p) (P := fun s => G.r s p)
 have Af := lm (l := fF T p) (P := fun s => G.r s p)
 have Ad := wi (T := T) (p := p)
 have Ah := hp.ok.rl
 refine ⟨h.ms, h.rf, h.op, h.cd, fun z hz htz => ?_⟩
 show ar e.ob p (dt (e.ob p)) z = lf _ (fun u => cY G.f f p u z) + lf _ fun s => G.r s z
 rw [ps]
 by_cases ez : z = p
 · subst ez
   rw [aA, if_pos rfl, Aa, h.ob z hz htz, mO (by omega) (by omega)]
   omega
 · rw [aw (by omega), if_neg (by omega)]
   exact h.ob z hz htz
theorem Exa.clearR (hp : Pf T F n) (h : Exa T F n G e) {s : Int} {p : Nat} (hpn : p < n) (hs : s ∈ fF T p) (hn : G.r s p = false) (ht : ag T kT p ≠ []) : Exa T F n { G with r := cY G.r s p } (cT e p) := by
 have Aa := iz (P := fun u => G.r u p) FP hs hn
 have Ab := kJ (P := fun u => G.r u p) hs hn
 have Ag : ((row T.foes (p : Int)).filter (aE T F)).length ≤ 64 := Nat.le_trans (List.length_filter_le _ _) (eQ hp hpn).2
 have Ae := lm (l := (row T.foes (p : Int)).filter (aE T F)) (P := fun u => G.f u p)
 have Ac := iO (l := (row T.foes (p : Int)).filter (aE T F)) (P := fun u => G.f u p)
 have Af := lm (l := fF T p) (P := fun s => G.r s p)
 have Ad := wi (T := T) (p := p)
 have Ah := hp.ok.rl
 refine ⟨h.ms, h.rf, h.op, h.cd, fun z hz htz => ?_⟩
 show ar e.ob p (dt (e.ob p)) z = lf _ (fun u => G.f u z) + lf _ fun u => cY G.r s p u z
 rw [ps]
 by_cases ez : z = p
 · subst ez
   rw [aA, if_pos rfl, Aa, h.ob z hz htz, mO (by omega) (by omega)]
   omega
 · rw [aw (by omega), if_neg (by omega)]
   exact h.ob z hz htz
theorem Exa.withd (hp : Pf T F n) (h : Exa T F n G e) {t : Int} {s p : Nat} (hs : s < T.rules.length) (hpr : (p : Int) ∈ ak T (ah T s)) (ht : t ∈ ag T kT p) (hb : beatB T t s = true) (hn : G.w t s = false) : Exa T F n { G with w := cY G.w t s } { e with cd := ar e.cd s (ar (e.cd s) p (dt (e.cd s p))), up := aH e.up } := by
 have hm : t ∈ (ag T kT (p : Int)).filter fun t => beatB T t s := List.mem_filter.2 ⟨ht, hb⟩
 have Ac := iz (P := fun u => G.w u s) (rules_nd.filter _) hm hn
 have Ab := kJ (P := fun u => G.w u s) hm hn
 have Af := lm (l := (ag T kT (p : Int)).filter fun t => beatB T t s) (P := fun u => G.w u s)
 have Ag : ((ag T kT (p : Int)).filter fun t => beatB T t s).length ≤ T.rules.length := Nat.le_trans (List.length_filter_le _ _) gl
 have Ah := hp.ok.rl
 refine ⟨h.ms, h.rf, h.op, fun u hu z hz => ?_, h.ob⟩
 show ar e.cd s (ar (e.cd s) p (dt (e.cd s p))) u z = lf ((ag T kT z).filter fun t => beatB T t u) fun v => cY G.w t s v u
 rw [ps]
 by_cases eu : u = s
 · subst eu
   rw [aA, if_pos rfl]
   by_cases ez : z = (p : Int)
   · subst ez
     rw [aA, Ac, h.cd u hu _ hz, mO Ab (by omega)]
   · rw [aw ez, vR, h.cd u hu z hz]
     intro Ae
     obtain ⟨a, x, e1, hx, -, hh⟩ := cN.1 (List.mem_filter.1 Ae).1
     obtain ⟨a2, x2, e2, Aa, -, Ad⟩ := cN.1 ht
     have : a = a2 := by omega
     subst this
     rw [hx] at Aa
     cases Aa
     exact ez (hh.symm.trans Ad)
 · rw [aw (by omega), if_neg (by omega)]
   exact h.cd u hu z hz
def tp (b : Bool) : Int := if b then 3 else 1
def tn (b : Bool) : Int := if b then 4 else 2
def ke (n : Nat) (f : Int → Int) : List Int := (List.range n).map fun q : Nat => f q
abbrev Mq (n : Nat) (e : Es) : List Int := ke n e.mq
theorem sW {n : Nat} {f : Int → Int} {q t : Int} (h0 : 0 ≤ q) (h1 : q < (n : Int)) : hs (ke n f) q t = hb (f q) t := by
 obtain ⟨a, rfl⟩ := Int.eq_ofNat_of_zero_le h0
 unfold hs ke
 rw [List.getD_eq_getElem?_getD, List.getElem?_map, Int.toNat_natCast, List.getElem?_range (by omega)]
 rfl
def dX (l : List (Int × Int)) : Int → Int := l.foldl (fun f x => ar f x.1 (cC (f x.1) x.2)) fun _ => 0
structure qC (T : Th) (F : List Int) (n : Nat) (e : Es) : Prop where
 mq : e.mq = dX e.td
 ok : ∀ (i : Nat) x, e.td[i]? = some x → bf T F (ke n (dX (e.td.take i))) x.2 x.1 = true
theorem eH {T : Th} {F : List Int} {n : Nat} {e e' : Es} (h : qC T F n e) (h1 : e'.mq = e.mq) (h2 : e'.td = e.td) : qC T F n e' := ⟨by rw [h1, h2]; exact h.mq, by rw [h2]; exact h.ok⟩
theorem vF {T : Th} {F : List Int} {n : Nat} : qC T F n (aZ T F) := ⟨rfl, fun i x hx => by
 have hx : ([] : List (Int × Int))[i]? = some x := hx
 simp at hx⟩
theorem wJ {T : Th} {F : List Int} {n : Nat} {e : Es} (h : qC T F n e) {q t : Int} (hc : bf T F (Mq n e) t q = true) : qC T F n (tell e q t) := by
 unfold Fa.tell
 split
 · exact h
 · refine ⟨?_, fun i x hx => ?_⟩
   · show ar e.mq q (cC (e.mq q) t) = dX (e.td ++ [(q, t)])
     unfold dX
     rw [List.foldl_append]
     show ar e.mq q (cC (e.mq q) t) = ar (dX e.td) q (cC (dX e.td q) t)
     rw [h.mq]
   · have hx : (e.td ++ [(q, t)])[i]? = some x := hx
     show bf T F (ke n (dX ((e.td ++ [(q, t)]).take i))) x.2 x.1 = true
     by_cases hi : i < e.td.length
     · rw [List.getElem?_append_left hi] at hx
       rw [List.take_append_of_le_length (by omega)]
       exact h.ok i x hx
     · have hl := (List.getElem?_eq_some_iff.1 hx).1
       rw [List.length_append, List.length_singleton] at hl
       have : i = e.td.length := by omega
       subst this
       rw [List.getElem?_append_right (Nat.le_refl _), Nat.sub_self] at hx
       have hx : (q, t) = x := by simpa using hx
       subst hx
       rw [List.take_append_of_le_length (Nat.le_refl _), List.take_length, ← h.mq]
       exact hc
structure Snd (T : Th) (n : Nat) (m : Prop) (G : dm) (e : Es) : Prop where
 a : ∀ b (r : Nat) x, G.a b r x = true → has e x (tp b) = true
 nn : ∀ b (r : Nat) x, G.n b r x = true → has e x (tn b) = true
 c : ∀ b (r : Nat), G.c b r = true → e.rf b r = true
 f : ∀ f p, G.f f p = true → has e f 2 = true
 r : ∀ (s : Nat) p, G.r s p = true → e.rf true s = true ∨ e.cb s p = true
 w : ∀ (t : Nat) s, G.w t s = true → e.rf true t = true
 cb : ∀ (s : Nat) p, e.cb s p = true → ∃ t : Nat, (t : Int) ∈ ag T kT p ∧ beatB T t s = true ∧ ∀ x ∈ ax T t, G.a true t x = true
theorem Snd.start {m : Prop} : Snd T n m tj (aZ T F) := ⟨fun b r x h => (by cases h), fun b r x h => (by cases h), fun b r h => (by cases h), fun f p h => (by cases h), fun s p h => (by cases h), fun t s h => (by cases h), fun s p h => (by cases h)⟩
theorem Snd.mm {m : Prop} (_ : Snd T n m G e) (q t : Int) (h0 : 0 ≤ q) (h1 : q < (n : Int)) (_ : aq t) (hz : has e q t = true) : hs (Mq n e) q t = true := by
 rw [sW h0 h1]
 exact hz
section
variable {m : Prop}
theorem ij (hp : Pf T F n) {r : Nat} (hr : r < T.rules.length) {x : Int} (hx : x ∈ ax T r) : 0 ≤ x ∧ x < (n : Int) := by
 obtain ⟨y, hy⟩ := an hr
 obtain ⟨-, -, e⟩ := ed (p := kA) hy
 rw [e] at hx
 exact hp.body y (List.mem_of_getElem? hy) x hx
theorem Snd.whole (hp : Pf T F n) (h : Snd T n m G e) {b : Bool} {r : Nat} (hr : r < T.rules.length) (ha : ∀ x ∈ ax T r, G.a b r x = true) : wholeB T (Mq n e) r (tp b) = true := by
 unfold wholeB
 rw [List.all_eq_true]
 intro x hx
 obtain ⟨x0, x1⟩ := ij hp hr hx
 exact h.mm x (tp b) x0 x1 (by cases b; exact tag1; exact tag3) (h.a b r x (ha x hx))
theorem iq {r : Nat} (hr : r < T.rules.length) : aF T (kW true) r = true := by
 obtain ⟨y, hy⟩ := an hr
 exact (ed (p := kA) hy).1
theorem Exa.used (h : Exa T F n G e) {r : Nat} (hr : r < T.rules.length) : used e r = true ↔ ∀ x ∈ ax T r, G.a true r x = true := by
 unfold Fa.used
 rw [decide_eq_true_iff, h.ms true r hr (iq hr), dK]
theorem Snd.part (hp : Pf T F n) (hx : Exa T F n G e) (h : Snd T n m G e) {b : Bool} {r : Nat} (hr : r < T.rules.length) (hf : e.rf b r = true) : partB T (Mq n e) r (tn b) = true := by
 rw [hx.rf b r hr] at hf
 obtain ⟨x, Aa, hg⟩ := List.any_eq_true.1 hf
 unfold partB
 rw [List.any_eq_true]
 obtain ⟨x0, x1⟩ := ij hp hr Aa
 exact ⟨x, Aa, h.mm x (tn b) x0 x1 (by cases b; exact tag2; exact tag4) (h.nn b r x hg)⟩
theorem Snd.atk (hp : Pf T F n) (hx : Exa T F n G e) (h : Snd T n m G e) {s : Nat} {p : Int} (hs : s < T.rules.length) (hr : G.r s p = true) : io T (Mq n e) p s = true := by
 unfold io
 rcases h.r s p hr with hf | hc
 · have := h.part hp hx hs hf
   rw [show tn true = 4 from rfl] at this
   rw [this]
   rfl
 · obtain ⟨t, ht, hb, ha⟩ := h.cb s p hc
   have Aa : t < T.rules.length := by obtain ⟨a, x, e1, hx, -⟩ := cN.1 ht; have := (List.getElem?_eq_some_iff.1 hx).1; omega
   have hw := h.whole hp Aa ha
   rw [Bool.or_eq_true]
   refine .inr (List.any_eq_true.2 ⟨t, ht, ?_⟩)
   rw [hb, show (3 : Int) = tp true from rfl, hw]
   rfl
end
end
section
variable {T : Th} {F : List Int} {n k : Nat} {m : Prop} {G : dm} {e : Es}
theorem bP {p : RuleM → Bool} {z r : Int} (h : r ∈ ag T p z) : ∃ a : Nat, r = (a : Int) ∧ a < T.rules.length ∧ ah T a = z ∧ aF T p a = true := by
 obtain ⟨a, x, e1, hx, hk, hh⟩ := cN.1 h
 obtain ⟨k1, k2, -⟩ := ed (p := p) hx
 exact ⟨a, e1, (List.getElem?_eq_some_iff.1 hx).1, by rw [k2]; exact hh, by rw [k1]; exact hk⟩
theorem lI (hby : ∀ q, aU (e.mq q)) {q t : Int} (ht : aq t) {z u : Int} (hu : aq u) (hz : has e z u = true) : has (tell e q t) z u = true := by
 unfold Fa.tell
 split
 · exact hz
 · show hb (ar e.mq q (cC (e.mq q) t) z) u = true
   by_cases ez : z = q
   · subst ez
     have hz : hb (e.mq z) u = true := hz
     rw [aA, (dg (hby z) ht hu).1, hz]
     rfl
   · rw [aw ez]; exact hz
theorem uJ {q t : Int} : (tell e q t).rf = e.rf ∧ (tell e q t).cb = e.cb := by unfold Fa.tell; split <;> exact ⟨rfl, rfl⟩
theorem Snd.tell (h : Snd T n m G e) (hby : ∀ q, aU (e.mq q)) {q t : Int} (ht : aq t) : Snd T n m G (tell e q t) := by
 have Ab : ∀ b, aq (tp b) := fun b => by cases b; exact tag1; exact tag3
 have Aa : ∀ b, aq (tn b) := fun b => by cases b; exact tag2; exact tag4
 obtain ⟨hr, hc⟩ := uJ (e := e) (q := q) (t := t)
 refine ⟨fun b r x hx => lI hby ht (Ab b) (h.a b r x hx), fun b r x hx => lI hby ht (Aa b) (h.nn b r x hx), fun b r hx => by rw [hr]; exact h.c b r hx, fun f p hf => lI hby ht tag2 (h.f f p hf), fun s p hx => by rw [hr, hc]; exact h.r s p hx, fun t s hx => by rw [hr]; exact h.w t s hx, fun s p hx => ?_⟩
 rw [hc] at hx
 exact h.cb s p hx
theorem Gg (hp : Pf T F n) (_ : m) (hx : Exa T F n G e) (h : Snd T n m G e) {r : Nat} (hr : r < T.rules.length) (hk : aF T kS r = true) (h0 : e.ms false r = 0) : bf T F (Mq n e) 1 (ah T r) = true := by
 obtain ⟨x, Aa, hh, -, -⟩ := dp hp hr
 rw [hx.ms false r hr hk, dK] at h0
 refine cond1.trans (gA.2 (.inr ⟨r, ?_, h.whole hp (b := false) hr h0⟩))
 exact cN.2 ⟨r, x, rfl, Aa, by rw [← (ed (p := kS) Aa).1]; exact hk, hh.symm⟩
theorem F6 (hp : Pf T F n) (_ : m) (hx : Exa T F n G e) (h : Snd T n m G e) {q : Nat} (_ : q < n) (hF : (q : Int) ∉ F) (hc : ∀ r ∈ ag T kS q, e.rf false r = true) : bf T F (Mq n e) 2 q = true := by
 refine cond2.trans (gC.2 ⟨hF, fun r hr => ?_⟩)
 obtain ⟨a, rfl, ha, -, -⟩ := bP hr
 exact h.part hp hx (b := false) ha (hc a hr)
theorem Fc (hp : Pf T F n) (hs_ : m) (hnf : m → ∀ q : Nat, q < n → aE T F q = false → has e q 2 = true) (hx : Exa T F n G e) (h : Snd T n m G e) {q : Nat} (hq : q < n) (ho : e.ob q = 0) (hu : (ag T kT q).any (used e) = true) : bf T F (Mq n e) 3 q = true := by
 obtain ⟨r, hr, Aa⟩ := List.any_eq_true.1 hu
 obtain ⟨a, rfl, ha, -, -⟩ := bP hr
 have ht : ag T kT (q : Int) ≠ [] := fun e => by rw [e] at hr; cases hr
 rw [hx.ob q hq ht] at ho
 have n1 := iO (l := (row T.foes (q : Int)).filter (aE T F)) (P := fun f => G.f f q)
 have n2 := iO (l := fF T q) (P := fun s => G.r s q)
 have z1 := dK.1 (show lf ((row T.foes (q : Int)).filter (aE T F)) (fun f => G.f f q) = 0 by omega)
 have z2 := dK.1 (show lf (fF T q) (fun s => G.r s q) = 0 by omega)
 refine cond3.trans (fE.2 (.inr ⟨⟨a, hr, h.whole hp (b := true) ha ((hx.used ha).1 Aa)⟩, fun f hf => ?_, fun f hf s hsf => ?_⟩))
 · obtain ⟨f0, f1⟩ := hp.foe q hq f hf
   cases hfm : aE T F f with
   | true => exact h.mm f 2 f0 f1 tag2 (h.f f q (z1 f (List.mem_filter.2 ⟨hf, hfm⟩)))
   | false =>
    obtain ⟨z, rfl⟩ := Int.eq_ofNat_of_zero_le f0
    exact h.mm z 2 f0 f1 tag2 (hnf hs_ z (by omega) hfm)
 · obtain ⟨b, rfl, hb, Ab, -⟩ := bP hsf
   refine h.atk hp hx hb (z2 b ?_)
   unfold fF
   refine List.mem_map.2 ⟨b, List.mem_filter.2 ⟨List.mem_range.2 hb, ?_⟩, rfl⟩
   rw [Ab]
   exact decide_eq_true hf
theorem rL (_ : Pf T F n) (_ : m) {q : Nat} (_ : q < n) (h2 : hs (Mq n e) q 2 = true) (hc : (∀ r ∈ ag T kT q, partB T (Mq n e) r 4 = true) ∨ (∃ f ∈ row T.foes q, hs (Mq n e) f 1 = true) ∨ ∃ f ∈ row T.foes q, ∃ s ∈ ag T kA f, g7 T (Mq n e) q s = true) : bf T F (Mq n e) 4 q = true :=
 cond4.trans (jc.2 ⟨h2, hc⟩)
theorem zu (hp : Pf T F n) (hx : Exa T F n G e) (h : Snd T n m G e) {s : Nat} {p : Int} (hs_ : s < T.rules.length) (hpr : p ∈ ak T (ah T s)) (hu : used e s = true) (hc : e.cd s p = 0) : g7 T (Mq n e) p s = true := by
 refine lJ.2 ⟨h.whole hp (b := true) hs_ ((hx.used hs_).1 hu), fun t ht => ?_⟩
 rw [hx.cd s hs_ p hpr, dK] at hc
 cases hb : beatB T t s with
 | false => exact .inr rfl
 | true =>
  obtain ⟨a, rfl, ha, -, -⟩ := bP ht
  exact .inl (h.part hp hx (b := true) ha (h.w a s (hc a (List.mem_filter.2 ⟨ht, hb⟩))))
end
structure Iv (T : Th) (F : List Int) (n : Nat) (m : Prop) (G : dm) (e : Es) : Prop where
 x : Exa T F n G e
 s : Snd T n m G e
 y : ∀ q, aU (e.mq q)
 o : qC T F n e
 nf : m → ∀ q : Nat, q < n → aE T F q = false → has e q 2 = true
section
variable {T : Th} {F : List Int} {n k : Nat} {m : Prop} {G : dm} {e : Es}
theorem Iv.start : Iv T F n False tj (aZ T F) := ⟨Exa.start, Snd.start, fun _ => (show aU 0 by unfold aU; omega), vF, fun h => h.elim⟩
theorem zK (h : ∀ q, aU (e.mq q)) {q t : Int} (ht : aq t) : ∀ z, aU ((tell e q t).mq z) := by
 intro z
 unfold Fa.tell
 split
 · exact h z
 · show aU (ar e.mq q (cC (e.mq q) t) z)
   by_cases ez : z = q
   · subst ez; rw [aA]; exact (dg (h z) ht ht).2.1
   · rw [aw ez]; exact h z
theorem Iv.tell (h : Iv T F n m G e) {q t : Int} (ht : aq t) (hm : bf T F (Mq n e) t q = true) : Iv T F n m G (tell e q t) := ⟨h.x.tell, h.s.tell h.y ht, zK h.y ht, wJ h.o hm, fun a z hz hf => lI h.y ht tag2 (h.nf a z hz hf)⟩
theorem Iv.lose (h : Iv T F n m G e) {q : Int} (hm : has e q 2 = true → bf T F (Mq n e) 4 q = true) : Iv T F n m G (aN e q) := by
 unfold aN
 split
 · rename_i h2; exact h.tell tag4 (hm h2)
 · exact h
theorem Iv.met (hp : Pf T F n) (h : Iv T F n m G e) {b : Bool} {r : Nat} {q : Int} (hr : r < T.rules.length) (hk : aF T (kW b) r = true) (hq : q ∈ ax T r) (hn : G.a b r q = false) (hh : has e q (tp b) = true) : Iv T F n m { G with a := aM G.a b (cY (G.a b) r q) } (bO e b r) := by
 have le : ∀ c (s : Nat) x, G.a c s x = true → aM G.a b (cY (G.a b) r q) c s x = true := fun c s x hx => by
  by_cases ec : c = b
  · subst ec; rw [aG]; exact kr hx
  · rw [aT ec]; exact hx
 refine ⟨h.x.met hp hr hk hq hn, ⟨fun c s x hx => ?_, h.s.nn, h.s.c, h.s.f, h.s.r, h.s.w, fun s p hc => ?_⟩, h.y, eH h.o rfl rfl, h.nf⟩
 · have hx : aM G.a b (cY (G.a b) r q) c s x = true := hx
   show has e x (tp c) = true
   by_cases ec : c = b
   · subst ec
     rw [aG] at hx
     rcases cq.1 hx with h1 | ⟨-, rfl⟩
     · exact h.s.a c s x h1
     · exact hh
   · rw [aT ec] at hx
     exact h.s.a c s x hx
 · obtain ⟨t, h1, h2, h3⟩ := h.s.cb s p hc
   exact ⟨t, h1, h2, fun x hx => le true t x (h3 x hx)⟩
theorem pY {b c : Bool} {r : Int} {s : Int} (h : e.rf c s = true) : (refE e b r).rf c s = true := by
 unfold refE
 split
 · exact h
 · show aM e.rf b (ar (e.rf b) r true) c s = true
   by_cases ec : c = b
   · subst ec
     rw [aG]
     by_cases es : s = r
     · subst es; rw [aA]
     · rw [aw es]; exact h
   · rw [aT ec]; exact h
theorem ul {b : Bool} {r : Int} : (refE e b r).rf b r = true := by
 unfold refE
 split
 · rename_i h; exact h
 · show aM e.rf b (ar (e.rf b) r true) b r = true
   rw [aG, aA]
theorem kI {b : Bool} {r : Int} {q t : Int} : has (refE e b r) q t = has e q t := by unfold refE; split <;> rfl
theorem vt {b : Bool} {r : Int} : (refE e b r).cb = e.cb := by unfold refE; split <;> rfl
theorem Iv.ref (h : Iv T F n m G e) {b : Bool} {r : Nat} {q : Int} (hr : r < T.rules.length) (hq : q ∈ ax T r) (hh : has e q (tn b) = true) : Iv T F n m { G with n := aM G.n b (cY (G.n b) r q) } (refE e b r) := by
 refine ⟨h.x.ref hr hq, ⟨fun c s x hx => by rw [kI]; exact h.s.a c s x hx, fun c s x hx => ?_, fun c s hc => pY (h.s.c c s hc), fun f p hf => by rw [kI]; exact h.s.f f p hf, fun s p hg => ?_, fun t s hg => pY (h.s.w t s hg), fun s p hc => h.s.cb s p (by rw [vt] at hc; exact hc)⟩, fun z => by unfold refE; split; exact h.y z; exact h.y z, eH h.o (by unfold refE; split <;> rfl) (by unfold refE; split <;> rfl), fun a z hz hf => by rw [kI]; exact h.nf a z hz hf⟩
 · rw [kI]
   have hx : aM G.n b (cY (G.n b) r q) c s x = true := hx
   by_cases ec : c = b
   · subst ec
     rw [aG] at hx
     rcases cq.1 hx with h1 | ⟨-, rfl⟩
     · exact h.s.nn c s x h1
     · exact hh
   · rw [aT ec] at hx
     exact h.s.nn c s x hx
 · rcases h.s.r s p hg with h1 | h1
   · exact .inl (pY h1)
   · exact .inr (by rw [vt]; exact h1)
theorem Iv.cls (hp : Pf T F n) (h : Iv T F n m G e) {b : Bool} {r q : Nat} (hq : q < n) (hr : (r : Int) ∈ ag T (kL b) q) (hn : G.c b r = false) (hf : e.rf b r = true) : Iv T F n m { G with c := aM G.c b (ar (G.c b) r true) } (aI e b q) := by
 have he : (aI e b q).rf = e.rf ∧ (aI e b q).cb = e.cb ∧ (aI e b q).mq = e.mq := by unfold aI; split <;> exact ⟨rfl, rfl, rfl⟩
 have Aa : ∀ z t, has (aI e b q) z t = has e z t := fun z t => by unfold has; rw [he.2.2]
 refine ⟨h.x.cls hp hq hr hn, ⟨fun c s x hx => by rw [Aa]; exact h.s.a c s x hx, fun c s x hx => by rw [Aa]; exact h.s.nn c s x hx, fun c s hc => ?_, fun f p hf => by rw [Aa]; exact h.s.f f p hf, fun s p hg => by rw [he.1, he.2.1]; exact h.s.r s p hg, fun t s hg => by rw [he.1]; exact h.s.w t s hg, fun s p hc => h.s.cb s p (by rw [he.2.1] at hc; exact hc)⟩, fun z => by rw [he.2.2]; exact h.y z, eH h.o he.2.2 (by unfold aI; split <;> rfl), fun a z hz hf => by rw [Aa]; exact h.nf a z hz hf⟩
 rw [he.1]
 have hc : aM G.c b (ar (G.c b) r true) c s = true := hc
 by_cases ec : c = b
 · subst ec
   rw [aG] at hc
   by_cases es : (s : Int) = r
   · rw [es]; exact hf
   · rw [aw es] at hc; exact h.s.c c s hc
 · rw [aT ec] at hc
   exact h.s.c c s hc
theorem Iv.clearF (hp : Pf T F n) (h : Iv T F n m G e) {f : Int} {p : Nat} (hpn : p < n) (hf : f ∈ row T.foes p) (hfm : aE T F f = true) (hn : G.f f p = false) (ht : ag T kT p ≠ []) (hh : has e f 2 = true) : Iv T F n m { G with f := cY G.f f p } (cT e p) :=
 ⟨h.x.clearF hp hpn hf hfm hn ht, ⟨h.s.a, h.s.nn, h.s.c, fun g z hg => by
  rcases cq.1 hg with h1 | ⟨rfl, -⟩
  · exact h.s.f g z h1
  · exact hh, h.s.r, h.s.w, h.s.cb⟩, h.y, eH h.o rfl rfl, h.nf⟩
theorem Iv.clearR (hp : Pf T F n) (h : Iv T F n m G e) {s p : Nat} (hpn : p < n) (hs_ : (s : Int) ∈ fF T p) (hn : G.r s p = false) (ht : ag T kT p ≠ []) (hh : e.rf true s = true ∨ e.cb s p = true) : Iv T F n m { G with r := cY G.r s p } (cT e p) :=
 ⟨h.x.clearR hp hpn hs_ hn ht, ⟨h.s.a, h.s.nn, h.s.c, h.s.f, fun g z hg => by
  rcases cq.1 hg with h1 | ⟨h1, h2⟩
  · exact h.s.r g z h1
  · rw [h1, h2]; exact hh, h.s.w, h.s.cb⟩, h.y, eH h.o rfl rfl, h.nf⟩
theorem Iv.withd (hp : Pf T F n) (h : Iv T F n m G e) {t s p : Nat} (hs_ : s < T.rules.length) (hpr : (p : Int) ∈ ak T (ah T s)) (ht : (t : Int) ∈ ag T kT p) (hb : beatB T t s = true) (hn : G.w t s = false) (hf : e.rf true t = true) : Iv T F n m { G with w := cY G.w t s } { e with cd := ar e.cd s (ar (e.cd s) p (dt (e.cd s p))), up := aH e.up } :=
 ⟨h.x.withd hp hs_ hpr ht hb hn, ⟨h.s.a, h.s.nn, h.s.c, h.s.f, h.s.r, fun g z hg => by
  rcases cq.1 hg with h1 | ⟨h1, -⟩
  · exact h.s.w g z h1
  · show e.rf true g = true
    rw [h1]; exact hf, h.s.cb⟩, h.y, eH h.o rfl rfl, h.nf⟩
theorem Iv.beat (h : Iv T F n m G e) {t s : Nat} {p : Int} (ht : (t : Int) ∈ ag T kT p) (hb : beatB T t s = true) (ha : ∀ x ∈ ax T t, G.a true t x = true) : Iv T F n m G { e with cb := ar e.cb s (ar (e.cb s) p true), up := aH e.up } := by
 have key : ∀ (u : Nat) (z : Int), ar e.cb s (ar (e.cb s) p true) u z = true ↔ e.cb u z = true ∨ ((u : Int) = s ∧ z = p) := fun u z => cq (g := e.cb) (x := s) (y := p)
 refine ⟨h.x.same rfl rfl rfl rfl rfl, ⟨h.s.a, h.s.nn, h.s.c, h.s.f, fun u z hg => ?_, h.s.w, fun u z hc => ?_⟩, h.y, eH h.o rfl rfl, h.nf⟩
 · rcases h.s.r u z hg with h1 | h1
   · exact .inl h1
   · exact .inr ((key u z).2 (.inl h1))
 · rcases (key u z).1 hc with h1 | ⟨h1, h2⟩
   · exact h.s.cb u z h1
   · rw [h1, h2]
     exact ⟨t, ht, hb, ha⟩
end
section
variable {T : Th} {F : List Int} {n k : Nat} {m : Prop} {G G' : dm} {e e' : Es}
theorem lQ (hp : Pf T F n) {r : Nat} (hr : r < T.rules.length) {s : Int} (hs_ : s ∈ row T.beats r) : ∃ a : Nat, s = (a : Int) ∧ a < T.rules.length ∧ ah T a ∈ row T.foes (ah T r) := by
 have Ad := hp.ok.bl
 obtain ⟨l, hl⟩ := an (l := T.beats) (i := r) (by omega)
 rw [bE (l := l) (by rw [Int.toNat_natCast]; exact hl)] at hs_
 obtain ⟨Ab, Aa⟩ := hp.ok.beat r l hl
 obtain ⟨Ac, -⟩ := bW (by omega) Ab
 obtain ⟨s0, s1⟩ := Ac s hs_
 obtain ⟨a, rfl⟩ := Int.eq_ofNat_of_zero_le (show 0 ≤ s by omega)
 exact ⟨a, rfl, by omega, Aa _ hs_⟩
theorem vh {p : Int} {a : Nat} (ha : a < T.rules.length) (h : ah T a ∈ row T.foes p) : (a : Int) ∈ fF T p := by
 unfold fF
 exact List.mem_map.2 ⟨a, List.mem_filter.2 ⟨List.mem_range.2 ha, decide_eq_true h⟩, rfl⟩
theorem fK (hp : Pf T F n) {r : Nat} (hr : r < T.rules.length) : ∃ h : Nat, ah T r = (h : Int) ∧ h < n := by
 obtain ⟨x, -, e1, x0, x1⟩ := dp hp hr
 obtain ⟨h, hh⟩ := Int.eq_ofNat_of_zero_le x0
 exact ⟨h, by rw [e1, hh], by omega⟩
structure Alk (e e' : Es) : Prop where
 ms : e'.ms = e.ms
 rf : e'.rf = e.rf
 op : e'.op = e.op
 cd : e'.cd = e.cd
 mq : e'.mq = e.mq
 td : e'.td = e.td
 tk : e'.tk = e.tk
theorem Alk.refl : Alk e e := ⟨rfl, rfl, rfl, rfl, rfl, rfl, rfl⟩
theorem Alk.trans {e2 : Es} (h : Alk e e') (h2 : Alk e' e2) : Alk e e2 := ⟨h2.ms.trans h.ms, h2.rf.trans h.rf, h2.op.trans h.op, h2.cd.trans h.cd, h2.mq.trans h.mq, h2.td.trans h.td, h2.tk.trans h.tk⟩
structure Agh (G G' : dm) : Prop where
 a : G'.a = G.a
 n : G'.n = G.n
 c : G'.c = G.c
 f : G'.f = G.f
 w : G'.w = G.w
theorem Agh.refl : Agh G G := ⟨rfl, rfl, rfl, rfl, rfl⟩
theorem Agh.trans {G2 : dm} (h : Agh G G') (h2 : Agh G' G2) : Agh G G2 := ⟨h2.a.trans h.a, h2.n.trans h.n, h2.c.trans h.c, h2.f.trans h.f, h2.w.trans h.w⟩
def mz (T : Th) (G : dm) (e : Es) : Prop := ∀ s : Nat, s < T.rules.length → ∀ p ∈ ak T (ah T s), e.rf true s = true ∨ e.cb s p = true → G.r s p = true
theorem Iv.beat1 (hp : Pf T F n) (h : Iv T F n m G e) {r s q : Nat} (hq : q < n) (hs_ : s < T.rules.length) (hr : (r : Int) ∈ ag T kT q) (hf : ah T s ∈ row T.foes q) (hb : beatB T r s = true) (ha : ∀ x ∈ ax T r, G.a true r x = true) : ∃ G', Iv T F n m G' (beat1 q e s) ∧ Agh G G' ∧ Alk e (beat1 q e s) ∧ (beat1 q e s).cb s q = true ∧ (∀ u z, e.cb u z = true → (beat1 q e s).cb u z = true) ∧ (mz T G e → mz T G' (beat1 q e s)) := by
 have ht : ag T kT (q : Int) ≠ [] := fun e0 => by rw [e0] at hr; cases hr
 have mono : ∀ u z, e.cb u z = true → ar e.cb s (ar (e.cb s) q true) u z = true := fun u z hz => kr (g := e.cb) hz
 have Aa : ar e.cb s (ar (e.cb s) q true) s q = true := by rw [aA, aA]
 unfold Fa.beat1
 by_cases hc : e.cb s q = true
 · rw [if_pos hc]
   exact ⟨G, h, Agh.refl, Alk.refl, hc, fun u z hz => hz, fun hg => hg⟩
 · rw [if_neg hc]
   have h1 := h.beat hr hb ha
   by_cases hd : e.rf true s = true
   · rw [if_pos (show dropped { e with cb := ar e.cb s (ar (e.cb s) q true), up := aH e.up } s = true from hd)]
     refine ⟨G, h1, Agh.refl, ⟨rfl, rfl, rfl, rfl, rfl, rfl, rfl⟩, Aa, mono, fun hg u hu z hz ho => ?_⟩
     rcases ho with ho | ho
     · exact hg u hu z hz (.inl ho)
     · rcases (cq (g := e.cb) (x := s) (y := q)).1 ho with h2 | ⟨h2, -⟩
       · exact hg u hu z hz (.inr h2)
       · exact hg u hu z hz (.inl (by rw [h2]; exact hd))
   · rw [if_neg (show ¬ dropped { e with cb := ar e.cb s (ar (e.cb s) q true), up := aH e.up } s = true from hd)]
     have hn : G.r s q = false := by
      cases hg : G.r s q with
      | false => rfl
      | true =>
       rcases h.s.r s q hg with h2 | h2
       · exact absurd h2 hd
       · exact absurd h2 hc
     refine ⟨_, h1.clearR hp hq (vh hs_ hf) hn ht (.inr Aa), ⟨rfl, rfl, rfl, rfl, rfl⟩, ⟨rfl, rfl, rfl, rfl, rfl, rfl, rfl⟩, Aa, mono, fun hg u hu z hz ho => ?_⟩
     show cY G.r s q u z = true
     rcases ho with ho | ho
     · exact kr (hg u hu z hz (.inl ho))
     · rcases (cq (g := e.cb) (x := s) (y := q)).1 ho with h2 | h2
       · exact kr (hg u hu z hz (.inr h2))
       · exact cq.2 (.inr h2)
theorem Iv.beats (hp : Pf T F n) {r q : Nat} (hq : q < n) (hr : (r : Int) ∈ ag T kT q) : ∀ (l : List Int) {G : dm} {e : Es}, Iv T F n m G e → (∀ x ∈ ax T r, G.a true r x = true) → (∀ s ∈ l, ∃ a : Nat, s = (a : Int) ∧ a < T.rules.length ∧ ah T a ∈ row T.foes q ∧ beatB T r a = true) →
    ∃ G', Iv T F n m G' (l.foldl (Fa.beat1 q) e) ∧ Agh G G' ∧ Alk e (l.foldl (Fa.beat1 q) e) ∧ (∀ s ∈ l, (l.foldl (Fa.beat1 q) e).cb s q = true) ∧ (∀ u z, e.cb u z = true → (l.foldl (Fa.beat1 q) e).cb u z = true) ∧ (mz T G e → mz T G' (l.foldl (Fa.beat1 q) e)) := by
 intro l
 induction l with
 | nil => intro G e h _ _; exact ⟨G, h, Agh.refl, Alk.refl, fun s hs => (by cases hs), fun u z hz => hz, fun hg => hg⟩
 | cons s l ih =>
  intro G e h ha hl
  obtain ⟨a, rfl, Aa, hf, hb⟩ := hl s List.mem_cons_self
  obtain ⟨G1, h1, g1, k1, c1, m1, r1⟩ := h.beat1 hp hq Aa hr hf hb ha
  obtain ⟨G2, h2, g2, k2, c2, m2, r2⟩ := ih h1 (by rw [g1.a]; exact ha) fun s hs => hl s (List.mem_cons_of_mem _ hs)
  refine ⟨G2, h2, g1.trans g2, k1.trans k2, fun s hs => ?_, fun u z hz => m2 u z (m1 u z hz), fun hg => r2 (r1 hg)⟩
  rcases List.mem_cons.1 hs with rfl | hs
  · exact m2 _ _ c1
  · exact c2 s hs
theorem Iv.defend (hp : Pf T F n) (h : Iv T F n m G e) {r : Nat} (hr : r < T.rules.length) (ht : aW T r = true) (ha : ∀ x ∈ ax T r, G.a true r x = true) : ∃ G', Iv T F n m G' (defendE T e r) ∧ Agh G G' ∧ Alk e (defendE T e r) ∧ (∀ s ∈ row T.beats r, (defendE T e r).cb s (ah T r) = true) ∧ (∀ u z, e.cb u z = true → (defendE T e r).cb u z = true) ∧ (mz T G e → mz T G' (defendE T e r)) := by
 obtain ⟨q, hq, Aa⟩ := fK hp hr
 unfold defendE
 rw [hq]
 refine h.beats hp Aa ?_ _ ha fun s hs => ?_
 · rw [← hq]; exact kU ht
 · obtain ⟨a, rfl, ha, hf⟩ := lQ hp hr hs
   exact ⟨a, rfl, ha, by rw [← hq]; exact hf, decide_eq_true hs⟩
end
section
variable {T : Th} {F : List Int} {n k : Nat} {m : Prop} {G G' : dm} {e e' : Es}
structure Tel (e e' : Es) : Prop where
 ms : e'.ms = e.ms
 rf : e'.rf = e.rf
 cb : e'.cb = e.cb
 tk : e'.tk = e.tk
 up : ∀ z t, aq t → has e z t = true → has e' z t = true
 td : ∃ l, e'.td = e.td ++ l
theorem Tel.refl : Tel e e := ⟨rfl, rfl, rfl, rfl, fun _ _ _ h => h, [], by simp⟩
theorem Tel.trans {e2 : Es} (h : Tel e e') (h2 : Tel e' e2) : Tel e e2 := by
 obtain ⟨l, hl⟩ := h.td
 obtain ⟨l2, Aa⟩ := h2.td
 exact ⟨h2.ms.trans h.ms, h2.rf.trans h.rf, h2.cb.trans h.cb, h2.tk.trans h.tk, fun z t ht hz => h2.up z t ht (h.up z t ht hz), l ++ l2, by rw [Aa, hl, List.append_assoc]⟩
theorem il (hby : ∀ q, aU (e.mq q)) {q t : Int} (ht : aq t) : Tel e (tell e q t) := by
 unfold Fa.tell
 split
 · exact Tel.refl
 · refine ⟨rfl, rfl, rfl, rfl, fun z u hu hz => ?_, [(q, t)], rfl⟩
   show hb (ar e.mq q (cC (e.mq q) t) z) u = true
   by_cases ez : z = q
   · subst ez
     have hz : hb (e.mq z) u = true := hz
     rw [aA, (dg (hby z) ht hu).1, hz]
     rfl
   · rw [aw ez]; exact hz
theorem fN (hby : ∀ q, aU (e.mq q)) {q t : Int} (ht : aq t) : has (tell e q t) q t = true := by
 unfold Fa.tell
 split
 · rename_i h; exact h
 · show hb (ar e.mq q (cC (e.mq q) t) q) t = true
   rw [aA, (dg (hby q) ht ht).1]
   simp
theorem jz (hby : ∀ q, aU (e.mq q)) {q : Int} : Tel e (aN e q) := by
 unfold aN
 split
 · exact il hby tag4
 · exact Tel.refl
theorem jK (hby : ∀ q, aU (e.mq q)) {q : Int} (h : has e q 2 = true) : has (aN e q) q 4 = true := by
 unfold aN
 rw [if_pos h]
 exact fN hby tag4
theorem Iv.over (hp : Pf T F n) (hs_ : m) (h : Iv T F n m G e) {s q : Nat} (hq : q < n) (hsR : s < T.rules.length) (hpr : (q : Int) ∈ ak T (ah T s)) (hu : used e s = true) (hc : e.cd s q = 0) (h2 : has e q 2 = true) : bf T F (Mq n e) 4 q = true := by
 obtain ⟨x, hx, hh, x0, x1⟩ := dp hp hsR
 refine rL hp hs_ hq (h.s.mm q 2 (by omega) (by omega) tag2 h2) (.inr (.inr ⟨ah T s, ?_, s, cN.2 ⟨s, x, rfl, hx, rfl, hh.symm⟩, zu hp h.x h.s hsR hpr hu hc⟩))
 exact cU hp (by rw [hh]; exact x0) (by rw [hh]; exact x1) (cW.1 hpr).1
structure Agw (G G' : dm) : Prop where
 a : G'.a = G.a
 n : G'.n = G.n
 c : G'.c = G.c
 f : G'.f = G.f
 r : G'.r = G.r
theorem Agw.refl : Agw G G := ⟨rfl, rfl, rfl, rfl, rfl⟩
theorem Iv.with1 (hp : Pf T F n) (hs_ : m) (h : Iv T F n m G e) {r s q : Nat} (hq : q < n) (hsR : s < T.rules.length) (hpr : (q : Int) ∈ ak T (ah T s)) (hr : (r : Int) ∈ ag T kT q) (hb : beatB T r s = true) (hn : G.w r s = false) (hf : e.rf true r = true) :
    Iv T F n m { G with w := cY G.w r s } (with1 q e s) ∧ Tel e (with1 q e s) ∧ ((with1 q e s).cd s q = 0 → used e s = true → has e q 2 = true → has (with1 q e s) q 4 = true) := by
 have h1 := h.withd hp hsR hpr hr hb hn hf
 have k1 : Tel e { e with cd := ar e.cd s (ar (e.cd s) q (dt (e.cd s q))), up := aH e.up } := ⟨rfl, rfl, rfl, rfl, fun _ _ _ hz => hz, [], by simp⟩
 unfold Fa.with1
 by_cases hc : ar e.cd s (ar (e.cd s) q (dt (e.cd s q))) s q = 0 ∧ used e s = true
 · have Aa : (decide (({ e with cd := ar e.cd s (ar (e.cd s) q (dt (e.cd s q))), up := aH e.up } : Es).cd s q = 0) && used { e with cd := ar e.cd s (ar (e.cd s) q (dt (e.cd s q))), up := aH e.up } s) = true := by
    rw [Bool.and_eq_true]
    exact ⟨decide_eq_true hc.1, hc.2⟩
   dsimp only
   rw [if_pos Aa]
   refine ⟨h1.lose fun h2 => h1.over hp hs_ hq hsR hpr hc.2 hc.1 h2, k1.trans (jz h1.y), fun _ _ h2 => jK h1.y h2⟩
 · have Aa : ¬ (decide (({ e with cd := ar e.cd s (ar (e.cd s) q (dt (e.cd s q))), up := aH e.up } : Es).cd s q = 0) && used { e with cd := ar e.cd s (ar (e.cd s) q (dt (e.cd s q))), up := aH e.up } s) = true := by
    rw [Bool.and_eq_true]
    rintro ⟨a, b⟩
    exact hc ⟨of_decide_eq_true a, b⟩
   dsimp only
   rw [if_neg Aa]
   exact ⟨h1, k1, fun a b => absurd ⟨a, b⟩ hc⟩
theorem eU {q : Int} : (aN e q).cd = e.cd ∧ (aN e q).ob = e.ob ∧ (aN e q).op = e.op := by
 unfold aN Fa.tell
 split
 · split <;> exact ⟨rfl, rfl, rfl⟩
 · exact ⟨rfl, rfl, rfl⟩
theorem A9 {q s u : Int} (h : u ≠ s) : (with1 q e s).cd u = e.cd u := by
 unfold Fa.with1
 dsimp only
 split
 · rw [eU.1]; exact aw h
 · exact aw h
theorem te {q s : Int} : (with1 q e s).op = e.op ∧ (with1 q e s).ob = e.ob := by
 unfold Fa.with1
 dsimp only
 split
 · exact ⟨eU.2.2, eU.2.1⟩
 · exact ⟨rfl, rfl⟩
theorem Iv.withs (hp : Pf T F n) (hs_ : m) {r q : Nat} (hq : q < n) (hr : (r : Int) ∈ ag T kT q) : ∀ (l : List Int) {G : dm} {e : Es}, l.Nodup → Iv T F n m G e → e.rf true r = true → (∀ s ∈ l, ∃ a : Nat, s = (a : Int) ∧ a < T.rules.length ∧ (q : Int) ∈ ak T (ah T a) ∧ beatB T r a = true ∧ G.w r a = false) →
    ∃ G', Iv T F n m G' (l.foldl (Fa.with1 q) e) ∧ Agw G G' ∧ Tel e (l.foldl (Fa.with1 q) e) ∧ (l.foldl (Fa.with1 q) e).op = e.op ∧ (∀ u v, G.w u v = true → G'.w u v = true) ∧ (∀ s ∈ l, G'.w r s = true) ∧ (∀ u v, G'.w u v = true → G.w u v = true ∨ u = r ∧ v ∈ l) ∧ (∀ u, u ∉ l → (l.foldl (Fa.with1 q) e).cd u = e.cd u) ∧ ∀ s ∈ l, (l.foldl (Fa.with1 q) e).cd s q = 0 → used e s = true → has e q 2 = true → has (l.foldl (Fa.with1 q) e) q 4 = true := by
 intro l
 induction l with
 | nil => intro G e _ h _ _; exact ⟨G, h, Agw.refl, Tel.refl, rfl, fun _ _ h => h, fun s hs => (by cases hs), fun _ _ h => .inl h, fun _ _ => rfl, fun s hs => (by cases hs)⟩
 | cons s l ih =>
  intro G e Aj h hf hl
  obtain ⟨Aa, Ad⟩ := List.nodup_cons.1 Aj
  obtain ⟨a, rfl, Ac, Ak, hb, hw⟩ := hl s List.mem_cons_self
  obtain ⟨h1, t1, Ah⟩ := h.with1 hp hs_ hq Ac Ak hr hb hw hf
  obtain ⟨G2, h2, g2, t2, o2, m2, w2, v2, c2, Af⟩ := ih Ad h1 (by rw [t1.rf]; exact hf) fun u hu => by
   obtain ⟨b, rfl, Ag, Ab, Ai, Ae⟩ := hl u (List.mem_cons_of_mem _ hu)
   refine ⟨b, rfl, Ag, Ab, Ai, ?_⟩
   cases hg : cY G.w r a r b with
   | false => exact hg
   | true =>
    rcases cq.1 hg with h3 | ⟨-, h3⟩
    · rw [Ae] at h3; cases h3
    · exact absurd (h3 ▸ hu) Aa
  refine ⟨G2, h2, ⟨g2.a, g2.n, g2.c, g2.f, g2.r⟩, t1.trans t2, o2.trans te.1, fun u v hg => m2 u v (kr hg), fun u hu => ?_, fun u v hg => ?_, fun u hu => ?_, fun u hu hc hus h2q => ?_⟩
  · rcases List.mem_cons.1 hu with rfl | hu
    · exact m2 _ _ (cq.2 (.inr ⟨rfl, rfl⟩))
    · exact w2 u hu
  · rcases v2 u v hg with h3 | ⟨h3, h4⟩
    · rcases cq.1 h3 with h5 | ⟨h5, h6⟩
      · exact .inl h5
      · exact .inr ⟨h5, by rw [h6]; exact List.mem_cons_self⟩
    · exact .inr ⟨h3, List.mem_cons_of_mem _ h4⟩
  · rw [List.foldl_cons, c2 u fun h3 => hu (List.mem_cons_of_mem _ h3)]
    exact A9 fun h3 => hu (by rw [h3]; exact List.mem_cons_self)
  · rcases List.mem_cons.1 hu with rfl | hu
    · have hc : (l.foldl (Fa.with1 q) (Fa.with1 q e a)).cd a q = 0 := hc
      rw [c2 _ Aa] at hc
      exact t2.up _ _ tag4 (Ah hc hus h2q)
    · exact Af u hu hc (by unfold Fa.used at hus ⊢; rw [t1.ms]; exact hus) (t1.up _ _ tag2 h2q)
end
section
variable {T : Th} {F : List Int} {n k : Nat} {m : Prop} {G G' : dm} {e e' : Es}
def P3 (T : Th) (n : Nat) (e : Es) : Prop := ∀ q : Nat, q < n → (ag T kT q).any (used e) = true → e.ob q = 0 → has e q 3 = true
theorem eC {q t : Int} : (tell e q t).ob = e.ob ∧ (tell e q t).cd = e.cd ∧ (tell e q t).op = e.op := by
 unfold Fa.tell
 split <;> exact ⟨rfl, rfl, rfl⟩
theorem cM (h : e'.ms = e.ms) : used e' = used e := by funext r; unfold Fa.used; rw [h]
theorem P3.tel (h : P3 T n e) (ht : Tel e e') (ho : e'.ob = e.ob) : P3 T n e' := fun q hq hu h0 => ht.up _ _ tag3 (h q hq (by rw [cM ht.ms] at hu; exact hu) (by rw [ho] at h0; exact h0))
theorem Iv.prove (hp : Pf T F n) (hs_ : m) (h : Iv T F n m G e) {q : Nat} (hq : q < n) : Iv T F n m G (bF T e q) ∧ Tel e (bF T e q) ∧ (bF T e q).ob = e.ob ∧ (bF T e q).cd = e.cd ∧ (bF T e q).op = e.op ∧ ((ag T kT q).any (used e) = true → e.ob q = 0 → has (bF T e q) q 3 = true) := by
 unfold bF
 by_cases hc : (decide (e.ob q = 0) && (ag T kT q).any (used e)) = true
 · rw [if_pos hc]
   rw [Bool.and_eq_true] at hc
   exact ⟨h.tell tag3 (Fc hp hs_ h.nf h.x h.s hq (of_decide_eq_true hc.1) hc.2), il h.y tag3, eC.1, eC.2.1, eC.2.2, fun _ _ => fN h.y tag3⟩
 · rw [if_neg hc]
   exact ⟨h, Tel.refl, rfl, rfl, rfl, fun a b => absurd (by rw [a, decide_eq_true b]; rfl) hc⟩
theorem Iv.drop1 (hp : Pf T F n) (hs_ : m) (h : Iv T F n m G e) (h3 : P3 T n e) {r q : Nat} (hq : q < n) (hr : r < T.rules.length) (hpr : (q : Int) ∈ ak T (ah T r)) (hf : e.rf true r = true) (hn : e.cb r q = false → G.r r q = false) :
    ∃ G', Iv T F n m G' (drop1 T r e q) ∧ Tel e (drop1 T r e q) ∧ (drop1 T r e q).cd = e.cd ∧ (drop1 T r e q).op = e.op ∧ P3 T n (drop1 T r e q) ∧ Agh G G' ∧ (∀ u v, G'.r u v = true → G.r u v = true ∨ u = r ∧ v = q) ∧ (∀ u v, G.r u v = true → G'.r u v = true) ∧ (e.cb r q = false → G'.r r q = true) := by
 unfold Fa.drop1
 by_cases hc : e.cb r q = true
 · rw [if_pos hc]
   exact ⟨G, h, Tel.refl, rfl, rfl, h3, Agh.refl, fun _ _ h => .inl h, fun _ _ h => h, fun h2 => absurd hc (by rw [h2]; decide)⟩
 · rw [if_neg hc]
   have hc : e.cb r q = false := by cases h2 : e.cb r q; rfl; exact absurd h2 hc
   obtain ⟨Aa, ht⟩ := cW.1 hpr
   obtain ⟨x, -, hh, x0, x1⟩ := dp hp hr
   have Ab : (r : Int) ∈ fF T q := vh hr (cU hp (by rw [hh]; exact x0) (by rw [hh]; exact x1) Aa)
   have h1 := h.clearR hp hq Ab (hn hc) ht (.inl hf)
   have k1 : Tel e (cT e q) := ⟨rfl, rfl, rfl, rfl, fun _ _ _ hz => hz, [], by simp [cT]⟩
   obtain ⟨h2, t2, o2, c2, p2, v2⟩ := h1.prove hp hs_ hq
   refine ⟨_, h2, k1.trans t2, c2, p2, fun z hz hu h0 => ?_, ⟨rfl, rfl, rfl, rfl, rfl⟩, fun u v hg => cq.1 hg, fun u v hg => kr hg, fun _ => cq.2 (.inr ⟨rfl, rfl⟩)⟩
   rw [cM (k1.trans t2).ms] at hu
   rw [o2] at h0
   by_cases ez : z = q
   · subst ez
     exact v2 hu h0
   · refine (k1.trans t2).up _ _ tag3 (h3 z hz hu ?_)
     have h0 : ar e.ob q (dt (e.ob q)) z = 0 := h0
     rw [aw (by omega)] at h0
     exact h0
theorem Iv.drops (hp : Pf T F n) (hs_ : m) {r : Nat} (hr : r < T.rules.length) : ∀ (l : List Int) {G : dm} {e : Es}, l.Nodup → Iv T F n m G e → P3 T n e → e.rf true r = true → (∀ z ∈ l, z ∈ ak T (ah T r) ∧ (e.cb r z = false → G.r r z = false)) →
    ∃ G', Iv T F n m G' (l.foldl (Fa.drop1 T r) e) ∧ Tel e (l.foldl (Fa.drop1 T r) e) ∧ (l.foldl (Fa.drop1 T r) e).cd = e.cd ∧ (l.foldl (Fa.drop1 T r) e).op = e.op ∧ P3 T n (l.foldl (Fa.drop1 T r) e) ∧ Agh G G' ∧ (∀ u v, G.r u v = true → G'.r u v = true) ∧ ∀ z ∈ l, e.cb r z = false → G'.r r z = true := by
 intro l
 induction l with
 | nil => intro G e _ h h3 _ _; exact ⟨G, h, Tel.refl, rfl, rfl, h3, Agh.refl, fun _ _ h => h, fun z hz => (by cases hz)⟩
 | cons z l ih =>
  intro G e Ab h h3 hf hl
  obtain ⟨Ae, Aa⟩ := List.nodup_cons.1 Ab
  obtain ⟨hz, hg⟩ := hl z List.mem_cons_self
  obtain ⟨hm, Ad, Ac⟩ := fK hp hr
  obtain ⟨z0, z1⟩ := ir hp Ac (by rw [← Ad]; exact hz)
  obtain ⟨q, rfl⟩ := Int.eq_ofNat_of_zero_le z0
  obtain ⟨G1, h1, t1, c1, o1, p1, g1, v1, m1, d1⟩ := h.drop1 hp hs_ h3 (show q < n by omega) hr hz hf hg
  obtain ⟨G2, h2, t2, c2, o2, p2, g2, m2, d2⟩ := ih Aa h1 p1 (by rw [t1.rf]; exact hf) fun u hu => ⟨(hl u (List.mem_cons_of_mem _ hu)).1, fun hc => by
   rw [t1.cb] at hc
   cases hg2 : G1.r r u with
   | false => rfl
   | true =>
    rcases v1 r u hg2 with h5 | ⟨-, h5⟩
    · rw [(hl u (List.mem_cons_of_mem _ hu)).2 hc] at h5; cases h5
    · exact absurd (h5 ▸ hu) Ae⟩
  refine ⟨G2, h2, t1.trans t2, c2.trans c1, o2.trans o1, p2, g1.trans g2, fun u v hg => m2 u v (m1 u v hg), fun u hu hc => ?_⟩
  rcases List.mem_cons.1 hu with rfl | hu
  · exact m2 _ _ (d1 hc)
  · exact d2 u hu (by rw [t1.cb]; exact hc)
end
section
variable {T : Th} {F : List Int} {n k : Nat} {m : Prop} {G G' : dm} {e e' : Es}
theorem s8 (hx : Exa T F n G e) {b : Bool} {r q : Nat} (hq : q < n) (hr : (r : Int) ∈ ag T (kL b) q) (hn : G.c b r = false) (h1 : e.op b q = 1) : dc T F b q = false ∧ ∀ t ∈ ag T (kL b) q, t = (r : Int) ∨ G.c b t = true := by
 have h := hx.op b q hq
 rw [h1] at h
 split at h
 · omega
 · rename_i ho
   have ho : dc T F b q = false := by
    cases hh : dc T F b q with
    | false => rfl
    | true => rw [hh] at ho; exact absurd rfl ho
   refine ⟨ho, fun t ht => ?_⟩
   have Aa := kJ hr hn
   have Ab := iz rules_nd hr hn
   have hz : lf (ag T (kL b) (q : Int)) (ar (G.c b) r true) = 0 := by omega
   have := dK.1 hz t ht
   by_cases e1 : t = (r : Int)
   · exact .inl e1
   · rw [aw e1] at this; exact .inr this
theorem ES {b : Bool} {q : Int} : Tel e (aI e b q) ∧ (aI e b q).ob = e.ob ∧ (aI e b q).cd = e.cd := by
 unfold aI
 split
 · exact ⟨⟨rfl, rfl, rfl, rfl, fun _ _ _ hz => hz, [], by simp⟩, rfl, rfl⟩
 · exact ⟨Tel.refl, rfl, rfl⟩
theorem B0 {q : Int} : ∀ (l : List Int) {e : Es}, (l.foldl (Fa.with1 q) e).ob = e.ob := by
 intro l
 induction l with
 | nil => intro e; rfl
 | cons s l ih => intro e; rw [List.foldl_cons, ih, te.2]
theorem xI {q s u z : Int} (h : z ≠ q) : (with1 q e s).cd u z = e.cd u z := by
 have key : ar e.cd s (ar (e.cd s) q (dt (e.cd s q))) u z = e.cd u z := by
  by_cases e1 : u = s
  · subst e1; rw [aA, aw h]
  · rw [aw e1]
 unfold Fa.with1
 dsimp only
 split
 · rw [eU.1]; exact key
 · exact key
theorem yb {q u z : Int} (h : z ≠ q) : ∀ {l : List Int} {e : Es}, (l.foldl (Fa.with1 q) e).cd u z = e.cd u z := by
 intro l
 induction l with
 | nil => intro e; rfl
 | cons s l ih => intro e; rw [List.foldl_cons, ih, xI h]
theorem wZ (hp : Pf T F n) {r : Nat} (hr : r < T.rules.length) : (row T.beats (r : Int)).Nodup := by
 have Aa := hp.ok.bl
 obtain ⟨l, hl⟩ := an (l := T.beats) (i := r) (by omega)
 rw [bE (l := l) (by rw [Int.toNat_natCast]; exact hl)]
 exact dw (hp.beat l (List.mem_of_getElem? hl))
theorem Iv.drop (hp : Pf T F n) (hs_ : m) (h : Iv T F n m G e) (h3 : P3 T n e) {r : Nat} (hr : r < T.rules.length) (hf : e.rf true r = true) (f1 : ∀ z ∈ ak T (ah T r), e.cb r z = false → G.r r z = false) (f2 : ∀ s ∈ row T.beats r, G.w r s = false) (f3 : G.c true r = false) :
    ∃ G', Iv T F n m G' (cg T e r) ∧ Tel e (cg T e r) ∧ P3 T n (cg T e r) ∧ G'.a = G.a ∧ G'.n = G.n ∧ G'.f = G.f ∧ (∀ u v, G.r u v = true → G'.r u v = true) ∧ (∀ u v, G.w u v = true → G'.w u v = true) ∧ (∀ u, G.c true u = true → G'.c true u = true) ∧ G'.c false = G.c false ∧
     (∀ z ∈ ak T (ah T r), e.cb r z = false → G'.r r z = true) ∧ (aW T r = true → (∀ s ∈ row T.beats r, G'.w r s = true) ∧ G'.c true r = true) ∧
     (aW T r = true → e.op true (ah T r) = 1 → has e (ah T r) 2 = true → has (cg T e r) (ah T r) 4 = true) ∧ (∀ u z, z ≠ ah T r ∨ u ∉ row T.beats r ∨ aW T r = false → (cg T e r).cd u z = e.cd u z) ∧ (aW T r = true → ∀ s ∈ row T.beats r, (cg T e r).cd s (ah T r) = 0 → used e s = true → has e (ah T r) 2 = true → has (cg T e r) (ah T r) 4 = true) := by
 obtain ⟨q, hq, Ad⟩ := fK hp hr
 obtain ⟨G1, i1, t1, c1, o1, p1, g1, m1, d1⟩ := h.drops (l := ak T (ah T r)) hp hs_ hr (jT hp hr) h3 hf fun z hz => ⟨hz, f1 z hz⟩
 unfold cg
 by_cases ht : aW T r = true
 · dsimp only
   rw [if_pos ht]
   have Af : (r : Int) ∈ ag T kT q := by rw [← hq]; exact kU ht
   obtain ⟨G2, i2, g2, t2, o2, m2, w2, v2, Al, Aj⟩ := Iv.withs (m := m) hp hs_ Ad Af (row T.beats r) (wZ hp hr) i1 (by rw [t1.rf]; exact hf) fun s hs => by
    obtain ⟨a, rfl, ha, An⟩ := lQ hp hr hs
    exact ⟨a, rfl, ha, by rw [← hq]; exact gE hp hr ht An, decide_eq_true hs, by rw [g1.w]; exact f2 _ hs⟩
   have Ah : G2.c true r = false := by rw [g2.c, g1.c]; exact f3
   have Ac : ((row T.beats r).foldl (Fa.with1 q) ((ak T (ah T r)).foldl (Fa.drop1 T r) e)).rf true r = true := by rw [t2.rf, t1.rf]; exact hf
   have hE : withE T ((ak T (ah T r)).foldl (Fa.drop1 T r) e) r = (row T.beats r).foldl (Fa.with1 q) ((ak T (ah T r)).foldl (Fa.drop1 T r) e) := by unfold withE; rw [hq]
   rw [hE, hq]
   have p2 : P3 T n ((row T.beats r).foldl (Fa.with1 q) ((ak T (ah T r)).foldl (Fa.drop1 T r) e)) := p1.tel t2 (B0 _)
   have Ae := t1.trans t2
   have Ai := o2.trans o1
   have Ab : ∀ u z, z ≠ (q : Int) ∨ u ∉ row T.beats r → ((row T.beats r).foldl (Fa.with1 q) ((ak T (ah T r)).foldl (Fa.drop1 T r) e)).cd u z = e.cd u z := fun u z hz => by
    rcases hz with hz | hz
    · rw [yb hz, c1]
    · rw [Al u hz, c1]
   have Ag : ∀ s ∈ row T.beats r, ((row T.beats r).foldl (Fa.with1 q) ((ak T (ah T r)).foldl (Fa.drop1 T r) e)).cd s q = 0 → used e s = true → has e q 2 = true → has ((row T.beats r).foldl (Fa.with1 q) ((ak T (ah T r)).foldl (Fa.drop1 T r) e)) q 4 = true := fun s hs hc hu h2 => Aj s hs hc (by rw [cM t1.ms]; exact hu) (t1.up _ _ tag2 h2)
   rw [hq] at i2 Ae p2 Ac d1 Ai Ab Ag
   clear o2 Al Aj t2 c1 o1 p1 i1 t1 hE
   generalize (row T.beats r).foldl (Fa.with1 q) ((ak T (q : Int)).foldl (Fa.drop1 T r) e) = e2 at *
   have i3 := i2.cls hp (b := true) Ad Af Ah Ac
   have t3 := ES (e := e2) (b := true) (q := q)
   have p3 : P3 T n (aI e2 true q) := p2.tel t3.1 t3.2.1
   have Aa : (∀ u v, G.r u v = true → G2.r u v = true) ∧ (∀ z ∈ ak T (q : Int), e.cb r z = false → G2.r r z = true) := ⟨fun u v hg => by rw [g2.r]; exact m1 u v hg, fun z hz hc => by rw [g2.r]; exact d1 z hz hc⟩
   by_cases hb : ep e2 true q = true
   · rw [if_pos hb]
     have Am := s8 i2.x (b := true) Ad Af Ah (of_decide_eq_true hb)
     refine ⟨_, i3.lose fun h2 => ?_, Ae.trans (t3.1.trans (jz i3.y)), p3.tel (jz i3.y) eU.2.1, g2.a.trans g1.a, g2.n.trans g1.n, g2.f.trans g1.f, Aa.1, fun u v hg => m2 u v (by rw [g1.w]; exact hg), fun u hu => ?_, ?_, Aa.2, fun _ => ⟨w2, ?_⟩, fun _ _ h2 => jK i3.y (t3.1.up _ _ tag2 (Ae.up _ _ tag2 h2)), fun u z hz => ?_, fun _ s hs hc hu h2 => (jz i3.y).up _ _ tag4 (t3.1.up _ _ tag4 (Ag s hs (by rw [eU.1, t3.2.2] at hc; exact hc) hu h2))⟩
     · refine rL hp hs_ Ad (i3.s.mm q 2 (by omega) (by omega) tag2 h2) (.inl fun t htm => ?_)
       obtain ⟨a, rfl, ha, -, -⟩ := bP htm
       have Ak : Mq n (aI e2 true (q : Int)) = Mq n e2 := by unfold Mq aI; split <;> rfl
       rcases Am.2 a htm with h5 | h5
       · rw [h5, Ak]; exact i2.s.part hp i2.x (b := true) hr Ac
       · rw [Ak]; exact i2.s.part hp i2.x (b := true) ha (i2.s.c true a h5)
     · show aM G2.c true (ar (G2.c true) r true) true u = true
       rw [aG]
       by_cases eu : u = (r : Int)
       · rw [eu, aA]
       · rw [aw eu, g2.c, g1.c]; exact hu
     · show aM G2.c true (ar (G2.c true) r true) false = G.c false
       rw [aT (by decide), g2.c, g1.c]
     · show aM G2.c true (ar (G2.c true) r true) true r = true
       rw [aG, aA]
     · rw [eU.1, t3.2.2]
       rcases hz with hz | hz | hz
       · exact Ab u z (.inl hz)
       · exact Ab u z (.inr hz)
       · rw [ht] at hz; cases hz
   · rw [if_neg hb]
     refine ⟨_, i3, Ae.trans t3.1, p3, g2.a.trans g1.a, g2.n.trans g1.n, g2.f.trans g1.f, Aa.1, fun u v hg => m2 u v (by rw [g1.w]; exact hg), fun u hu => ?_, ?_, Aa.2, fun _ => ⟨w2, ?_⟩, fun _ h1 _ => absurd (decide_eq_true (by rw [Ai]; exact h1)) hb, fun u z hz => ?_, fun _ s hs hc hu h2 => t3.1.up _ _ tag4 (Ag s hs (by rw [t3.2.2] at hc; exact hc) hu h2)⟩
     · show aM G2.c true (ar (G2.c true) r true) true u = true
       rw [aG]
       by_cases eu : u = (r : Int)
       · rw [eu, aA]
       · rw [aw eu, g2.c, g1.c]; exact hu
     · show aM G2.c true (ar (G2.c true) r true) false = G.c false
       rw [aT (by decide), g2.c, g1.c]
     · show aM G2.c true (ar (G2.c true) r true) true r = true
       rw [aG, aA]
     · rw [t3.2.2]
       rcases hz with hz | hz | hz
       · exact Ab u z (.inl hz)
       · exact Ab u z (.inr hz)
       · rw [ht] at hz; cases hz
 · dsimp only
   rw [if_neg ht]
   exact ⟨G1, i1, t1, p1, g1.a, g1.n, g1.f, m1, fun u v hg => by rw [g1.w]; exact hg, fun u hu => by rw [g1.c]; exact hu, by rw [g1.c], d1, fun h => absurd h ht, fun h => absurd h ht, fun u z _ => by rw [c1], fun h => absurd h ht⟩
end
section
variable {T : Th} {F : List Int} {n k : Nat} {m : Prop} {G G' : dm} {e e' : Es}
def P3x (T : Th) (n : Nat) (h : Int) (e : Es) : Prop := ∀ q : Nat, q < n → (q : Int) ≠ h → (ag T kT q).any (used e) = true → e.ob q = 0 → has e q 3 = true
theorem P3x.tel {h : Int} (h3 : P3x T n h e) (ht : Tel e e') (ho : e'.ob = e.ob) : P3x T n h e' := fun q hq hne hu h0 => ht.up _ _ tag3 (h3 q hq hne (by rw [cM ht.ms] at hu; exact hu) (by rw [ho] at h0; exact h0))
theorem zL {h s z : Int} (hz : z ≠ h) : (Fa.beat1 h e s).ob z = e.ob z := by
 unfold Fa.beat1
 split
 · rfl
 · dsimp only
   split
   · rfl
   · exact aw hz
theorem xu {h z : Int} (hz : z ≠ h) : ∀ (l : List Int) {e : Es}, (l.foldl (Fa.beat1 h) e).ob z = e.ob z := by
 intro l
 induction l with
 | nil => intro e; rfl
 | cons s l ih => intro e; rw [List.foldl_cons, ih, zL hz]
theorem Iv.use1 (hp : Pf T F n) (hs_ : m) (h : Iv T F n m G e) {r q : Nat} (hq : q < n) (hr : r < T.rules.length) (hpr : (q : Int) ∈ ak T (ah T r)) (hu : used e r = true) : Iv T F n m G (use1 r e q) ∧ Tel e (use1 r e q) ∧ (use1 r e q).ob = e.ob ∧ (use1 r e q).cd = e.cd ∧ (use1 r e q).op = e.op ∧ (e.cd r q = 0 → has e q 2 = true → has (use1 r e q) q 4 = true) := by
 unfold Fa.use1
 by_cases hc : e.cd r q = 0
 · rw [if_pos hc]
   exact ⟨h.lose fun h2 => h.over hp hs_ hq hr hpr hu hc h2, jz h.y, eU.2.1, eU.1, eU.2.2, fun _ h2 => jK h.y h2⟩
 · rw [if_neg hc]
   exact ⟨h, Tel.refl, rfl, rfl, rfl, fun h2 => absurd h2 hc⟩
theorem Iv.uses (hp : Pf T F n) (hs_ : m) {r : Nat} (hr : r < T.rules.length) : ∀ (l : List Int) {e : Es}, Iv T F n m G e → used e r = true → (∀ z ∈ l, z ∈ ak T (ah T r)) →
    Iv T F n m G (l.foldl (Fa.use1 r) e) ∧ Tel e (l.foldl (Fa.use1 r) e) ∧ (l.foldl (Fa.use1 r) e).ob = e.ob ∧ (l.foldl (Fa.use1 r) e).cd = e.cd ∧ (l.foldl (Fa.use1 r) e).op = e.op ∧ ∀ z ∈ l, e.cd r z = 0 → has e z 2 = true → has (l.foldl (Fa.use1 r) e) z 4 = true := by
 intro l
 induction l with
 | nil => intro e h _ _; exact ⟨h, Tel.refl, rfl, rfl, rfl, fun z hz => (by cases hz)⟩
 | cons z l ih =>
  intro e h hu hl
  have hz := hl z List.mem_cons_self
  obtain ⟨hm, Ae, Ad⟩ := fK hp hr
  obtain ⟨z0, z1⟩ := ir hp Ad (by rw [← Ae]; exact hz)
  obtain ⟨q, rfl⟩ := Int.eq_ofNat_of_zero_le z0
  obtain ⟨h1, t1, o1, c1, p1, Ac⟩ := h.use1 hp hs_ (show q < n by omega) hr hz hu
  obtain ⟨h2, t2, o2, c2, p2, Ab⟩ := ih h1 (by rw [cM t1.ms]; exact hu) fun u Aa => hl u (List.mem_cons_of_mem _ Aa)
  refine ⟨h2, t1.trans t2, o2.trans o1, c2.trans c1, p2.trans p1, fun u Aa hc h2q => ?_⟩
  rcases List.mem_cons.1 Aa with rfl | Aa
  · exact t2.up _ _ tag4 (Ac hc h2q)
  · exact Ab u Aa (by rw [c1]; exact hc) (t1.up _ _ tag2 h2q)
theorem Iv.use (hp : Pf T F n) (hs_ : m) (h : Iv T F n m G e) {r : Nat} (hr : r < T.rules.length) (hu : used e r = true) (h3 : P3x T n (ah T r) e) (h3n : aW T r = false → P3 T n e) :
    ∃ G', Iv T F n m G' (da T e r) ∧ P3 T n (da T e r) ∧ Agh G G' ∧ (da T e r).ms = e.ms ∧ (da T e r).rf = e.rf ∧ (da T e r).cd = e.cd ∧ (da T e r).op = e.op ∧ (da T e r).tk = e.tk ∧ (∀ z t, aq t → has e z t = true → has (da T e r) z t = true) ∧ (∃ l, (da T e r).td = e.td ++ l) ∧ (∀ u z, e.cb u z = true → (da T e r).cb u z = true) ∧ (aW T r = true → ∀ s ∈ row T.beats r, (da T e r).cb s (ah T r) = true) ∧ (∀ z ∈ ak T (ah T r), e.cd r z = 0 → has e z 2 = true → has (da T e r) z 4 = true) ∧ (mz T G e → mz T G' (da T e r)) := by
 obtain ⟨q, hq, Am⟩ := fK hp hr
 have ha := (h.x.used hr).1 hu
 obtain ⟨h1, t1, o1, c1, p1, Ab⟩ := h.uses (l := ak T (ah T r)) hp hs_ hr hu fun z hz => hz
 unfold da
 by_cases ht : aW T r = true
 · dsimp only
   rw [if_pos ht]
   have x1 := h3.tel t1 o1
   generalize hE1 : (ak T (ah T r)).foldl (Fa.use1 r) e = e1 at *
   obtain ⟨G2, h2, g2, k2, Af, m2, r2⟩ := h1.defend hp hr ht ha
   have Ak : ∀ z, z ≠ ah T r → (defendE T e1 r).ob z = e1.ob z := fun z hz => xu hz _
   have Aj : (r : Int) ∈ ag T kT q := by rw [← hq]; exact kU ht
   have Aa : ∀ z t, has (defendE T e1 r) z t = has e1 z t := fun z t => by unfold has; rw [k2.mq]
   have Ae : (defendE T e1 r).ms = e.ms := k2.ms.trans t1.ms
   obtain ⟨l1, Ao⟩ := t1.td
   have Ag : (defendE T e1 r).td = e.td ++ l1 := k2.td.trans Ao
   have Ad : used (defendE T e1 r) = used e1 := cM k2.ms
   have P3o : ∀ z : Nat, z < n → (z : Int) ≠ ah T r → (ag T kT z).any (used (defendE T e1 r)) = true → (defendE T e1 r).ob z = 0 → has (defendE T e1 r) z 3 = true := fun z hz hne hu2 h0 => by
    rw [Aa]
    rw [Ad] at hu2
    rw [Ak _ hne] at h0
    exact x1 z hz hne hu2 h0
   generalize defendE T e1 r = e2 at *
   have Ac : ∀ z t, aq t → has e z t = true → has e2 z t = true := fun z t ht hz => by rw [Aa]; exact t1.up z t ht hz
   by_cases h0 : e2.ob (ah T r) = 0
   · rw [if_pos h0]
     have Ah : (ag T kT q).any (used e2) = true := List.any_eq_true.2 ⟨r, Aj, by rw [Ad, cM t1.ms]; exact hu⟩
     have Ai : bf T F (Mq n e2) 3 (ah T r) = true := by rw [hq]; exact Fc hp hs_ h2.nf h2.x h2.s Am (by rw [← hq]; exact h0) Ah
     have t3 := il h2.y (q := ah T r) tag3
     obtain ⟨l3, An⟩ := t3.td
     refine ⟨G2, h2.tell tag3 Ai, fun z hz hu2 hz0 => ?_, g2, t3.ms.trans Ae, t3.rf.trans (k2.rf.trans t1.rf), eC.2.1.trans (k2.cd.trans c1), eC.2.2.trans (k2.op.trans p1), t3.tk.trans (k2.tk.trans t1.tk), fun z t ht hz => t3.up z t ht (Ac z t ht hz), ⟨l1 ++ l3, by rw [An, Ag, List.append_assoc]⟩, fun u z hz => by rw [t3.cb]; exact m2 u z (by rw [t1.cb]; exact hz), fun _ s hs => by rw [t3.cb]; exact Af s hs, fun z hz hc h2z => t3.up z 4 tag4 (by rw [Aa]; exact Ab z hz hc h2z), fun hg s hs z hz ho => r2 (fun s hs z hz ho => hg s hs z hz (by rw [t1.rf, t1.cb] at ho; exact ho)) s hs z hz (by rw [t3.rf, t3.cb] at ho; exact ho)⟩
     by_cases ez : (z : Int) = ah T r
     · rw [ez]; exact fN h2.y tag3
     · exact t3.up _ _ tag3 (P3o z hz ez (by rw [cM t3.ms] at hu2; exact hu2) (by rw [eC.1] at hz0; exact hz0))
   · rw [if_neg h0]
     refine ⟨G2, h2, fun z hz hu2 hz0 => ?_, g2, Ae, k2.rf.trans t1.rf, k2.cd.trans c1, k2.op.trans p1, k2.tk.trans t1.tk, Ac, ⟨l1, Ag⟩, fun u z hz => m2 u z (by rw [t1.cb]; exact hz), fun _ => Af, fun z hz hc h2z => by rw [Aa]; exact Ab z hz hc h2z, fun hg => r2 fun s hs z hz ho => hg s hs z hz (by rw [t1.rf, t1.cb] at ho; exact ho)⟩
     by_cases ez : (z : Int) = ah T r
     · rw [ez] at hz0; exact absurd hz0 h0
     · exact P3o z hz ez hu2 hz0
 · dsimp only
   rw [if_neg ht]
   have Al : aW T r = false := by cases hh : aW T r; rfl; exact absurd hh ht
   exact ⟨G, h1, (h3n Al).tel t1 o1, Agh.refl, t1.ms, t1.rf, c1, p1, t1.tk, t1.up, t1.td, fun u z hz => by rw [t1.cb]; exact hz, fun h => absurd h ht, Ab, fun hg s hs z hz ho => hg s hs z hz (by rw [t1.rf, t1.cb] at ho; exact ho)⟩
end
section
variable {T : Th} {F : List Int} {n k : Nat} {m : Prop} {G G' : dm} {e e' : Es}
theorem P3.ms (h : P3 T n e) (hu : e'.ms true = e.ms true) (ho : e'.ob = e.ob) (hh : ∀ z, has e z 3 = true → has e' z 3 = true) : P3 T n e' := fun q hq ha h0 => hh _ (h q hq (by
 have : used e' = used e := by funext r; unfold Fa.used; rw [hu]
 rw [this] at ha; exact ha) (by rw [ho] at h0; exact h0))
theorem kH {b : Bool} {z r : Int} (h : r ∈ bw T b z) : ∃ a : Nat, r = (a : Int) ∧ a < T.rules.length ∧ aF T (kW b) a = true ∧ z ∈ ax T a := by
 unfold bw dR at h
 obtain ⟨a, ha, rfl⟩ := List.mem_map.1 h
 obtain ⟨h1, h2⟩ := List.mem_filter.1 ha
 unfold jj at h2
 split at h2
 · rename_i x hx
   rw [Bool.and_eq_true] at h2
   obtain ⟨k1, -, k3⟩ := ed (p := kW b) hx
   exact ⟨a, rfl, List.mem_range.1 h1, by rw [k1]; exact h2.1, by rw [k3]; exact of_decide_eq_true h2.2⟩
 · cases h2
theorem rT {b : Bool} {z : Int} {a : Nat} (ha : a < T.rules.length) (hk : aF T (kW b) a = true) (hz : z ∈ ax T a) : (a : Int) ∈ bw T b z := by
 unfold bw dR
 refine List.mem_map.2 ⟨a, List.mem_filter.2 ⟨List.mem_range.2 ha, ?_⟩, rfl⟩
 obtain ⟨x, hx⟩ := an ha
 obtain ⟨k1, -, k3⟩ := ed (p := kW b) hx
 unfold jj
 rw [hx]
 rw [k1] at hk
 rw [k3] at hz
 simp [hk, hz]
theorem re {b : Bool} {z : Int} : (bw T b z).Nodup := by
 unfold bw dR
 refine List.Pairwise.map _ (fun a b h => ?_) ((List.nodup_range).filter _)
 intro e
 exact h (Int.ofNat.inj e)
structure Tem (e e' : Es) : Prop where
 rf : e'.rf = e.rf
 cb : e'.cb = e.cb
 cd : e'.cd = e.cd
 ob : e'.ob = e.ob
 op : e'.op = e.op
 tk : e'.tk = e.tk
 mt : e'.ms true = e.ms true
 up : ∀ z t, aq t → has e z t = true → has e' z t = true
 td : ∃ l, e'.td = e.td ++ l
theorem Tem.refl : Tem e e := ⟨rfl, rfl, rfl, rfl, rfl, rfl, rfl, fun _ _ _ h => h, [], by simp⟩
theorem Tem.trans {e2 : Es} (h : Tem e e') (h2 : Tem e' e2) : Tem e e2 := by
 obtain ⟨l, hl⟩ := h.td
 obtain ⟨l2, Aa⟩ := h2.td
 exact ⟨h2.rf.trans h.rf, h2.cb.trans h.cb, h2.cd.trans h.cd, h2.ob.trans h.ob, h2.op.trans h.op, h2.tk.trans h.tk, h2.mt.trans h.mt, fun z t ht hz => h2.up z t ht (h.up z t ht hz), l ++ l2, by rw [Aa, hl, List.append_assoc]⟩
theorem hH (hby : ∀ q, aU (e.mq q)) {q t : Int} (ht : aq t) : Tem e (tell e q t) :=
 have h := il hby (q := q) ht
 ⟨h.rf, h.cb, eC.2.1, eC.1, eC.2.2, h.tk, by rw [h.ms], h.up, h.td⟩
theorem Iv.plusS1 (hp : Pf T F n) (hs_ : m) (h : Iv T F n m G e) {r : Nat} {q : Int} (hr : r < T.rules.length) (hk : aF T (kW false) r = true) (hq : q ∈ ax T r) (hn : G.a false r q = false) (hh : has e q 1 = true) :
    Iv T F n m { G with a := aM G.a false (cY (G.a false) r q) } (plusS1 T e r) ∧ Tem e (plusS1 T e r) ∧ ((plusS1 T e r).ms false r = 0 → has (plusS1 T e r) (ah T r) 1 = true) ∧ ∀ u, u ≠ (r : Int) → (plusS1 T e r).ms false u = e.ms false u := by
 have h1 := h.met hp (b := false) hr hk hq hn hh
 have k1 : Tem e (bO e false r) := ⟨rfl, rfl, rfl, rfl, rfl, rfl, (show aM e.ms false (ar (e.ms false) r (dt (e.ms false r))) true = e.ms true from aT (by decide)), fun _ _ _ hz => hz, [], by simp [bO]⟩
 have m1 : ∀ u, u ≠ (r : Int) → (bO e false r).ms false u = e.ms false u := fun u hu => by
  show aM e.ms false (ar (e.ms false) r (dt (e.ms false r))) false u = e.ms false u
  rw [aG, aw hu]
 unfold Fa.plusS1
 dsimp only
 by_cases hc : (bO e false r).ms false r = 0
 · rw [if_pos hc]
   have t2 := il h1.y (q := ah T r) tag1
   refine ⟨h1.tell tag1 (Gg hp hs_ h1.x h1.s hr hk hc), k1.trans (hH h1.y tag1), fun _ => fN h1.y tag1, fun u hu => by rw [t2.ms]; exact m1 u hu⟩
 · rw [if_neg hc]
   exact ⟨h1, k1, fun h2 => absurd h2 hc, m1⟩
end
section
variable {T : Th} {F : List Int} {n k : Nat} {m : Prop} {G G' : dm} {e e' : Es} {K : Int → Int → Bool}
structure Gro (e e' : Es) : Prop where
 tk : e'.tk = e.tk
 up : ∀ z t, aq t → has e z t = true → has e' z t = true
 td : ∃ l, e'.td = e.td ++ l
 by_ : ∀ q, aU (e'.mq q)
 sm : (∀ q, e.mq q < 16) → ∀ q, e'.mq q < 16
 tdd : (∀ z t, aq t → has e z t = true → (z, t) ∈ e.td) → ∀ z t, aq t → has e' z t = true → (z, t) ∈ e'.td
theorem Gro.refl (h : ∀ q, aU (e.mq q)) : Gro e e := ⟨rfl, fun _ _ _ h => h, ⟨[], by simp⟩, h, fun h => h, fun h => h⟩
theorem Gro.trans {e2 : Es} (h : Gro e e') (h2 : Gro e' e2) : Gro e e2 := by
 obtain ⟨l, hl⟩ := h.td
 obtain ⟨l2, Aa⟩ := h2.td
 exact ⟨h2.tk.trans h.tk, fun z t ht hz => h2.up z t ht (h.up z t ht hz), ⟨l ++ l2, by rw [Aa, hl, List.append_assoc]⟩, h2.by_, fun h0 => h2.sm (h.sm h0), fun h0 => h2.tdd (h.tdd h0)⟩
theorem Gro.tell (h : Gro e e') {q t : Int} (ht : aq t) : Gro e (tell e' q t) := by
 refine h.trans ?_
 have key : ∀ z u, aq u → hb (ar e'.mq q (cC (e'.mq q) t) z) u = (has e' z u || decide (z = q ∧ t = u)) := fun z u hu => by
  by_cases ez : z = q
  · subst ez
    rw [aA, (dg (h.by_ z) ht hu).1]
    simp [has]
  · rw [aw ez]
    simp [ez, has]
 unfold Fa.tell
 split
 · exact Gro.refl h.by_
 · refine ⟨rfl, fun z u hu hz => ?_, ⟨[(q, t)], rfl⟩, fun z => ?_, fun hs z => ?_, fun hm z u hu hz => ?_⟩
   · show hb (ar e'.mq q (cC (e'.mq q) t) z) u = true
     rw [key z u hu, hz]
     rfl
   · show aU (ar e'.mq q (cC (e'.mq q) t) z)
     by_cases ez : z = q
     · subst ez; rw [aA]; exact (dg (h.by_ z) ht ht).2.1
     · rw [aw ez]; exact h.by_ z
   · show ar e'.mq q (cC (e'.mq q) t) z < 16
     by_cases ez : z = q
     · subst ez; rw [aA]; exact (dg (h.by_ z) ht ht).2.2 (hs z)
     · rw [aw ez]; exact hs z
   · have hz : hb (ar e'.mq q (cC (e'.mq q) t) z) u = true := hz
     show (z, u) ∈ e'.td ++ [(q, t)]
     rw [key z u hu, Bool.or_eq_true] at hz
     rcases hz with hz | hz
     · exact List.mem_append_left _ (hm z u hu hz)
     · obtain ⟨rfl, rfl⟩ := of_decide_eq_true hz
       simp
theorem Gro.same {e2 : Es} (h : Gro e e') (h1 : e2.td = e'.td) (h2 : e2.mq = e'.mq) (h3 : e2.tk = e'.tk) : Gro e e2 := by
 have hh : ∀ z t, has e2 z t = has e' z t := fun z t => by unfold has; rw [h2]
 obtain ⟨l, hl⟩ := h.td
 exact ⟨h3.trans h.tk, fun z t ht hz => by rw [hh]; exact h.up z t ht hz, ⟨l, by rw [h1, hl]⟩, fun q => by rw [h2]; exact h.by_ q, fun hs q => by rw [h2]; exact h.sm hs q, fun hm z t ht hz => by rw [h1]; rw [hh] at hz; exact h.tdd hm z t ht hz⟩
theorem Gro.fold {α : Type} {f : Es → α → Es} : ∀ {l : List α} {e' : Es}, Gro e e' → (∀ x ∈ l, ∀ e2, Gro e e2 → Gro e (f e2 x)) → Gro e (l.foldl f e')
 | [], _, h, _ => h
 | x :: l, _, h, hf => Gro.fold (l := l) (hf x List.mem_cons_self _ h) fun y hy => hf y (List.mem_cons_of_mem _ hy)
theorem Gro.lose (h : Gro e e') {q : Int} : Gro e (aN e' q) := by
 unfold aN; split
 · exact h.tell tag4
 · exact h
theorem Gro.clear (h : Gro e e') {q : Int} : Gro e (cT e' q) := h.same rfl rfl rfl
theorem Gro.met (h : Gro e e') {b : Bool} {r : Int} : Gro e (bO e' b r) := h.same rfl rfl rfl
theorem Gro.ref (h : Gro e e') {b : Bool} {r : Int} : Gro e (refE e' b r) := by unfold refE; split; exact h; exact h.same rfl rfl rfl
theorem Gro.cls (h : Gro e e') {b : Bool} {r : Int} : Gro e (aI e' b r) := by unfold aI; split; exact h.same rfl rfl rfl; exact h
theorem Gro.prove (h : Gro e e') {q : Int} : Gro e (bF T e' q) := by
 unfold bF; split
 · exact h.tell tag3
 · exact h
theorem Gro.disprove (h : Gro e e') {q : Int} : Gro e (aJ T e' q) := by
 unfold aJ; split
 · exact h.lose
 · exact h
theorem Gro.beat1 (h : Gro e e') {q s : Int} : Gro e (beat1 q e' s) := by
 unfold Fa.beat1
 split
 · exact h
 · dsimp only
   split
   · exact h.same rfl rfl rfl
   · exact h.same rfl rfl rfl
theorem Gro.defend (h : Gro e e') {r : Int} : Gro e (defendE T e' r) := Gro.fold h fun _ _ _ h => h.beat1
theorem Gro.with1 (h : Gro e e') {q s : Int} : Gro e (with1 q e' s) := by
 unfold Fa.with1
 dsimp only
 have h1 : Gro e { e' with cd := ar e'.cd s (ar (e'.cd s) q (dt (e'.cd s q))), up := aH e'.up } := h.same rfl rfl rfl
 split
 · exact h1.lose
 · exact h1
theorem Gro.withE (h : Gro e e') {r : Int} : Gro e (withE T e' r) := Gro.fold h fun _ _ _ h => h.with1
theorem Gro.use (h : Gro e e') {r : Int} : Gro e (da T e' r) := by
 have h1 : Gro e ((ak T (ah T r)).foldl (use1 r) e') := Gro.fold h fun p _ e2 h => by
  unfold use1
  split
  · exact h.lose
  · exact h
 unfold da
 dsimp only
 split
 · split
   · exact h1.defend.tell tag3
   · exact h1.defend
 · exact h1
theorem Gro.drop (h : Gro e e') {r : Int} : Gro e (cg T e' r) := by
 have h1 : Gro e ((ak T (ah T r)).foldl (drop1 T r) e') := Gro.fold h fun p _ e2 h => by
  unfold drop1
  split
  · exact h
  · exact h.clear.prove
 unfold cg
 dsimp only
 split
 · split
   · exact h1.withE.cls.lose
   · exact h1.withE.cls
 · exact h1
theorem Gro.plusS (h : Gro e e') {q : Int} : Gro e (gP T e' q) := by
 unfold gP
 refine Gro.fold (Gro.fold (h.tell tag3) fun r _ e2 h => ?_) fun p _ e2 h => h.lose
 unfold Fa.plusS1
 dsimp only
 split
 · exact h.met.tell tag1
 · exact h.met
theorem Gro.minusS1 (h : Gro e e') {r : Int} : Gro e (minusS1 T e' r) := by
 unfold Fa.minusS1
 dsimp only
 split
 · exact h
 · split
   · exact h.ref.cls.tell tag2
   · exact h.ref.cls
theorem Gro.minusS (h : Gro e e') {q : Int} : Gro e (d7 T F e' q) := by
 unfold d7
 dsimp only
 have h1 : Gro e ((bw T false q).foldl (Fa.minusS1 T) e') := Gro.fold h fun r _ e2 h => h.minusS1
 refine Gro.disprove ?_
 split
 · exact Gro.fold h1 fun p _ e2 h => h.clear.prove
 · exact h1
theorem Gro.plusD (h : Gro e e') {q : Int} : Gro e (jq T e' q) := by
 unfold jq
 refine Gro.fold h fun r _ e2 h => ?_
 unfold plusD1
 dsimp only
 split
 · exact h.met.use
 · exact h.met
theorem Gro.minusD (h : Gro e e') {q : Int} : Gro e (hG T e' q) := by
 unfold hG
 refine Gro.fold h fun r _ e2 h => ?_
 unfold minusD1
 split
 · exact h
 · exact h.ref.drop
theorem Gro.does (h : Gro e e') {q t : Int} : Gro e (fP T F e' q t) := by
 unfold fP
 split
 · exact h.plusS
 · split
   · exact h.minusS
   · split
     · exact h.plusD
     · exact h.minusD
theorem Gro.bare (h : Gro e e') {j : Nat} : Gro e (bareE T j e') := by
 unfold bareE
 refine Gro.fold h fun r _ e2 h => ?_
 unfold gW
 split
 · exact h.defend
 · exact h
theorem Gro.begin (h : Gro e e') {j : Nat} : Gro e (beginE T F j e') := by
 unfold beginE
 refine Gro.fold (Gro.fold h fun q _ e2 h => ?_) fun q _ e2 h => ?_
 · unfold bZ
   split
   · exact h.tell tag2
   · split
     · exact h.tell tag1
     · exact h
 · unfold du
   refine Gro.disprove (Gro.prove ?_)
   split
   · exact h.tell tag3
   · exact h
structure Cmp (T : Th) (F : List Int) (n : Nat) (K : Int → Int → Bool) (G : dm) (e : Es) : Prop where
 c1 : ∀ r : Nat, r < T.rules.length → aF T kS r = true → e.ms false r = 0 → has e (ah T r) 1 = true
 cf : ∀ q ∈ F, has e q 1 = true
 c2 : ∀ q : Nat, q < n → (q : Int) ∉ F → (∀ r ∈ ag T kS q, e.rf false r = true) → has e q 2 = true
 p3 : P3 T n e
 cb : ∀ t : Nat, t < T.rules.length → aW T t = true → used e t = true → ∀ s ∈ row T.beats t, e.cb s (ah T t) = true
 gr : mz T G e
 gw : ∀ t : Nat, t < T.rules.length → aW T t = true → e.rf true t = true → ∀ s ∈ row T.beats t, G.w t s = true
 gc : ∀ b (r : Nat), r < T.rules.length → aF T (kL b) r = true → e.rf b r = true → G.c b r = true
 c3 : ∀ q, K q 1 = true → has e q 3 = true
 c4 : ∀ q : Nat, q < n → K q 2 = true → (∀ r ∈ ag T kT q, e.rf true r = true) → has e q 4 = true
 co : ∀ q : Nat, q < n → K q 2 = true → ∀ s : Nat, s < T.rules.length → (q : Int) ∈ ak T (ah T s) → used e s = true → e.cd s q = 0 → has e q 4 = true
 cr : ∀ q : Nat, q < n → K q 2 = true → ∀ f ∈ row T.foes q, K f 1 = true → has e q 4 = true
 q2 : ∀ q, K q 2 = true → has e q 2 = true
 q1 : ∀ q, K q 1 = true → has e q 1 = true
theorem Cmp.tem (h : Cmp T F n K G e) (t : Tem e e') (g1 : G'.r = G.r) (g2 : G'.w = G.w) (g3 : G'.c = G.c) (hc1 : ∀ r : Nat, r < T.rules.length → aF T kS r = true → e'.ms false r = 0 → has e' (ah T r) 1 = true) : Cmp T F n K G' e' := by
 have hu : used e' = used e := by funext r; unfold Fa.used; rw [t.mt]
 refine ⟨hc1, fun q hq => t.up _ _ tag1 (h.cf q hq), fun q hq hF hr => t.up _ _ tag2 (h.c2 q hq hF (by rw [t.rf] at hr; exact hr)), h.p3.ms t.mt t.ob fun z hz => t.up _ _ tag3 hz, fun u hu1 ht hus => by rw [t.cb]; rw [hu] at hus; exact h.cb u hu1 ht hus, fun s hs p hp ho => by rw [g1]; rw [t.rf, t.cb] at ho; exact h.gr s hs p hp ho, fun u hu1 ht hr => by rw [g2]; rw [t.rf] at hr; exact h.gw u hu1 ht hr, fun b r hr hk hf => by rw [g3]; rw [t.rf] at hf; exact h.gc b r hr hk hf, fun q hq => t.up _ _ tag3 (h.c3 q hq), fun q hq hK hr => t.up _ _ tag4 (h.c4 q hq hK (by rw [t.rf] at hr; exact hr)), fun q hq hK s hs hr hus hc => t.up _ _ tag4 (h.co q hq hK s hs hr (by rw [hu] at hus; exact hus) (by rw [t.cd] at hc; exact hc)), fun q hq hK f hf hKf => t.up _ _ tag4 (h.cr q hq hK f hf hKf), fun q hq => t.up _ _ tag2 (h.q2 q hq), fun q hq => t.up _ _ tag1 (h.q1 q hq)⟩
theorem Cmp.tem1 (h : Cmp T F n K G e) (t : Tem e e') (hm : e'.ms = e.ms) : Cmp T F n K G e' := h.tem t rfl rfl rfl fun r hr hk h0 => t.up _ _ tag1 (h.c1 r hr hk (by rw [hm] at h0; exact h0))
theorem sj (hby : ∀ q, aU (e.mq q)) {q : Int} : Tem e (aN e q) := by
 unfold aN
 split
 · exact hH hby tag4
 · exact Tem.refl
theorem tell_ms {q t : Int} : (tell e q t).ms = e.ms := by unfold Fa.tell; split <;> rfl
theorem tQ {q : Int} : (aN e q).ms = e.ms := by unfold aN; split; exact tell_ms; rfl
theorem ua (hp : Pf T F n) (hs_ : m) {q : Int} : ∀ (l : List Int) {G : dm} {e : Es}, l.Nodup → (∀ r ∈ l, r ∈ bw T false q) → Iv T F n m G e → Cmp T F n K G e → has e q 1 = true → (∀ r ∈ l, G.a false r q = false) →
    ∃ G', Iv T F n m G' (l.foldl (plusS1 T) e) ∧ Cmp T F n K G' (l.foldl (plusS1 T) e) ∧ Tem e (l.foldl (plusS1 T) e) ∧ (∀ b r x, G'.a b r x = true ↔ G.a b r x = true ∨ (b = false ∧ r ∈ l ∧ x = q)) ∧ G'.n = G.n ∧ G'.f = G.f := by
 intro l
 induction l with
 | nil => intro G e _ _ h hc _ _; exact ⟨G, h, hc, Tem.refl, fun b r x => by simp, rfl, rfl⟩
 | cons r0 l ih =>
  intro G e Ab hl h hc hq ha
  obtain ⟨Aa, Ac⟩ := List.nodup_cons.1 Ab
  obtain ⟨r, rfl, hr, hk, hb⟩ := kH (hl r0 List.mem_cons_self)
  obtain ⟨h1, t1, d1, o1⟩ := h.plusS1 hp hs_ hr hk hb (ha _ List.mem_cons_self) hq
  have mk : ∀ b s x, aM G.a false (cY (G.a false) r q) b s x = true ↔ G.a b s x = true ∨ (b = false ∧ s = (r : Int) ∧ x = q) := fun b s x => by
   by_cases eb : b = false
   · subst eb; rw [aG, cq]; simp
   · rw [aT eb]; simp [eb]
  have c1 : Cmp T F n K { G with a := aM G.a false (cY (G.a false) r q) } (plusS1 T e r) := hc.tem t1 rfl rfl rfl fun u hu hku h0 => by
   by_cases eu : (u : Int) = r
   · rw [eu] at h0 ⊢; exact d1 h0
   · rw [o1 u eu] at h0; exact t1.up _ _ tag1 (hc.c1 u hu hku h0)
  obtain ⟨G2, h2, c2, t2, a2, n2, f2⟩ := ih Ac (fun s hs => hl s (List.mem_cons_of_mem _ hs)) h1 c1 (t1.up _ _ tag1 hq) fun s hs => by
   cases hg : aM G.a false (cY (G.a false) r q) false s q with
   | false => exact hg
   | true =>
    rcases (mk false s q).1 hg with h3 | ⟨-, h3, -⟩
    · rw [ha s (List.mem_cons_of_mem _ hs)] at h3; cases h3
    · exact absurd (h3 ▸ hs) Aa
  refine ⟨G2, h2, c2, t1.trans t2, fun b s x => ?_, n2, f2⟩
  rw [a2]
  show (aM G.a false (cY (G.a false) r q) b s x = true ∨ _) ↔ _
  rw [mk]
  simp only [List.mem_cons]
  constructor
  · rintro ((h | ⟨h1, h2, h3⟩) | ⟨h1, h2, h3⟩)
    · exact .inl h
    · exact .inr ⟨h1, .inl h2, h3⟩
    · exact .inr ⟨h1, .inr h2, h3⟩
  · rintro (h | ⟨h1, h2 | h2, h3⟩)
    · exact .inl (.inl h)
    · exact .inl (.inr ⟨h1, h2, h3⟩)
    · exact .inr ⟨h1, h2, h3⟩
theorem vz (hp : Pf T F n) (hs_ : m) {q : Int} (h0 : 0 ≤ q) (h1 : q < (n : Int)) : ∀ (l : List Int) {e : Es}, (∀ p ∈ l, p ∈ row T.foes q) → Iv T F n m G e → Cmp T F n K G e → has e q 1 = true →
    Iv T F n m G (l.foldl aN e) ∧ Cmp T F n K G (l.foldl aN e) ∧ Tem e (l.foldl aN e) ∧ ∀ p ∈ l, has e p 2 = true → has (l.foldl aN e) p 4 = true := by
 intro l
 induction l with
 | nil => intro e _ h hc _; exact ⟨h, hc, Tem.refl, fun p hp => (by cases hp)⟩
 | cons p0 l ih =>
  intro e hl h hc hq
  obtain ⟨Aa, Ab⟩ := sf hp h0 h1 (hl p0 List.mem_cons_self)
  obtain ⟨p, rfl⟩ := Int.eq_ofNat_of_zero_le Aa
  have t1 := sj h.y (q := (p : Int))
  have i1 := h.lose (q := (p : Int)) fun h2 => rL hp hs_ (by omega) (h.s.mm p 2 Aa Ab tag2 h2) (.inr (.inl ⟨q, cU hp h0 h1 (hl p List.mem_cons_self), h.s.mm q 1 h0 h1 tag1 hq⟩))
  obtain ⟨i2, c2, t2, l2⟩ := ih (fun z hz => hl z (List.mem_cons_of_mem _ hz)) i1 (hc.tem1 t1 tQ) (t1.up _ _ tag1 hq)
  refine ⟨i2, c2, t1.trans t2, fun z hz hz2 => ?_⟩
  rcases List.mem_cons.1 hz with rfl | hz
  · exact t2.up _ _ tag4 (jK h.y hz2)
  · exact l2 z hz (t1.up _ _ tag2 hz2)
end
section
variable {T : Th} {F : List Int} {n k : Nat} {m : Prop} {G G' : dm} {e e' : Es} {K : Int → Int → Bool}
theorem kQ {p : RuleM → Bool} {r : Nat} (hr : r < T.rules.length) (hk : aF T p r = true) : (r : Int) ∈ ag T p (ah T r) := by
 obtain ⟨x, hx⟩ := an hr
 obtain ⟨k1, k2, -⟩ := ed (p := p) hx
 exact cN.2 ⟨r, x, rfl, hx, by rw [← k1]; exact hk, k2.symm⟩
theorem nN {p : RuleM → Bool} {r : Nat} {z : Int} (h : (r : Int) ∈ ag T p z) : r < T.rules.length ∧ ah T r = z ∧ aF T p r = true := by
 obtain ⟨a, e1, ha, hh, hk⟩ := bP h
 have : r = a := by omega
 subst this
 exact ⟨ha, hh, hk⟩
theorem vX (hx : Exa T F n G e) {b : Bool} {r h : Nat} (hh : h < n) (hr : (r : Int) ∈ ag T (kL b) h) (hn : G.c b r = false) (ho : dc T F b h = false) (hall : ∀ t ∈ ag T (kL b) h, t ≠ (r : Int) → G.c b t = true) : e.op b h = 1 := by
 have h1 := hx.op b h hh
 have Aa : (ag T (kL b) (h : Int)).isEmpty = false := by
  cases hl : ag T (kL b) (h : Int) with
  | nil => rw [hl] at hr; cases hr
  | cons _ _ => rfl
 rw [ho, Aa] at h1
 have hm := iz rules_nd hr hn
 have hz : lf (ag T (kL b) (h : Int)) (ar (G.c b) r true) = 0 := dK.2 fun t ht => by
  by_cases e1 : t = (r : Int)
  · rw [e1, aA]
  · rw [aw e1]; exact hall t ht e1
 have h1 : e.op b h = max 1 (lf (ag T (kL b) (h : Int)) (G.c b)) := h1
 omega
theorem rZ (hx : Exa T F n G e) {b : Bool} {h : Int} (hF : b = false → h ∉ F) (hall : ∀ t ∈ ag T (kL b) h, e.rf b t = true) : dc T F b h = false := by
 unfold dc
 rw [Bool.or_eq_false_iff]
 constructor
 · cases hb : je T (kL b) h with
   | false => rfl
   | true =>
    exfalso
    unfold je at hb
    obtain ⟨t, ht, h2⟩ := List.any_eq_true.1 hb
    obtain ⟨a, rfl, ha, -, -⟩ := bP ht
    have h3 := hall a ht
    rw [hx.rf b a ha, List.isEmpty_iff.1 h2] at h3
    cases h3
 · cases b with
   | true => rfl
   | false =>
    have := hF rfl
    simp [this]
theorem Cmp.of (h : Cmp T F n K G e) (us : used e' = used e) (mf : e'.ms false = e.ms false) (rf : e'.rf true = e.rf true) (cb : e'.cb = e.cb) (cd : e'.cd = e.cd) (up : ∀ z t, aq t → has e z t = true → has e' z t = true) (g1 : G'.r = G.r) (g2 : G'.w = G.w)
    (c2 : ∀ q : Nat, q < n → (q : Int) ∉ F → (∀ r ∈ ag T kS q, e'.rf false r = true) → has e' q 2 = true) (p3 : P3 T n e') (gc : ∀ b (r : Nat), r < T.rules.length → aF T (kL b) r = true → e'.rf b r = true → G'.c b r = true) : Cmp T F n K G' e' :=
 ⟨fun r hr hk h0 => up _ _ tag1 (h.c1 r hr hk (by rw [mf] at h0; exact h0)), fun q hq => up _ _ tag1 (h.cf q hq), c2, p3, fun t ht1 ht hu => by rw [cb]; rw [us] at hu; exact h.cb t ht1 ht hu, fun s hs p hp ho => by rw [g1]; rw [rf, cb] at ho; exact h.gr s hs p hp ho, fun t ht1 ht hr => by rw [g2]; rw [rf] at hr; exact h.gw t ht1 ht hr, gc, fun q hq => up _ _ tag3 (h.c3 q hq), fun q hq hK hr => up _ _ tag4 (h.c4 q hq hK (by rw [rf] at hr; exact hr)), fun q hq hK s hs hr hu hc => up _ _ tag4 (h.co q hq hK s hs hr (by rw [us] at hu; exact hu) (by rw [cd] at hc; exact hc)), fun q hq hK f hf hKf => up _ _ tag4 (h.cr q hq hK f hf hKf), fun q hq => up _ _ tag2 (h.q2 q hq), fun q hq => up _ _ tag1 (h.q1 q hq)⟩
theorem ie {g : Bool → Int → Int → Bool} {c b : Bool} {r q s x : Int} : aM g c (cY (g c) r q) b s x = true ↔ g b s x = true ∨ (b = c ∧ s = r ∧ x = q) := by
 by_cases eb : b = c
 · subst eb; rw [aG, cq]; simp
 · rw [aT eb]; simp [eb]
theorem tC {b c : Bool} {r s : Int} (h : ¬ (c = b ∧ s = r)) : (refE e b r).rf c s = e.rf c s := by
 unfold refE
 split
 · rfl
 · show aM e.rf b (ar (e.rf b) r true) c s = e.rf c s
   by_cases ec : c = b
   · subst ec; rw [aG, aw fun e1 => h ⟨rfl, e1⟩]
   · rw [aT ec]
theorem dQ {b : Bool} {r : Int} : (refE e b r).ms = e.ms ∧ (refE e b r).cd = e.cd ∧ (refE e b r).ob = e.ob ∧ (refE e b r).op = e.op ∧ (refE e b r).cb = e.cb ∧ (refE e b r).mq = e.mq := by
 unfold refE
 split <;> exact ⟨rfl, rfl, rfl, rfl, rfl, rfl⟩
theorem fI {b : Bool} {r : Int} : (aI e b r).ms = e.ms ∧ (aI e b r).cd = e.cd ∧ (aI e b r).ob = e.ob ∧ (aI e b r).rf = e.rf ∧ (aI e b r).cb = e.cb ∧ (aI e b r).mq = e.mq := by
 unfold aI
 split <;> exact ⟨rfl, rfl, rfl, rfl, rfl, rfl⟩
theorem Iv.minusS1 (hp : Pf T F n) (hs_ : m) (h : Iv T F n m G e) (hc : Cmp T F n K G e) {r : Nat} {q : Int} (hr : r < T.rules.length) (hk : aF T (kW false) r = true) (hb : q ∈ ax T r) (hq : has e q 2 = true) :
    ∃ G', Iv T F n m G' (minusS1 T e r) ∧ Cmp T F n K G' (minusS1 T e r) ∧ (∀ b s x, G'.n b s x = true ↔ G.n b s x = true ∨ (b = false ∧ s = (r : Int) ∧ x = q)) ∧ G'.a = G.a ∧ G'.f = G.f := by
 have i1 := h.ref (b := false) hr hb hq
 unfold Fa.minusS1
 by_cases hf : e.rf false r = true
 · have e1 : refE e false r = e := by unfold refE; rw [if_pos hf]
   rw [e1] at i1
   rw [if_pos hf]
   exact ⟨_, i1, hc.tem Tem.refl rfl rfl rfl hc.c1, fun b s x => ie, rfl, rfl⟩
 · rw [if_neg hf]
   obtain ⟨hd, Ah, Ad⟩ := fK hp hr
   have Af : (r : Int) ∈ ag T (kL false) hd := by rw [← Ah]; exact kQ hr hk
   have hn : G.c false r = false := by
    cases hg : G.c false r with
    | false => rfl
    | true => exact absurd (h.s.c false r hg) hf
   have i2 := i1.cls hp (b := false) Ad Af hn ul
   dsimp only
   rw [Ah]
   have Ac : ∀ c s, ¬ (c = false ∧ s = (r : Int)) → (aI (refE e false r) false hd).rf c s = e.rf c s := fun c s hcs => by rw [fI.2.2.2.1]; exact tC hcs
   have Ae : (aI (refE e false r) false hd).ms = e.ms := fI.1.trans dQ.1
   have Ag : (aI (refE e false r) false hd).cd = e.cd := fI.2.1.trans dQ.2.1
   have Al : (aI (refE e false r) false hd).ob = e.ob := fI.2.2.1.trans dQ.2.2.1
   have Ai : (aI (refE e false r) false hd).cb = e.cb := fI.2.2.2.2.1.trans dQ.2.2.2.2.1
   have Aa : ∀ z t, has (aI (refE e false r) false hd) z t = has e z t := fun z t => by unfold has; rw [fI.2.2.2.2.2, dQ.2.2.2.2.2]
   have gc : ∀ b (s : Nat), s < T.rules.length → aF T (kL b) s = true → (aI (refE e false r) false hd).rf b s = true → aM G.c false (ar (G.c false) r true) b s = true := fun b s hs hks hfs => by
    by_cases ebs : b = false ∧ (s : Int) = r
    · obtain ⟨rfl, es⟩ := ebs
      rw [aG, es, aA]
    · rw [Ac b s ebs] at hfs
      have := hc.gc b s hs hks hfs
      by_cases eb : b = false
      · subst eb; rw [aG, aw fun e1 => ebs ⟨rfl, e1⟩]; exact this
      · rw [aT eb]; exact this
   have key : ∀ z : Nat, z < n → (z : Int) ∉ F → (∀ s ∈ ag T kS z, (aI (refE e false r) false hd).rf false s = true) → has e z 2 = true ∨ z = hd ∧ ep (refE e false r) false hd = true := fun z hz hF Ab => by
    by_cases ez : z = hd
    · subst ez
      refine .inr ⟨rfl, decide_eq_true (vX i1.x Ad Af hn ?_ fun t ht hne => ?_)⟩
      · exact rZ i1.x (fun _ => hF) fun t ht => by have := Ab t ht; rw [fI.2.2.2.1] at this; exact this
      · obtain ⟨a, rfl, ha, -, An⟩ := bP ht
        have h3 := Ab a ht
        rw [Ac false a fun e1 => hne e1.2] at h3
        exact hc.gc false a ha An h3
    · refine .inl (hc.c2 z hz hF fun s hs => ?_)
      have h3 := Ab s hs
      obtain ⟨a, rfl, ha, Ao, -⟩ := bP hs
      rw [Ac false a fun e1 => ez (by have : a = r := (by omega); subst this; omega)] at h3
      exact h3
   have Ak : ∀ {e2 : Es}, e2.ms = (aI (refE e false r) false hd).ms → used e2 = used e := fun h0 => cM (h0.trans Ae)
   have Aj : ∀ {e2 : Es}, e2.ms = (aI (refE e false r) false hd).ms → e2.ob = (aI (refE e false r) false hd).ob → (∀ z, has e z 3 = true → has e2 z 3 = true) → P3 T n e2 := fun a b c => hc.p3.ms (by rw [a, Ae]) (b.trans Al) c
   by_cases hcb2 : ep (refE e false r) false hd = true
   · rw [if_pos hcb2]
     have Ab := s8 i1.x (b := false) Ad Af hn (of_decide_eq_true hcb2)
     have hF : (hd : Int) ∉ F := fun hm => by
      have := Ab.1
      unfold dc at this
      rw [Bool.or_eq_false_iff] at this
      simp [hm] at this
     have Am : bf T F (Mq n (aI (refE e false r) false hd)) 2 hd = true := F6 hp hs_ i2.x i2.s Ad hF fun t ht => by
      rw [fI.2.2.2.1]
      obtain ⟨a, rfl, ha, -, -⟩ := bP ht
      rcases Ab.2 a ht with h5 | h5
      · rw [h5]; exact ul
      · exact i1.s.c false a h5
     have t3 := il i2.y (q := (hd : Int)) tag2
     refine ⟨_, i2.tell tag2 Am, hc.of (Ak t3.ms) (by rw [t3.ms, Ae]) (by rw [t3.rf]; funext s; exact Ac true s (by simp)) (t3.cb.trans Ai) (eC.2.1.trans Ag) (fun z t ht hz => t3.up z t ht (by rw [Aa]; exact hz)) rfl rfl (fun z hz hFz hall2 => ?_) (Aj t3.ms eC.1 fun z hz => t3.up z 3 tag3 (by rw [Aa]; exact hz)) (fun b s hs hks hfs => gc b s hs hks (by rw [t3.rf] at hfs; exact hfs)), fun b s x => ie, rfl, rfl⟩
     rcases key z hz hFz (by rw [t3.rf] at hall2; exact hall2) with h5 | ⟨h5, -⟩
     · exact t3.up _ _ tag2 (by rw [Aa]; exact h5)
     · rw [h5]; exact fN i2.y tag2
   · rw [if_neg hcb2]
     refine ⟨_, i2, hc.of (Ak rfl) (by rw [Ae]) (by funext s; exact Ac true s (by simp)) Ai Ag (fun z t ht hz => by rw [Aa]; exact hz) rfl rfl (fun z hz hFz hall2 => ?_) (Aj rfl rfl fun z hz => by rw [Aa]; exact hz) gc, fun b s x => ie, rfl, rfl⟩
     rcases key z hz hFz hall2 with h5 | ⟨-, h5⟩
     · rw [Aa]; exact h5
     · exact absurd h5 hcb2
theorem sH (hp : Pf T F n) (hs_ : m) {q : Int} : ∀ (l : List Int) {G : dm} {e : Es}, (∀ r ∈ l, r ∈ bw T false q) → Iv T F n m G e → Cmp T F n K G e → has e q 2 = true →
    ∃ G', Iv T F n m G' (l.foldl (Fa.minusS1 T) e) ∧ Cmp T F n K G' (l.foldl (Fa.minusS1 T) e) ∧ (∀ b s x, G'.n b s x = true ↔ G.n b s x = true ∨ (b = false ∧ s ∈ l ∧ x = q)) ∧ G'.a = G.a ∧ G'.f = G.f := by
 intro l
 induction l with
 | nil => intro G e _ h hc _; exact ⟨G, h, hc, fun b r x => by simp, rfl, rfl⟩
 | cons r0 l ih =>
  intro G e hl h hc hq
  obtain ⟨r, rfl, hr, hk, hb⟩ := kH (hl r0 List.mem_cons_self)
  obtain ⟨G1, i1, c1, n1, a1, f1⟩ := h.minusS1 hp hs_ hc hr hk hb hq
  obtain ⟨G2, i2, c2, n2, a2, f2⟩ := ih (fun s hs => hl s (List.mem_cons_of_mem _ hs)) i1 c1 (((Gro.refl h.y).minusS1 (T := T) (r := r)).up _ _ tag2 hq)
  refine ⟨G2, i2, c2, fun b s x => ?_, a2.trans a1, f2.trans f1⟩
  rw [n2, n1]
  simp only [List.mem_cons]
  constructor
  · rintro ((h | ⟨h1, h2, h3⟩) | ⟨h1, h2, h3⟩)
    · exact .inl h
    · exact .inr ⟨h1, .inl h2, h3⟩
    · exact .inr ⟨h1, .inr h2, h3⟩
  · rintro (h | ⟨h1, h2 | h2, h3⟩)
    · exact .inl (.inl h)
    · exact .inl (.inr ⟨h1, h2, h3⟩)
    · exact .inr ⟨h1, h2, h3⟩
theorem yA (hp : Pf T F n) (hs_ : m) {q : Nat} (hqn : q < n) (hfm : aE T F q = true) : ∀ (l : List Int) {G : dm} {e : Es}, l.Nodup → (∀ p ∈ l, p ∈ ak T q ∧ G.f q p = false) → Iv T F n m G e → Cmp T F n K G e → has e q 2 = true →
    ∃ G', Iv T F n m G' (l.foldl (jE T) e) ∧ Cmp T F n K G' (l.foldl (jE T) e) ∧ (∀ f p, G'.f f p = true ↔ G.f f p = true ∨ (f = (q : Int) ∧ p ∈ l)) ∧ G'.a = G.a ∧ G'.n = G.n := by
 intro l
 induction l with
 | nil => intro G e _ _ h hc _; exact ⟨G, h, hc, fun f p => by simp, rfl, rfl⟩
 | cons p0 l ih =>
  intro G e Ae hl h hc hq
  obtain ⟨Af, Ab⟩ := List.nodup_cons.1 Ae
  obtain ⟨Aa, hg⟩ := hl p0 List.mem_cons_self
  obtain ⟨Ad, Ag⟩ := ir hp hqn Aa
  obtain ⟨p, rfl⟩ := Int.eq_ofNat_of_zero_le Ad
  obtain ⟨Ac, ht⟩ := cW.1 Aa
  have i1 := h.clearF hp (show p < n by omega) (cU hp (by omega) (by omega) Ac) hfm hg ht hq
  obtain ⟨i2, t2, o2, c2, p2, v2⟩ := i1.prove hp hs_ (show p < n by omega)
  have k1 : Tel e (cT e p) := ⟨rfl, rfl, rfl, rfl, fun _ _ _ hz => hz, [], by simp [cT]⟩
  have t3 := k1.trans t2
  have cc : Cmp T F n K { G with f := cY G.f q p } (bF T (cT e p) p) := hc.of (cM t3.ms) (by rw [t3.ms]) (by rw [t3.rf]) t3.cb (by rw [c2]; rfl) t3.up rfl rfl (fun z hz hF hr => t3.up _ _ tag2 (hc.c2 z hz hF (by rw [t3.rf] at hr; exact hr))) (fun z hz hu h0 => by
   rw [cM t3.ms] at hu
   rw [o2] at h0
   by_cases ez : z = p
   · subst ez; exact v2 hu h0
   · refine t3.up _ _ tag3 (hc.p3 z hz hu ?_)
     have h0 : ar e.ob p (dt (e.ob p)) z = 0 := h0
     rw [aw (by omega)] at h0
     exact h0) fun b s hs hk hf => by rw [t3.rf] at hf; exact hc.gc b s hs hk hf
  obtain ⟨G2, j2, d2, f2, a2, n2⟩ := ih (e := jE T e p) Ab (fun z hz => ⟨(hl z (List.mem_cons_of_mem _ hz)).1, by
   cases hg2 : cY G.f q p q z with
   | false => exact hg2
   | true =>
    rcases cq.1 hg2 with h5 | ⟨-, h5⟩
    · rw [(hl z (List.mem_cons_of_mem _ hz)).2] at h5; cases h5
    · exact absurd (h5 ▸ hz) Af⟩) i2 cc (t3.up _ _ tag2 hq)
  refine ⟨G2, j2, d2, fun f z => ?_, a2, n2⟩
  rw [f2]
  show (cY G.f q p f z = true ∨ _) ↔ _
  rw [cq]
  simp only [List.mem_cons]
  constructor
  · rintro ((h | ⟨h1, h2⟩) | ⟨h1, h2⟩)
    · exact .inl h
    · exact .inr ⟨h1, .inl h2⟩
    · exact .inr ⟨h1, .inr h2⟩
  · rintro (h | ⟨h1, h2 | h2⟩)
    · exact .inl (.inl h)
    · exact .inl (.inr ⟨h1, h2⟩)
    · exact .inr ⟨h1, h2⟩
theorem Iv.disprove (hp : Pf T F n) (hs_ : m) (h : Iv T F n m G e) {q : Nat} (hq : q < n) : Iv T F n m G (aJ T e q) ∧ Tem e (aJ T e q) ∧ (aJ T e q).ms = e.ms ∧ ((gQ T e q || jd T e q || ja T e q) = true → has e q 2 = true → has (aJ T e q) q 4 = true) := by
 unfold aJ
 by_cases hc : (gQ T e q || jd T e q || ja T e q) = true
 · rw [if_pos hc]
   refine ⟨h.lose fun h2 => ?_, sj h.y, tQ, fun _ h2 => jK h.y h2⟩
   have Ad := h.s.mm q 2 (by omega) (by omega) tag2 h2
   rw [Bool.or_eq_true, Bool.or_eq_true] at hc
   have Aa : (∀ r ∈ ag T kT q, e.rf true r = true) → bf T F (Mq n e) 4 q = true := fun hall => rL hp hs_ hq Ad (.inl fun r hr => by
    obtain ⟨a, rfl, ha, -, -⟩ := bP hr
    exact h.s.part hp h.x (b := true) ha (hall a hr))
   rcases hc with (hc | hc) | hc
   · refine Aa fun r hr => ?_
     unfold gQ at hc
     rw [Bool.not_eq_true', List.any_eq_false] at hc
     have := hc r hr
     unfold dropped at this
     simpa using this
   · unfold jd at hc
     obtain ⟨f, hf, Ac⟩ := List.any_eq_true.1 hc
     obtain ⟨f0, f1⟩ := hp.foe q hq f hf
     exact rL hp hs_ hq Ad (.inr (.inl ⟨f, hf, h.s.mm f 1 f0 f1 tag1 Ac⟩))
   · unfold ja at hc
     obtain ⟨f, hf, Ac⟩ := List.any_eq_true.1 hc
     obtain ⟨s, Af, Ab⟩ := List.any_eq_true.1 Ac
     rw [Bool.and_eq_true] at Ab
     obtain ⟨a, rfl, ha, Ae, -⟩ := bP Af
     by_cases ht : ag T kT (q : Int) = []
     · exact Aa fun r hr => by rw [ht] at hr; cases hr
     · exact h.over hp hs_ hq ha (cW.2 ⟨by rw [Ae]; exact cU hp (by omega) (by omega) hf, ht⟩) Ab.1 (of_decide_eq_true Ab.2) h2
 · rw [if_neg hc]
   exact ⟨h, Tem.refl, rfl, fun h2 => absurd h2 hc⟩
end
section
variable {T : Th} {F : List Int} {n k : Nat} {m : Prop} {G G' : dm} {e e' : Es} {K : Int → Int → Bool}
theorem Iv.plusD1 (hp : Pf T F n) (hs_ : m) (h : Iv T F n m G e) (hc : Cmp T F n K G e) {r : Nat} {q : Int} (hr : r < T.rules.length) (hb : q ∈ ax T r) (hn : G.a true r q = false) (hq : has e q 3 = true) :
    ∃ G', Iv T F n m G' (plusD1 T e r) ∧ Cmp T F n K G' (plusD1 T e r) ∧ (∀ b s x, G'.a b s x = true ↔ G.a b s x = true ∨ (b = true ∧ s = (r : Int) ∧ x = q)) ∧ G'.n = G.n ∧ G'.f = G.f := by
 have i1 := h.met hp (b := true) hr (iq hr) hb hn hq
 have Ac : ∀ s, s ≠ (r : Int) → used (bO e true r) s = used e s := fun s hs => by
  unfold Fa.used
  show decide (aM e.ms true (ar (e.ms true) r (dt (e.ms true r))) true s = 0) = _
  rw [aG, aw hs]
 have Ad : (bO e true r).ms false = e.ms false := by
  show aM e.ms true (ar (e.ms true) r (dt (e.ms true r))) false = e.ms false
  rw [aT (by decide)]
 have Af : used e r = false := by
  cases hu : used e r with
  | false => rfl
  | true => have := (h.x.used hr).1 hu q hb; rw [hn] at this; cases this
 unfold Fa.plusD1
 dsimp only
 by_cases h0 : (bO e true r).ms true r = 0
 · rw [if_pos h0]
   have Ah : used (bO e true r) r = true := decide_eq_true h0
   have Aa : ∀ z : Nat, (r : Int) ∉ ag T kT z → (ag T kT z).any (used (bO e true r)) = true → (ag T kT z).any (used e) = true := fun z hz ha => by
    obtain ⟨t, ht, Ab⟩ := List.any_eq_true.1 ha
    exact List.any_eq_true.2 ⟨t, ht, by rw [← Ac t fun e1 => hz (e1 ▸ ht)]; exact Ab⟩
   obtain ⟨G2, i2, p2, g2, m2, f2, d2, o2, k2, u2, -, b2, Ag, Ai, r2⟩ := i1.use hp hs_ hr Ah (fun z hz hne ha hz0 => hc.p3 z hz (Aa z (fun hm => hne (by rw [(nN hm).2.1])) ha) hz0) (fun ht z hz ha hz0 => hc.p3 z hz (Aa z (fun hm => by rw [show aW T r = aF T kT r from rfl, (nN hm).2.2] at ht; cases ht) ha) hz0)
   have Ae : ∀ s, s ≠ (r : Int) → used (da T (bO e true r) r) s = true → used e s = true := fun s hs h3 => by
    rw [cM m2, Ac s hs] at h3; exact h3
   refine ⟨G2, i2, ⟨fun s hs hk h3 => u2 _ _ tag1 (hc.c1 s hs hk (by rw [m2, Ad] at h3; exact h3)), fun z hz => u2 _ _ tag1 (hc.cf z hz), fun z hz hF hall => u2 _ _ tag2 (hc.c2 z hz hF (by rw [f2] at hall; exact hall)), p2, fun t ht1 ht Ab s hs => ?_, r2 hc.gr, fun t ht1 ht hf s hs => by rw [g2.w]; rw [f2] at hf; exact hc.gw t ht1 ht hf s hs, fun b s hs hk hf => by rw [g2.c]; rw [f2] at hf; exact hc.gc b s hs hk hf, fun z hz => u2 _ _ tag3 (hc.c3 z hz), fun z hz hK hall => u2 _ _ tag4 (hc.c4 z hz hK (by rw [f2] at hall; exact hall)), fun z hz hK s hs hrv Ab hcd => ?_, fun z hz hK f hf hKf => u2 _ _ tag4 (hc.cr z hz hK f hf hKf), fun z hz => u2 _ _ tag2 (hc.q2 z hz), fun z hz => u2 _ _ tag1 (hc.q1 z hz)⟩, fun b s x => by rw [g2.a]; exact ie, g2.n, g2.f⟩
   · by_cases et : (t : Int) = r
     · have : t = r := by omega
       subst this
       exact Ag ht s hs
     · exact b2 _ _ (hc.cb t ht1 ht (Ae t et Ab) s hs)
   · rw [d2] at hcd
     by_cases et : (s : Int) = r
     · have : s = r := by omega
       subst this
       exact Ai _ hrv hcd (hc.q2 _ hK)
     · exact u2 _ _ tag4 (hc.co z hz hK s hs hrv (Ae s et Ab) hcd)
 · rw [if_neg h0]
   have us : used (bO e true r) = used e := by
    funext s
    by_cases es : s = (r : Int)
    · rw [es, Af]; exact decide_eq_false h0
    · exact Ac s es
   refine ⟨_, i1, hc.of us Ad rfl rfl rfl (fun _ _ _ hz => hz) rfl rfl hc.c2 (fun z hz ha hz0 => hc.p3 z hz (by rw [us] at ha; exact ha) hz0) hc.gc, fun b s x => ie, rfl, rfl⟩
theorem ub (hp : Pf T F n) (hs_ : m) {q : Int} : ∀ (l : List Int) {G : dm} {e : Es}, l.Nodup → (∀ r ∈ l, r ∈ bw T true q ∧ G.a true r q = false) → Iv T F n m G e → Cmp T F n K G e → has e q 3 = true →
    ∃ G', Iv T F n m G' (l.foldl (Fa.plusD1 T) e) ∧ Cmp T F n K G' (l.foldl (Fa.plusD1 T) e) ∧ (∀ b s x, G'.a b s x = true ↔ G.a b s x = true ∨ (b = true ∧ s ∈ l ∧ x = q)) ∧ G'.n = G.n ∧ G'.f = G.f := by
 intro l
 induction l with
 | nil => intro G e _ _ h hc _; exact ⟨G, h, hc, fun b r x => by simp, rfl, rfl⟩
 | cons r0 l ih =>
  intro G e Ab hl h hc hq
  obtain ⟨Aa, Ac⟩ := List.nodup_cons.1 Ab
  obtain ⟨r, rfl, hr, hk, hb⟩ := kH (hl r0 List.mem_cons_self).1
  obtain ⟨G1, i1, c1, a1, n1, f1⟩ := h.plusD1 hp hs_ hc hr hb (hl r List.mem_cons_self).2 hq
  have hg : Gro e (Fa.plusD1 T e r) := by
   unfold Fa.plusD1
   dsimp only
   split
   · exact (Gro.refl h.y).met.use
   · exact (Gro.refl h.y).met
  obtain ⟨G2, i2, c2, a2, n2, f2⟩ := ih Ac (fun s hs => ⟨(hl s (List.mem_cons_of_mem _ hs)).1, by
   cases hg : G1.a true s q with
   | false => rfl
   | true =>
    rcases (a1 true s q).1 hg with h3 | ⟨-, h3, -⟩
    · rw [(hl s (List.mem_cons_of_mem _ hs)).2] at h3; cases h3
    · exact absurd (h3 ▸ hs) Aa⟩) i1 c1 (hg.up _ _ tag3 hq)
  refine ⟨G2, i2, c2, fun b s x => ?_, n2.trans n1, f2.trans f1⟩
  rw [a2, a1]
  simp only [List.mem_cons]
  constructor
  · rintro ((h | ⟨h1, h2, h3⟩) | ⟨h1, h2, h3⟩)
    · exact .inl h
    · exact .inr ⟨h1, .inl h2, h3⟩
    · exact .inr ⟨h1, .inr h2, h3⟩
  · rintro (h | ⟨h1, h2 | h2, h3⟩)
    · exact .inl (.inl h)
    · exact .inl (.inr ⟨h1, h2, h3⟩)
    · exact .inr ⟨h1, h2, h3⟩
theorem Iv.minusD1 (hp : Pf T F n) (hs_ : m) (h : Iv T F n m G e) (hc : Cmp T F n K G e) {r : Nat} {q : Int} (hr : r < T.rules.length) (hb : q ∈ ax T r) (hq : has e q 4 = true) :
    ∃ G', Iv T F n m G' (minusD1 T e r) ∧ Cmp T F n K G' (minusD1 T e r) ∧ (∀ b s x, G'.n b s x = true ↔ G.n b s x = true ∨ (b = true ∧ s = (r : Int) ∧ x = q)) ∧ G'.a = G.a ∧ G'.f = G.f := by
 have i1 := h.ref (b := true) hr hb hq
 unfold Fa.minusD1
 by_cases hf : e.rf true r = true
 · have e1 : refE e true r = e := by unfold refE; rw [if_pos hf]
   rw [e1] at i1
   rw [if_pos hf]
   exact ⟨_, i1, hc.tem Tem.refl rfl rfl rfl hc.c1, fun b s x => ie, rfl, rfl⟩
 · rw [if_neg hf]
   have Aa : (refE e true r).cb = e.cb := dQ.2.2.2.2.1
   have Ab : ∀ z t, has (refE e true r) z t = has e z t := fun z t => kI
   have p1 : P3 T n (refE e true r) := hc.p3.ms (by rw [dQ.1]) dQ.2.2.1 fun z hz => by rw [Ab]; exact hz
   obtain ⟨G2, i2, t2, p2, a2, n2, f2, r2, w2, c2, Af, Al, Ae, Ag, Ai, Ah⟩ := i1.drop hp hs_ p1 hr ul (fun z hz hcz => by
       cases hg : G.r r z with
       | false => rfl
       | true =>
        rcases h.s.r r z hg with h5 | h5
        · exact absurd h5 hf
        · rw [Aa, h5] at hcz; cases hcz) (fun s hs => by
       cases hg : G.w r s with
       | false => rfl
       | true => exact absurd (h.s.w r s hg) hf) (by
       cases hg : G.c true r with
       | false => rfl
       | true => exact absurd (h.s.c true r hg) hf)
   have up : ∀ z t, aq t → has e z t = true → has (cg T (refE e true r) r) z t = true := fun z t ht hz => t2.up z t ht (by rw [Ab]; exact hz)
   have ms' : (cg T (refE e true r) r).ms = e.ms := t2.ms.trans dQ.1
   have us' : used (cg T (refE e true r) r) = used e := cM ms'
   have cb' : (cg T (refE e true r) r).cb = e.cb := t2.cb.trans Aa
   have rf' : ∀ b s, ¬ (b = true ∧ s = (r : Int)) → (cg T (refE e true r) r).rf b s = e.rf b s := fun b s hbs => by rw [t2.rf]; exact tC hbs
   obtain ⟨hd, Am, An⟩ := fK hp hr
   refine ⟨G2, i2, ⟨fun s hs hk h3 => up _ _ tag1 (hc.c1 s hs hk (by rw [ms'] at h3; exact h3)), fun z hz => up _ _ tag1 (hc.cf z hz), fun z hz hF hall => up _ _ tag2 (hc.c2 z hz hF fun s hs => by have := hall s hs; rw [rf' false s (by simp)] at this; exact this), p2, fun t ht1 ht hut s hs => by rw [cb']; rw [us'] at hut; exact hc.cb t ht1 ht hut s hs, fun s hs z hz ho => ?_, fun t ht1 ht hft s hs => ?_, fun b s hs hk hfs => ?_, fun z hz => up _ _ tag3 (hc.c3 z hz), fun z hz hK hall => ?_, fun z hz hK s hs hrv hut hcd => ?_, fun z hz hK f hf2 hKf => up _ _ tag4 (hc.cr z hz hK f hf2 hKf), fun z hz => up _ _ tag2 (hc.q2 z hz), fun z hz => up _ _ tag1 (hc.q1 z hz)⟩, fun b s x => by rw [n2]; exact ie, a2, f2⟩
   · by_cases es : (s : Int) = r
     · have : s = r := by omega
       subst this
       cases hcz : e.cb s z with
       | false => exact Al z hz (by rw [Aa]; exact hcz)
       | true => exact r2 _ _ (hc.gr s hs z hz (.inr hcz))
     · rw [rf' true s fun e1 => es e1.2, cb'] at ho
       exact r2 _ _ (hc.gr s hs z hz ho)
   · by_cases es : (t : Int) = r
     · have : t = r := by omega
       subst this
       exact (Ae ht).1 s hs
     · rw [rf' true t fun e1 => es e1.2] at hft
       exact w2 _ _ (hc.gw t ht1 ht hft s hs)
   · cases b with
     | false =>
      rw [Af]
      rw [rf' false s (by simp)] at hfs
      exact hc.gc false s hs hk hfs
     | true =>
      by_cases es : (s : Int) = r
      · have : s = r := by omega
        subst this
        exact (Ae hk).2
      · rw [rf' true s fun e1 => es e1.2] at hfs
        exact c2 _ (hc.gc true s hs hk hfs)
   · by_cases hm : (r : Int) ∈ ag T kT z
     · obtain ⟨-, Ad, Ak⟩ := nN hm
       have Ac : (z : Int) = ah T r := Ad.symm
       have ht : aW T r = true := Ak
       rw [Ac]
       refine Ag ht ?_ (by rw [Ab, ← Ac]; exact hc.q2 z hK)
       rw [Ad]
       refine vX i1.x (b := true) hz hm (by
        show G.c true r = false
        cases hg : G.c true r with
        | false => rfl
        | true => exact absurd (h.s.c true r hg) hf) (rZ i1.x (fun h5 => by cases h5) fun t htm => by rw [← t2.rf]; exact hall t htm) fun t htm hne => ?_
       obtain ⟨a, rfl, ha, -, Aj⟩ := bP htm
       have h3 := hall a htm
       rw [rf' true a fun e1 => hne e1.2] at h3
       exact hc.gc true a ha Aj h3
     · refine up _ _ tag4 (hc.c4 z hz hK fun t htm => ?_)
       have h3 := hall t htm
       rw [rf' true t fun e1 => hm (e1.2 ▸ htm)] at h3
       exact h3
   · rw [us'] at hut
     by_cases hcase : (z : Int) ≠ ah T r ∨ (s : Int) ∉ row T.beats r ∨ aW T r = false
     · rw [Ai s z hcase, dQ.2.1] at hcd
       exact up _ _ tag4 (hc.co z hz hK s hs hrv hut hcd)
     · have h5 : (z : Int) = ah T r := Classical.byContradiction fun h5 => hcase (.inl h5)
       have h6 : (s : Int) ∈ row T.beats r := Classical.byContradiction fun h6 => hcase (.inr (.inl h6))
       have h7 : aW T r = true := by cases h7 : aW T r; exact absurd (.inr (.inr h7)) hcase; rfl
       rw [h5] at hcd hK ⊢
       exact Ah h7 s h6 hcd (by rw [cM dQ.1]; exact hut) (by rw [Ab]; exact hc.q2 _ hK)
theorem sN (hp : Pf T F n) (hs_ : m) {q : Int} : ∀ (l : List Int) {G : dm} {e : Es}, (∀ r ∈ l, r ∈ bw T true q) → Iv T F n m G e → Cmp T F n K G e → has e q 4 = true →
    ∃ G', Iv T F n m G' (l.foldl (Fa.minusD1 T) e) ∧ Cmp T F n K G' (l.foldl (Fa.minusD1 T) e) ∧ (∀ b s x, G'.n b s x = true ↔ G.n b s x = true ∨ (b = true ∧ s ∈ l ∧ x = q)) ∧ G'.a = G.a ∧ G'.f = G.f := by
 intro l
 induction l with
 | nil => intro G e _ h hc _; exact ⟨G, h, hc, fun b r x => by simp, rfl, rfl⟩
 | cons r0 l ih =>
  intro G e hl h hc hq
  obtain ⟨r, rfl, hr, hk, hb⟩ := kH (hl r0 List.mem_cons_self)
  obtain ⟨G1, i1, c1, n1, a1, f1⟩ := h.minusD1 hp hs_ hc hr hb hq
  have hg : Gro e (Fa.minusD1 T e r) := by
   unfold Fa.minusD1
   split
   · exact Gro.refl h.y
   · exact (Gro.refl h.y).ref.drop
  obtain ⟨G2, i2, c2, n2, a2, f2⟩ := ih (fun s hs => hl s (List.mem_cons_of_mem _ hs)) i1 c1 (hg.up _ _ tag4 hq)
  refine ⟨G2, i2, c2, fun b s x => ?_, a2.trans a1, f2.trans f1⟩
  rw [n2, n1]
  simp only [List.mem_cons]
  constructor
  · rintro ((h | ⟨h1, h2, h3⟩) | ⟨h1, h2, h3⟩)
    · exact .inl h
    · exact .inr ⟨h1, .inl h2, h3⟩
    · exact .inr ⟨h1, .inr h2, h3⟩
  · rintro (h | ⟨h1, h2 | h2, h3⟩)
    · exact .inl (.inl h)
    · exact .inl (.inr ⟨h1, h2, h3⟩)
    · exact .inr ⟨h1, h2, h3⟩
end
def aY (K : Int → Int → Bool) (q t : Int) : Int → Int → Bool := fun z u => K z u || decide (z = q ∧ u = t)
section
variable {T : Th} {F : List Int} {n k : Nat} {m : Prop} {G G' : dm} {e e' : Es} {K : Int → Int → Bool}
theorem dP {q t z u : Int} : aY K q t z u = true ↔ K z u = true ∨ (z = q ∧ u = t) := by unfold aY; simp
theorem gn {q t z u : Int} (h : u ≠ t) : aY K q t z u = K z u := by unfold aY; simp [h]
theorem Cmp.k34 (h : Cmp T F n K G e) {q t : Int} (h1 : t ≠ 1) (h2 : t ≠ 2) : Cmp T F n (aY K q t) G e := by
 have e1 : ∀ z, aY K q t z 1 = K z 1 := fun z => gn (Ne.symm h1)
 have e2 : ∀ z, aY K q t z 2 = K z 2 := fun z => gn (Ne.symm h2)
 exact ⟨h.c1, h.cf, h.c2, h.p3, h.cb, h.gr, h.gw, h.gc, fun z hz => h.c3 z (by rw [e1] at hz; exact hz), fun z hz hK => h.c4 z hz (by rw [e2] at hK; exact hK), fun z hz hK => h.co z hz (by rw [e2] at hK; exact hK), fun z hz hK f hf hKf => h.cr z hz (by rw [e2] at hK; exact hK) f hf (by rw [e1] at hKf; exact hKf), fun z hz => h.q2 z (by rw [e2] at hz; exact hz), fun z hz => h.q1 z (by rw [e1] at hz; exact hz)⟩
theorem Cmp.k1 (h : Cmp T F n K G e) {q : Int} (h1 : has e q 1 = true) (h3 : has e q 3 = true) (h4 : ∀ z : Nat, z < n → K z 2 = true → q ∈ row T.foes z → has e z 4 = true) : Cmp T F n (aY K q 1) G e := by
 have e2 : ∀ z, aY K q 1 z 2 = K z 2 := fun z => gn (by decide)
 refine ⟨h.c1, h.cf, h.c2, h.p3, h.cb, h.gr, h.gw, h.gc, fun z hz => ?_, fun z hz hK => h.c4 z hz (by rw [e2] at hK; exact hK), fun z hz hK => h.co z hz (by rw [e2] at hK; exact hK), fun z hz hK f hf hKf => ?_, fun z hz => h.q2 z (by rw [e2] at hz; exact hz), fun z hz => ?_⟩
 · rcases dP.1 hz with h5 | ⟨rfl, -⟩
   · exact h.c3 z h5
   · exact h3
 · rw [e2] at hK
   rcases dP.1 hKf with h5 | ⟨rfl, -⟩
   · exact h.cr z hz hK f hf h5
   · exact h4 z hz hK hf
 · rcases dP.1 hz with h5 | ⟨rfl, -⟩
   · exact h.q1 z h5
   · exact h1
theorem Cmp.k2 (h : Cmp T F n K G e) {q : Nat} (h2 : has e q 2 = true) (h4 : (∀ r ∈ ag T kT q, e.rf true r = true) → has e q 4 = true) (ho : ∀ s : Nat, s < T.rules.length → (q : Int) ∈ ak T (ah T s) → used e s = true → e.cd s q = 0 → has e q 4 = true) (hr : ∀ f ∈ row T.foes q, K f 1 = true → has e q 4 = true) : Cmp T F n (aY K q 2) G e := by
 have e1 : ∀ z, aY K q 2 z 1 = K z 1 := fun z => gn (by decide)
 refine ⟨h.c1, h.cf, h.c2, h.p3, h.cb, h.gr, h.gw, h.gc, fun z hz => h.c3 z (by rw [e1] at hz; exact hz), fun z hz hK => ?_, fun z hz hK => ?_, fun z hz hK f hf hKf => ?_, fun z hz => ?_, fun z hz => h.q1 z (by rw [e1] at hz; exact hz)⟩
 · rcases dP.1 hK with h5 | ⟨h5, -⟩
   · exact h.c4 z hz h5
   · rw [h5]; exact h4
 · rcases dP.1 hK with h5 | ⟨h5, -⟩
   · exact h.co z hz h5
   · rw [h5]; exact ho
 · rw [e1] at hKf
   rcases dP.1 hK with h5 | ⟨h5, -⟩
   · exact h.cr z hz h5 f hf hKf
   · rw [h5] at hf ⊢; exact hr f hf hKf
 · rcases dP.1 hz with h5 | ⟨h5, -⟩
   · exact h.q2 z h5
   · rw [h5]; exact h2
structure Tie (T : Th) (F : List Int) (K : Int → Int → Bool) (G : dm) : Prop where
 a : ∀ b (r : Nat) x, r < T.rules.length → aF T (kW b) r = true → x ∈ ax T r → (G.a b r x = true ↔ K x (tp b) = true)
 n : ∀ b (r : Nat) x, r < T.rules.length → aF T (kW b) r = true → x ∈ ax T r → (G.n b r x = true ↔ K x (tn b) = true)
 f : ∀ f p, aE T F f = true → p ∈ ak T f → (G.f f p = true ↔ K f 2 = true)
theorem Tie.addA (h : Tie T F K G) {b0 : Bool} {q : Int} (ha : ∀ b r x, G'.a b r x = true ↔ G.a b r x = true ∨ (b = b0 ∧ r ∈ bw T b0 q ∧ x = q)) (hn : G'.n = G.n) (hf : G'.f = G.f) : Tie T F (aY K q (tp b0)) G' := by
 refine ⟨fun b r x hr hk hx => ?_, fun b r x hr hk hx => ?_, fun f p h1 h2 => ?_⟩
 · rw [ha, h.a b r x hr hk hx, dP]
   constructor
   · rintro (h1 | ⟨rfl, -, h2⟩)
     · exact .inl h1
     · exact .inr ⟨h2, rfl⟩
   · rintro (h1 | ⟨rfl, h2⟩)
     · exact .inl h1
     · have eb : b = b0 := by revert h2; cases b <;> cases b0 <;> decide
       subst eb
       exact .inr ⟨rfl, rT hr hk hx, rfl⟩
 · rw [hn, h.n b r x hr hk hx, gn (by cases b <;> cases b0 <;> decide)]
 · rw [hf, h.f f p h1 h2, gn (by cases b0 <;> decide)]
theorem Tie.addN (h : Tie T F K G) {b0 : Bool} {q : Int} (hn : ∀ b r x, G'.n b r x = true ↔ G.n b r x = true ∨ (b = b0 ∧ r ∈ bw T b0 q ∧ x = q)) (ha : G'.a = G.a) (hf : ∀ f p, aE T F f = true → p ∈ ak T f → (G'.f f p = true ↔ aY K q (tn b0) f 2 = true)) : Tie T F (aY K q (tn b0)) G' := by
 refine ⟨fun b r x hr hk hx => ?_, fun b r x hr hk hx => ?_, hf⟩
 · rw [ha, h.a b r x hr hk hx, gn (by cases b <;> cases b0 <;> decide)]
 · rw [hn, h.n b r x hr hk hx, dP]
   constructor
   · rintro (h1 | ⟨rfl, -, h2⟩)
     · exact .inl h1
     · exact .inr ⟨h2, rfl⟩
   · rintro (h1 | ⟨rfl, h2⟩)
     · exact .inl h1
     · have eb : b = b0 := by revert h2; cases b <;> cases b0 <;> decide
       subst eb
       exact .inr ⟨rfl, rT hr hk hx, rfl⟩
def jp (e : Es) : Int → Int → Bool := fun z u => decide ((z, u) ∈ e.td.take e.tk)
structure nV (T : Th) (F : List Int) (n : Nat) (m : List Int) (e : Es) : Prop where
 iv : ∃ G, Iv T F n True G e ∧ Cmp T F n (jp e) G e ∧ Tie T F (jp e) G
 sm : ∀ q, e.mq q < 16
 td : ∀ z t, aq t → has e z t = true → (z, t) ∈ e.td
theorem xB (hp : Pf T F n) (hs_ : m) (h : Iv T F n m G e) (hc : Cmp T F n K G e) (ht : Tie T F K G) {q : Nat} {t : Int} (hq : q < n) (htag : aq t) (hh : has e q t = true) (hK : K q t = false) : ∃ G', Iv T F n m G' (fP T F e q t) ∧ Cmp T F n (aY K q t) G' (fP T F e q t) ∧ Tie T F (aY K q t) G' := by
 have Ab : ∀ b, t = tp b → ∀ r ∈ bw T b q, G.a b r q = false := fun b hb r hr => by
  obtain ⟨a, rfl, ha, hk, hx⟩ := kH hr
  cases hg : G.a b a q with
  | false => rfl
  | true => have := (ht.a b a q ha hk hx).1 hg; rw [← hb, hK] at this; cases this
 rcases htag with rfl | rfl | rfl | rfl
 · show ∃ G', Iv T F n m G' (gP T e q) ∧ Cmp T F n (aY K q 1) G' (gP T e q) ∧ Tie T F (aY K q 1) G'
   have Af := h.s.mm q 1 (by omega) (by omega) tag1 hh
   have Ae : bf T F (Mq n e) 3 q = true := cond3.trans (fE.2 (.inl Af))
   have t0 := hH h.y (q := (q : Int)) tag3
   obtain ⟨G1, i1, c1, t1, a1, n1, f1⟩ := ua hp hs_ (q := (q : Int)) (bw T false q) re (fun _ h => h) (h.tell tag3 Ae) (hc.tem1 t0 tell_ms) (t0.up _ _ tag1 hh) (Ab false rfl)
   obtain ⟨i2, c2, t2, l2⟩ := vz hp hs_ (q := (q : Int)) (by omega) (by omega) (row T.foes q) (fun _ h => h) i1 c1 (t1.up _ _ tag1 (t0.up _ _ tag1 hh))
   refine ⟨G1, i2, c2.k1 (t2.up _ _ tag1 (t1.up _ _ tag1 (t0.up _ _ tag1 hh))) (t2.up _ _ tag3 (t1.up _ _ tag3 (fN h.y tag3))) fun z hz hKz hf => ?_, ht.addA (b0 := false) a1 n1 f1⟩
   exact l2 z (cU hp (by omega) (by omega) hf) (c1.q2 z hKz)
 · show ∃ G', Iv T F n m G' (d7 T F e q) ∧ Cmp T F n (aY K q 2) G' (d7 T F e q) ∧ Tie T F (aY K q 2) G'
   unfold d7
   dsimp only
   obtain ⟨G1, i1, c1, n1, a1, f1⟩ := sH hp hs_ (q := (q : Int)) (bw T false q) (fun _ h => h) h hc hh
   have Aa : has ((bw T false q).foldl (Fa.minusS1 T) e) q 2 = true := (Gro.fold (Gro.refl h.y) fun r _ e2 h => h.minusS1 : Gro e ((bw T false q).foldl (Fa.minusS1 T) e)).up _ _ tag2 hh
   have Ad : ∀ {G2 : dm} {e2 : Es}, Iv T F n m G2 e2 → Cmp T F n K G2 e2 → has e2 q 2 = true → Iv T F n m G2 (aJ T e2 q) ∧ Cmp T F n (aY K q 2) G2 (aJ T e2 q) := fun {G2 e2} i2 c2 h2 => by
    obtain ⟨i3, t3, m3, d3⟩ := i2.disprove hp hs_ hq
    refine ⟨i3, (c2.tem1 t3 m3).k2 (t3.up _ _ tag2 h2) (fun hall => d3 ?_ h2) (fun s hs hrv hu hcd => d3 ?_ h2) fun f hf hKf => d3 ?_ h2⟩
    · rw [t3.rf] at hall
      have : gQ T e2 q = true := by
       unfold gQ
       rw [Bool.not_eq_true', List.any_eq_false]
       intro r hr
       unfold dropped
       rw [hall r hr]
       decide
      rw [this]
      rfl
    · have : ja T e2 q = true := by
       unfold ja
       obtain ⟨Ag, -⟩ := cW.1 hrv
       obtain ⟨x, hx, Ac, x0, x1⟩ := dp hp hs
       refine List.any_eq_true.2 ⟨ah T s, cU hp (by rw [Ac]; exact x0) (by rw [Ac]; exact x1) Ag, List.any_eq_true.2 ⟨s, kQ hs (iq hs), ?_⟩⟩
       rw [cM m3] at hu
       rw [t3.cd] at hcd
       rw [hu, decide_eq_true hcd]
       rfl
      rw [this]
      simp
    · obtain ⟨f0, f1⟩ := hp.foe q hq f hf
      have h1 : has e2 f 1 = true := c2.q1 f hKf
      have : jd T e2 q = true := List.any_eq_true.2 ⟨f, hf, h1⟩
      rw [this]
      simp
   by_cases hfm : aE T F q = true
   · rw [if_pos hfm]
     obtain ⟨G2, i2, c2, f2, a2, n2⟩ := yA hp hs_ hq hfm (ak T q) ((dw (eQ hp hq).1).filter _) (fun p hpr => ⟨hpr, by
      rw [f1]
      cases hg : G.f q p with
      | false => rfl
      | true => have := (ht.f q p hfm hpr).1 hg; rw [hK] at this; cases this⟩) i1 c1 Aa
     obtain ⟨i3, c3⟩ := Ad i2 c2 ((Gro.fold (Gro.refl i1.y) fun p _ e2 h => h.clear.prove : Gro _ ((ak T q).foldl (jE T) ((bw T false q).foldl (Fa.minusS1 T) e))).up _ _ tag2 Aa)
     refine ⟨G2, i3, c3, ht.addN (b0 := false) (by rw [n2]; exact n1) (a2.trans a1) fun f p h1 h2 => ?_⟩
     rw [f2, f1, ht.f f p h1 h2, show tn false = 2 from rfl, dP]
     constructor
     · rintro (h5 | ⟨h5, -⟩)
       · exact .inl h5
       · exact .inr ⟨h5, rfl⟩
     · rintro (h5 | ⟨h5, -⟩)
       · exact .inl h5
       · exact .inr ⟨h5, by rw [h5] at h2; exact h2⟩
   · rw [if_neg hfm]
     obtain ⟨i3, c3⟩ := Ad i1 c1 Aa
     refine ⟨G1, i3, c3, ht.addN (b0 := false) n1 a1 fun f p h1 h2 => ?_⟩
     rw [f1, ht.f f p h1 h2, show tn false = 2 from rfl, dP]
     constructor
     · exact .inl
     · rintro (h5 | ⟨h5, -⟩)
       · exact h5
       · rw [h5] at h1; exact absurd h1 hfm
 · obtain ⟨G1, i1, c1, a1, n1, f1⟩ := ub hp hs_ (q := (q : Int)) (bw T true q) re (fun r hr => ⟨hr, Ab true rfl r hr⟩) h hc hh
   exact ⟨G1, i1, c1.k34 (by decide) (by decide), ht.addA (b0 := true) a1 n1 f1⟩
 · obtain ⟨G1, i1, c1, n1, a1, f1⟩ := sN hp hs_ (q := (q : Int)) (bw T true q) (fun _ h => h) h hc hh
   exact ⟨G1, i1, c1.k34 (by decide) (by decide), ht.addN (b0 := true) n1 a1 fun f p h1 h2 => by rw [f1, ht.f f p h1 h2, gn (by decide)]⟩
end
section
variable {T : Th} {F : List Int} {n k : Nat} {m : Prop} {m0 : List Int} {G G' : dm} {e e' : Es} {K : Int → Int → Bool}
theorem rD {α : Type} {l l2 : List α} {j : Nat} {x : α} (h : l[j]? = some x) : (l ++ l2).take (j + 1) = l.take j ++ [x] := by
 have hj := (List.getElem?_eq_some_iff.1 h).1
 rw [List.take_append_of_le_length (by omega), List.take_add_one, h]
 rfl
theorem yi (hp : Pf T F n) (_ : fU T F m0 k) (h : nV T F n m0 e) (htok : Tok n e) (hlt : e.tk < e.td.length) : nV T F n m0 (iA T F e) := by
 obtain ⟨x, hx⟩ := an hlt
 obtain ⟨x0, x1, xt, xh⟩ := htok.inn x (List.mem_of_getElem? hx)
 obtain ⟨G, i0, c0, t0⟩ := h.iv
 obtain ⟨q, hq⟩ := Int.eq_ofNat_of_zero_le x0
 have hK : jp e q x.2 = false := by
  unfold jp
  rw [decide_eq_false_iff_not, ← hq]
  intro hm
  have hn : (e.td.take (e.tk + 1)).Nodup := (List.take_sublist _ _).nodup htok.nd
  have h2 := rD (l2 := []) hx
  rw [List.append_nil] at h2
  rw [h2, List.nodup_append] at hn
  exact hn.2.2 _ hm _ (List.mem_singleton.2 rfl) rfl
 have i1 : Iv T F n True G (ew e) := ⟨i0.x.same rfl rfl rfl rfl rfl, ⟨i0.s.a, i0.s.nn, i0.s.c, i0.s.f, i0.s.r, i0.s.w, i0.s.cb⟩, i0.y, eH i0.o rfl rfl, i0.nf⟩
 have c1 : Cmp T F n (jp e) G (ew e) := ⟨c0.c1, c0.cf, c0.c2, c0.p3, c0.cb, c0.gr, c0.gw, c0.gc, c0.c3, c0.c4, c0.co, c0.cr, c0.q2, c0.q1⟩
 obtain ⟨G1, i2, c2, t2⟩ := xB hp trivial i1 c1 t0 (show q < n by omega) xt (show has e q x.2 = true by rw [← hq]; exact xh) hK
 have hE : iA T F e = fP T F (ew e) q x.2 := by
  unfold iA
  rw [List.getD_eq_getElem?_getD, hx, ← hq]
  rfl
 rw [hE]
 have hg : Gro (ew e) (fP T F (ew e) q x.2) := (Gro.refl i1.y).does
 obtain ⟨l, hl⟩ := hg.td
 have Aa : jp (fP T F (ew e) q x.2) = aY (jp e) q x.2 := by
  funext z u
  unfold jp aY
  rw [hg.tk, hl, show (ew e).tk = e.tk + 1 from rfl, show (ew e).td = e.td from rfl, rD hx]
  rw [Bool.eq_iff_iff]
  simp only [decide_eq_true_eq, Bool.or_eq_true, List.mem_append, List.mem_singleton]
  rw [show x = ((q : Int), x.2) from Prod.ext hq rfl, Prod.mk.injEq]
 exact ⟨⟨G1, i2, by rw [Aa]; exact c2, by rw [Aa]; exact t2⟩, hg.sm h.sm, hg.tdd h.td⟩
theorem vK : mz T tj (aZ T F) := by
 intro s _ p _ ho
 rcases ho with ho | ho
 · have ho : false = true := ho
   cases ho
 · have ho : false = true := ho
   cases ho
theorem xF (hp : Pf T F n) : ∀ j : Nat, j ≤ T.rules.length → ∃ G, Iv T F n False G (bareE T j (aZ T F)) ∧ Agh tj G ∧ Alk (aZ T F) (bareE T j (aZ T F)) ∧ mz T G (bareE T j (aZ T F)) ∧ ∀ t : Nat, t < j → aW T t = true → ax T t = [] → ∀ s ∈ row T.beats t, (bareE T j (aZ T F)).cb s (ah T t) = true := by
 intro j
 induction j with
 | zero => intro _; exact ⟨tj, Iv.start, Agh.refl, Alk.refl, vK, fun t ht => absurd ht (by omega)⟩
 | succ j ih =>
  intro hj
  obtain ⟨G, i, g, a, r, c⟩ := ih (by omega)
  have hE : bareE T (j + 1) (aZ T F) = gW T (bareE T j (aZ T F)) j := by unfold bareE; rw [List.range_succ, List.foldl_append]; rfl
  rw [hE]
  unfold gW
  by_cases hc : (aW T j && (ax T j).isEmpty) = true
  · rw [if_pos hc]
    rw [Bool.and_eq_true, List.isEmpty_iff] at hc
    obtain ⟨G2, i2, g2, a2, Aa, m2, r2⟩ := i.defend hp (show j < T.rules.length by omega) hc.1 fun x hx => by rw [hc.2] at hx; cases hx
    refine ⟨G2, i2, g.trans g2, a.trans a2, r2 r, fun t ht htm hb s hs => ?_⟩
    by_cases e1 : t = j
    · subst e1; exact Aa s hs
    · exact m2 _ _ (c t (by omega) htm hb s hs)
  · rw [if_neg hc]
    refine ⟨G, i, g, a, r, fun t ht htm hb s hs => ?_⟩
    by_cases e1 : t = j
    · subst e1; exact absurd (by rw [htm, hb]; rfl) hc
    · exact c t (by omega) htm hb s hs
theorem xW (h : Iv T F n m G e) : ∀ j : Nat, j ≤ n → Iv T F n m G ((List.range j).foldl (bZ T F) e) ∧ Tem e ((List.range j).foldl (bZ T F) e) ∧ ((List.range j).foldl (bZ T F) e).ms = e.ms ∧ ∀ q : Nat, q < j → (aE T F q = false → has ((List.range j).foldl (bZ T F) e) q 2 = true) ∧ (aE T F q = true → e.op false q = 0 → has ((List.range j).foldl (bZ T F) e) q 1 = true) := by
 intro j
 induction j with
 | zero => intro _; exact ⟨h, Tem.refl, rfl, fun q hq => absurd hq (by omega)⟩
 | succ j ih =>
  intro hj
  obtain ⟨i, t, ms, d⟩ := ih (by omega)
  rw [List.range_succ, List.foldl_append]
  show Iv T F n m G (bZ T F _ j) ∧ Tem e (bZ T F _ j) ∧ (bZ T F _ j).ms = e.ms ∧ _
  have old : ∀ {e2 : Es}, (∀ z t, aq t → has ((List.range j).foldl (bZ T F) e) z t = true → has e2 z t = true) → ∀ q : Nat, q < j → (aE T F q = false → has e2 q 2 = true) ∧ (aE T F q = true → e.op false q = 0 → has e2 q 1 = true) := fun up q hq => ⟨fun h1 => up _ _ tag2 ((d q hq).1 h1), fun h1 h2 => up _ _ tag1 ((d q hq).2 h1 h2)⟩
  generalize (List.range j).foldl (bZ T F) e = e1 at *
  show Iv T F n m G (bZ T F e1 j) ∧ Tem e (bZ T F e1 j) ∧ (bZ T F e1 j).ms = e.ms ∧ ∀ q : Nat, q < j + 1 → (aE T F q = false → has (bZ T F e1 j) q 2 = true) ∧ (aE T F q = true → e.op false q = 0 → has (bZ T F e1 j) q 1 = true)
  unfold bZ
  by_cases Aa : aE T F j = true
  · rw [Aa]
    simp only [Bool.not_true, Bool.false_eq_true, if_false]
    by_cases h0 : e1.op false j = 0
    · rw [if_pos h0]
      have t2 := hH i.y (q := (j : Int)) tag1
      have hm : bf T F (Mq n e1) 1 j = true := by
       refine cond1.trans (gA.2 ?_)
       have h3 := i.x.op false j (by omega)
       rw [h0] at h3
       split at h3
       · rename_i h4
         rw [Bool.or_eq_true] at h4
         unfold aE at Aa
         rw [Bool.or_eq_true] at Aa
         rcases h4 with h4 | h4
         · unfold dc at h4
           rw [Bool.or_eq_true] at h4
           rcases h4 with h4 | h4
           · unfold je at h4
             obtain ⟨r, hr, hb⟩ := List.any_eq_true.1 h4
             refine .inr ⟨r, hr, ?_⟩
             unfold wholeB
             rw [List.isEmpty_iff.1 hb]
             rfl
           · rw [Bool.and_eq_true] at h4
             exact .inl (of_decide_eq_true h4.2)
         · rcases Aa with Aa | Aa
           · exact .inl (of_decide_eq_true Aa)
           · have h4 : (ag T kS (j : Int)).isEmpty = true := h4
             rw [h4] at Aa; cases Aa
       · omega
      refine ⟨i.tell tag1 hm, t.trans t2, tell_ms.trans ms, fun q hq => ?_⟩
      by_cases e2 : q = j
      · subst e2; exact ⟨fun h5 => (by rw [Aa] at h5; cases h5), fun _ _ => fN i.y tag1⟩
      · exact old t2.up q (by omega)
    · rw [if_neg h0]
      refine ⟨i, t, ms, fun q hq => ?_⟩
      by_cases e2 : q = j
      · subst e2; exact ⟨fun h5 => (by rw [Aa] at h5; cases h5), fun _ h5 => absurd (by rw [t.op]; exact h5) h0⟩
      · exact old (fun _ _ _ h => h) q (by omega)
  · have Aa : aE T F j = false := by cases hh : aE T F j; rfl; exact absurd hh Aa
    rw [Aa]
    simp only [Bool.not_false, if_true]
    have t2 := hH i.y (q := (j : Int)) tag2
    have hm : bf T F (Mq n e1) 2 j = true := by
     unfold aE at Aa
     simp only [Bool.or_eq_false_iff, decide_eq_false_iff_not, Bool.not_eq_false', List.isEmpty_iff] at Aa
     exact cond2.trans (gC.2 ⟨Aa.1, fun r hr => by rw [Aa.2] at hr; cases hr⟩)
    refine ⟨i.tell tag2 hm, t.trans t2, tell_ms.trans ms, fun q hq => ?_⟩
    by_cases e2 : q = j
    · subst e2; exact ⟨fun _ => fN i.y tag2, fun h5 => by rw [Aa] at h5; cases h5⟩
    · exact old t2.up q (by omega)
theorem yD (hp : Pf T F n) (hs_ : m) (h : Iv T F n m G e) : ∀ j : Nat, j ≤ n → Iv T F n m G ((List.range j).foldl (du T) e) ∧ Tem e ((List.range j).foldl (du T) e) ∧ ((List.range j).foldl (du T) e).ms = e.ms ∧ ∀ q : Nat, q < j → (ag T kT q).any (used e) = true → e.ob q = 0 → has ((List.range j).foldl (du T) e) q 3 = true := by
 intro j
 induction j with
 | zero => intro _; exact ⟨h, Tem.refl, rfl, fun q hq => absurd hq (by omega)⟩
 | succ j ih =>
  intro hj
  obtain ⟨i, t, ms, d⟩ := ih (by omega)
  rw [List.range_succ, List.foldl_append]
  generalize (List.range j).foldl (du T) e = e1 at *
  show Iv T F n m G (du T e1 j) ∧ Tem e (du T e1 j) ∧ (du T e1 j).ms = e.ms ∧ ∀ q : Nat, q < j + 1 → (ag T kT q).any (used e) = true → e.ob q = 0 → has (du T e1 j) q 3 = true
  unfold du
  have first : Iv T F n m G (if has e1 j 1 = true then tell e1 j 3 else e1) ∧ Tem e1 (if has e1 j 1 = true then tell e1 j 3 else e1) ∧ (if has e1 j 1 = true then tell e1 j 3 else e1).ms = e1.ms := by
   by_cases h1 : has e1 j 1 = true
   · rw [if_pos h1]
     exact ⟨i.tell tag3 (cond3.trans (fE.2 (.inl (i.s.mm j 1 (by omega) (by omega) tag1 h1)))), hH i.y tag3, tell_ms⟩
   · rw [if_neg h1]
     exact ⟨i, Tem.refl, rfl⟩
  generalize (if has e1 j 1 = true then tell e1 j 3 else e1) = e2 at *
  obtain ⟨i2, t2, Aa⟩ := first
  obtain ⟨i3, t3, o3, c3, p3, v3⟩ := i2.prove hp hs_ (show j < n by omega)
  have t3' : Tem e2 (bF T e2 j) := ⟨t3.rf, t3.cb, c3, o3, p3, t3.tk, by rw [t3.ms], t3.up, t3.td⟩
  obtain ⟨i4, t4, Ab, -⟩ := i3.disprove hp hs_ (show j < n by omega)
  have tt := t2.trans (t3'.trans t4)
  refine ⟨i4, t.trans tt, Ab.trans (t3.ms.trans (Aa.trans ms)), fun q hq hu h0 => ?_⟩
  by_cases e5 : q = j
  · subst e5
    refine t4.up _ _ tag3 (v3 ?_ ?_)
    · rw [cM (Aa.trans ms)]; exact hu
    · rw [t2.ob, t.ob]; exact h0
  · exact tt.up _ _ tag3 (d q (by omega) hu h0)
theorem uP (hp : Pf T F n) (_ : fU T F m0 k) : nV T F n m0 (nm T F n) := by
 obtain ⟨G, i0, g0, a0, r0, b0⟩ := xF hp T.rules.length (Nat.le_refl _)
 have Aj : ∀ q, aU ((aZ T F).mq q) := fun _ => (show aU 0 by unfold aU; omega)
 have hg : Gro (aZ T F) (beginE T F n (bareE T T.rules.length (aZ T F))) := (Gro.refl Aj).bare.begin
 have Ah : beginE T F n (bareE T T.rules.length (aZ T F)) = (List.range n).foldl (du T) ((List.range n).foldl (bZ T F) (bareE T T.rules.length (aZ T F))) := rfl
 rw [Ah] at hg
 generalize hE0 : bareE T T.rules.length (aZ T F) = e0 at *
 obtain ⟨Ab, t1, m1, d1⟩ := xW i0 n (Nat.le_refl _)
 generalize hE1 : (List.range n).foldl (bZ T F) e0 = e1 at *
 have i1 : Iv T F n True G e1 := ⟨Ab.x, ⟨Ab.s.a, Ab.s.nn, Ab.s.c, Ab.s.f, Ab.s.r, Ab.s.w, Ab.s.cb⟩, Ab.y, Ab.o, fun _ q hq hf => (d1 q hq).1 hf⟩
 obtain ⟨i2, t2, m2, d2⟩ := yD hp trivial i1 n (Nat.le_refl _)
 have hL : nm T F n = { (List.range n).foldl (du T) e1 with up := 0 } := by unfold nm; rw [hE0, Ah]
 generalize (List.range n).foldl (du T) e1 = e2 at *
 have Ac := t1.trans t2
 have Af : ∀ b s, e2.rf b s = false := fun b s => by rw [Ac.rf, a0.rf]; rfl
 have Ai : ∀ b r x, G.a b r x = false := fun b r x => by rw [g0.a]; rfl
 have Ae : ∀ b (r : Nat), r < T.rules.length → aF T (kW b) r = true → e2.ms b r = 0 → ax T r = [] := fun b r hr hk h0 => by
  rw [i2.x.ms b r hr hk, dK] at h0
  cases hb : ax T r with
  | nil => rfl
  | cons x l => have := h0 x (by rw [hb]; exact List.mem_cons_self); rw [Ai] at this; cases this
 have Ag : ∀ q : Nat, q < n → dc T F false q = true → aE T F q = true → has e2 q 1 = true := fun q hq ho hfm => by
  refine t2.up _ _ tag1 ((d1 q hq).2 hfm ?_)
  rw [i0.x.op false q hq, ho]
  rfl
 have Ak : e2.tk = 0 := by rw [Ac.tk, a0.tk]; rfl
 have hK : ∀ z u, jp e2 z u = false := fun z u => by unfold jp; rw [Ak]; rfl
 have Aa : Cmp T F n (jp e2) G e2 := by
  refine ⟨fun r hr hk h0 => ?_, fun q hq => ?_, fun q hq hF hall => ?_, fun q hq hu h0 => ?_, fun t ht1 ht hu s hs => ?_, fun s hs p hp ho => ?_, fun t _ _ h => (by rw [Af] at h; cases h), fun b r _ _ h => (by rw [Af] at h; cases h), fun q h => (by rw [hK] at h; cases h), fun q _ h => (by rw [hK] at h; cases h), fun q _ h => (by rw [hK] at h; cases h), fun q _ h => (by rw [hK] at h; cases h), fun q h => (by rw [hK] at h; cases h), fun q h => (by rw [hK] at h; cases h)⟩
  · obtain ⟨hd, Al, Am⟩ := fK hp hr
    have hb := Ae false r hr hk h0
    have Ad := kQ hr hk
    rw [Al] at Ad ⊢
    refine Ag hd Am ?_ ?_
    · unfold dc
      have : je T (kL false) hd = true := List.any_eq_true.2 ⟨r, Ad, by rw [hb]; rfl⟩
      rw [this]; rfl
    · unfold aE
      cases hl : ag T kS (hd : Int) with
      | nil => rw [hl] at Ad; cases Ad
      | cons _ _ => simp
  · obtain ⟨q0, q1⟩ := hp.fact q hq
    obtain ⟨z, rfl⟩ := Int.eq_ofNat_of_zero_le q0
    refine Ag z (by omega) ?_ ?_
    · unfold dc; simp [hq]
    · unfold aE; simp [hq]
  · refine t2.up _ _ tag2 ((d1 q hq).1 ?_)
    unfold aE
    cases hl : ag T kS (q : Int) with
    | nil => simp [hF]
    | cons r l => have := hall r (by rw [hl]; exact List.mem_cons_self); rw [Af] at this; cases this
  · exact d2 q hq (by rw [cM m2] at hu; exact hu) (by rw [t2.ob] at h0; exact h0)
  · rw [Ac.cb]
    exact b0 t ht1 ht (Ae true t ht1 (iq ht1) (of_decide_eq_true hu)) s hs
  · exact r0 s hs p hp (by rw [Ac.rf, Ac.cb] at ho; exact ho)
 have An : Tie T F (jp e2) G := ⟨fun b r x _ _ _ => (by rw [Ai, hK]), fun b r x _ _ _ => (by rw [hK, g0.n]; exact Iff.rfl), fun f p _ _ => (by rw [hK, g0.f]; exact Iff.rfl)⟩
 rw [hL]
 refine ⟨⟨G, ⟨i2.x.same rfl rfl rfl rfl rfl, ⟨i2.s.a, i2.s.nn, i2.s.c, i2.s.f, i2.s.r, i2.s.w, i2.s.cb⟩, i2.y, eH i2.o rfl rfl, i2.nf⟩, ⟨Aa.c1, Aa.cf, Aa.c2, Aa.p3, Aa.cb, Aa.gr, Aa.gw, Aa.gc, Aa.c3, Aa.c4, Aa.co, Aa.cr, Aa.q2, Aa.q1⟩, An⟩, fun q => hg.sm (fun _ => (by decide : (0 : Int) < 16)) q, hg.tdd fun z t ht h => ?_⟩
 have h : hb 0 t = true := h
 rw [ic ht] at h
 cases h
end
set_option maxHeartbeats 1600000
section
variable {T : Th} {F : List Int} {n k : Nat} {m m0 : List Int} {N : Prop} {G G' : dm} {e e' : Es} {K : Int → Int → Bool}
theorem uj (hp : Pf T F n) (h : Iv T F n N G e) (hc : Cmp T F n K G e) (ht : Tie T F K G) (hK : ∀ z t, aq t → has e z t = true → K z t = true) (hm : ∀ q t : Int, 0 ≤ q → q < (n : Int) → aq t → hs m0 q t = true → has e q t = true) {q : Nat} {t : Int} (hq : q < n) (htag : aq t) (hcond : bf T F m0 t q = true) : has e q t = true := by
 have whole : ∀ b (r : Nat), r < T.rules.length → aF T (kW b) r = true → wholeB T m0 r (tp b) = true → ∀ x ∈ ax T r, G.a b r x = true := fun b r hr hk hw x hx => by
  obtain ⟨x0, x1⟩ := ij hp hr hx
  have Al : aq (tp b) := by cases b; exact tag1; exact tag3
  exact (ht.a b r x hr hk hx).2 (hK x _ Al (hm x _ x0 x1 Al (pE.1 hw x hx)))
 have part : ∀ b (r : Nat), r < T.rules.length → aF T (kW b) r = true → partB T m0 r (tn b) = true → e.rf b r = true := fun b r hr hk hw => by
  obtain ⟨x, hx, As⟩ := pJ.1 hw
  obtain ⟨x0, x1⟩ := ij hp hr hx
  have An : aq (tn b) := by cases b; exact tag2; exact tag4
  rw [h.x.rf b r hr]
  exact List.any_eq_true.2 ⟨x, hx, (ht.n b r x hr hk hx).2 (hK x _ An (hm x _ x0 x1 An As))⟩
 have Ak : ∀ r : Nat, r < T.rules.length → wholeB T m0 r 3 = true → used e r = true := fun r hr hw => (h.x.used hr).2 (whole true r hr (iq hr) hw)
 have Ac : ∀ r : Nat, r < T.rules.length → partB T m0 r 4 = true → e.rf true r = true := fun r hr hw => part true r hr (iq hr) hw
 rcases htag with rfl | rfl | rfl | rfl
 · rw [cond1] at hcond
   rcases gA.1 hcond with h1 | ⟨r, hr, hw⟩
   · exact hc.cf _ h1
   · obtain ⟨a, rfl, ha, hh, hk⟩ := bP hr
     have := hc.c1 a ha hk (by rw [h.x.ms false a ha hk, dK]; exact whole false a ha hk hw)
     rw [hh] at this
     exact this
 · rw [cond2] at hcond
   obtain ⟨h1, h2⟩ := gC.1 hcond
   refine hc.c2 q hq h1 fun r hr => ?_
   obtain ⟨a, rfl, ha, hh, hk⟩ := bP hr
   exact part false a ha hk (h2 a hr)
 · rw [cond3] at hcond
   rcases fE.1 hcond with h1 | ⟨⟨r, hr, hw⟩, h3, h4⟩
   · exact hc.c3 q (hK q 1 tag1 (hm q 1 (by omega) (by omega) tag1 h1))
   · have Aa : ag T kT (q : Int) ≠ [] := fun e0 => by rw [e0] at hr; cases hr
     obtain ⟨a, rfl, ha, hh, hk⟩ := bP hr
     refine hc.p3 q hq (List.any_eq_true.2 ⟨a, hr, Ak a ha hw⟩) ?_
     rw [h.x.ob q hq Aa]
     have z1 : lf ((row T.foes (q : Int)).filter (aE T F)) (fun f => G.f f q) = 0 := dK.2 fun f hf => by
      obtain ⟨Aj, Ar⟩ := List.mem_filter.1 hf
      obtain ⟨f0, f1⟩ := hp.foe q hq f Aj
      exact (ht.f f q Ar (cW.2 ⟨cU hp (by omega) (by omega) Aj, Aa⟩)).2 (hK f 2 tag2 (hm f 2 f0 f1 tag2 (h3 f Aj)))
     have z2 : lf (fF T q) (fun s => G.r s q) = 0 := dK.2 fun s hs => by
      unfold fF at hs
      obtain ⟨b, hb, rfl⟩ := List.mem_map.1 hs
      obtain ⟨Aq, Ap⟩ := List.mem_filter.1 hb
      have Ad := List.mem_range.1 Aq
      have Ao := of_decide_eq_true Ap
      have Ae : (q : Int) ∈ ak T (ah T b) := cW.2 ⟨cU hp (by omega) (by omega) Ao, Aa⟩
      refine hc.gr b Ad q Ae ?_
      rcases lP.1 (h4 _ Ao b (kQ Ad (iq Ad))) with h5 | ⟨t, Ai, h5, h6⟩
      · exact .inl (Ac b Ad h5)
      · obtain ⟨c, rfl, Ab, At, Ag⟩ := bP Ai
        have := hc.cb c Ab Ag (Ak c Ab h6) b (of_decide_eq_true h5)
        rw [At] at this
        exact .inr this
     rw [z1, z2]
     rfl
 · rw [cond4] at hcond
   obtain ⟨h1, h2⟩ := jc.1 hcond
   have Af := hK q 2 tag2 (hm q 2 (by omega) (by omega) tag2 h1)
   rcases h2 with h2 | ⟨f, hf, h2⟩ | ⟨f, hf, s, Au, h2⟩
   · refine hc.c4 q hq Af fun r hr => ?_
     obtain ⟨a, rfl, ha, -, -⟩ := bP hr
     exact Ac a ha (h2 a hr)
   · obtain ⟨f0, f1⟩ := hp.foe q hq f hf
     exact hc.cr q hq Af f hf (hK f 1 tag1 (hm f 1 f0 f1 tag1 h2))
   · by_cases Aa : ag T kT (q : Int) = []
     · exact hc.c4 q hq Af fun r hr => by rw [Aa] at hr; cases hr
     · obtain ⟨a, rfl, ha, Av, -⟩ := bP Au
       obtain ⟨h5, h6⟩ := lJ.1 h2
       have Ae : (q : Int) ∈ ak T (ah T a) := cW.2 ⟨by rw [Av]; exact cU hp (by omega) (by omega) hf, Aa⟩
       refine hc.co q hq Af a ha Ae (Ak a ha h5) ?_
       rw [h.x.cd a ha q Ae, dK]
       intro t Ai
       obtain ⟨Am, Ah⟩ := List.mem_filter.1 Ai
       obtain ⟨c, rfl, Ab, -, Ag⟩ := bP Am
       rcases h6 c Am with h8 | h8
       · exact hc.gw c Ab Ag (Ac c Ab h8) a (of_decide_eq_true Ah)
       · rw [h8] at Ah; cases Ah
theorem sx {α : Type} {P : List α → Prop} (h0 : P []) (hs : ∀ l x, P l → P (l ++ [x])) (l : List α) : P l := by
 have h : ∀ l : List α, P l.reverse := by
  intro l
  induction l with
  | nil => exact h0
  | cons x l ih => rw [List.reverse_cons]; exact hs _ _ ih
 have := h l.reverse
 rwa [List.reverse_reverse] at this
theorem pT {l : List (Int × Int)} {x : Int × Int} : dX (l ++ [x]) = ar (dX l) x.1 (cC (dX l x.1) x.2) := by unfold dX; rw [List.foldl_append]; rfl
theorem zt : ∀ {l : List (Int × Int)}, (∀ y ∈ l, aq y.2) → ∀ q, aU (dX l q) := by
 intro l
 induction l using sx with
 | h0 => intro _ q; show aU 0; unfold aU; omega
 | hs l x ih =>
  intro h q
  have ih := ih fun y hy => h y (List.mem_append_left _ hy)
  rw [pT]
  by_cases e : q = x.1
  · subst e; rw [aA]; exact (dg (ih _) (h x (by simp)) (h x (by simp))).2.1
  · rw [aw e]; exact ih q
theorem wy {q t : Int} (ht : aq t) : ∀ {l : List (Int × Int)}, (∀ y ∈ l, aq y.2) → hb (dX l q) t = true → (q, t) ∈ l := by
 intro l
 induction l using sx with
 | h0 => intro _ h; have h : hb 0 t = true := h; rw [ic ht] at h; cases h
 | hs l x ih =>
  intro hl h
  have Aa : ∀ y ∈ l, aq y.2 := fun y hy => hl y (List.mem_append_left _ hy)
  have hx : aq x.2 := hl x (by simp)
  rw [pT] at h
  by_cases e : q = x.1
  · subst e
    rw [aA, (dg (zt Aa x.1) hx ht).1, Bool.or_eq_true] at h
    rcases h with h | h
    · exact List.mem_append_left _ (ih Aa h)
    · have h := of_decide_eq_true h
      rw [← h]
      simp
  · rw [aw e] at h
    exact List.mem_append_left _ (ih Aa h)
theorem uU : ∀ x y : _root_.Fin 16, (tags.all fun t => decide (hb (x.val : Int) t = hb (y.val : Int) t)) = true → x = y := by decide +kernel
theorem zC {x y : Int} (x0 : 0 ≤ x) (x1 : x < 16) (y0 : 0 ≤ y) (y1 : y < 16) (h : ∀ t, aq t → hb x t = hb y t) : x = y := by
 obtain ⟨a, rfl⟩ := Int.eq_ofNat_of_zero_le x0
 obtain ⟨b, rfl⟩ := Int.eq_ofNat_of_zero_le y0
 have := uU ⟨a, by omega⟩ ⟨b, by omega⟩ (List.all_eq_true.2 fun t ht => by
  have Aa : aq t := by simp [tags] at ht; exact ht
  exact decide_eq_true (h t Aa))
 have h2 : a = b := congrArg (fun z : _root_.Fin 16 => z.val) this
 rw [h2]
theorem we (hp : Pf T F n) (hs_ : fU T F m k) (h : qC T F n e) (htok : Tok n e) : ∀ (j : Nat) x, e.td[j]? = some x → hs m x.1 x.2 = true := by
 intro j
 induction j using Nat.strongRecOn with
 | _ j ih =>
  intro x hx
  obtain ⟨x0, x1, xt, -⟩ := htok.inn x (List.mem_of_getElem? hx)
  refine (s9 hp hs_ x0 x1 xt).2 (qb hp (m := ke n (dX (e.td.take j))) ?_ x0 x1 xt (h.ok j x hx))
  intro q t h0 ht hz
  by_cases hq : q < (n : Int)
  · rw [sW h0 hq] at hz
    obtain ⟨i, hi⟩ := List.mem_iff_getElem?.1 (wy ht (fun y hy => (htok.inn y (List.mem_of_mem_take hy)).2.2.1) hz)
    have Aa : i < j := by
     have := (List.getElem?_eq_some_iff.1 hi).1
     rw [List.length_take] at this
     omega
    rw [List.getElem?_take_of_lt Aa] at hi
    have Ab := ih i Aa (q, t) hi
    exact Ab
  · obtain ⟨a, rfl⟩ := Int.eq_ofNat_of_zero_le h0
    have : hs (ke n (dX (e.td.take j))) a t = hb 0 t := by
     unfold hs ke
     rw [List.getD_eq_getElem?_getD, List.getElem?_map, Int.toNat_natCast, List.getElem?_eq_none (by simp; omega)]
     rfl
    rw [this, ic ht] at hz
    cases hz
theorem tE (hp : Pf T F n) (hs_ : fU T F m k) (h : nV T F n m e) (htk : e.tk = e.td.length) (htok : Tok n e) : (∀ q t : Int, 0 ≤ q → q < (n : Int) → aq t → has e q t = hs m q t) ∧ ∀ q : Nat, q < n → e.mq q = m.getD q 0 := by
 obtain ⟨G, i, c, t⟩ := h.iv
 have hK : ∀ z t, aq t → has e z t = true → jp e z t = true := fun z t ht hz => by
  unfold jp
  rw [htk, List.take_length]
  exact decide_eq_true (h.td z t ht hz)
 have key : ∀ j : Nat, ∀ q t : Int, 0 ≤ q → q < (n : Int) → aq t → hs (Mk T F j) q t = true → has e q t = true := by
  intro j
  induction j with
  | zero =>
   intro q t h0 h1 ht hh
   have : hs (Mk T F 0) q t = hb ((List.replicate T.lits.toNat (0 : Int)).getD q.toNat 0) t := rfl
   rw [this, lE, ic ht] at hh
   cases hh
  | succ j ih =>
   intro q t h0 h1 ht hh
   rw [jl, ig gL h0 (by rw [jH hp]; exact h1) ht, Bool.or_eq_true] at hh
   rcases hh with hh | hh
   · exact ih q t h0 h1 ht hh
   · obtain ⟨a, rfl⟩ := Int.eq_ofNat_of_zero_le h0
     exact uj hp i c ‹Tie T F (jp e) G› hK ih (by omega) ht hh
 have same : ∀ q t : Int, 0 ≤ q → q < (n : Int) → aq t → has e q t = hs m q t := fun q t h0 h1 ht => by
  rw [Bool.eq_iff_iff]
  exact ⟨fun hh => by
   obtain ⟨j, hj⟩ := List.mem_iff_getElem?.1 (h.td q t ht hh)
   have Aa := we hp hs_ i.o htok j (q, t) hj
   exact Aa, fun hh => key k q t h0 h1 ht (by rw [hs_.1] at hh; exact hh)⟩
 refine ⟨same, fun q hq => zC (i.y q).1 (h.sm q) ?_ ?_ fun t ht => ?_⟩
 · exact (tG hs_ q).1
 · rw [hs_.1]; exact rJ q
 · have := same q t (by omega) (by omega) ht
   unfold has hs at this
   rw [Int.toNat_natCast] at this
   exact this
end
end Go.Proofs.YtmlhcncagdfjfaaGreat.Fa
