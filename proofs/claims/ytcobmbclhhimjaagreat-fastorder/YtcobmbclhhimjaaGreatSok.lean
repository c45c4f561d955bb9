/- What lay makes is as one look at the theory shows; plain. -/
import Derived.Test.YtcobmbclhhimjaaGreatFru
namespace Go.Proofs.YtcobmbclhhimjaaGreat.Fa

theorem inc_eq {v : Int} (h0 : 0 ≤ v) (h1 : v < 1099511627776) : inc v = v + 1 := by
  unfold inc
  rw [IntKind.wrap_i64]
  omega
theorem add_eq {v u : Int} (h0 : 0 ≤ v) (h1 : v < 1099511627776) (h2 : 0 ≤ u) (h3 : u < 1099511627776) : add64 v u = v + u := by
  unfold add64
  rw [IntKind.wrap_i64]
  omega
section
variable {T : Th} {F : List Int} {n : Nat} {p : RuleM → Bool}
theorem kind_at {k : Nat} {r : RuleM} (h : T.rules[k]? = some r) : kindB T p k = p r ∧ headOf T k = r.head ∧ bodyM T k = r.body := by
  unfold kindB headOf bodyM
  rw [Int.toNat_natCast, h]
  exact ⟨rfl, rfl, rfl⟩
theorem isFor_kind {k : Nat} {z : Int} : isFor T p z k = (kindB T p k && decide (headOf T k = z)) := by
  cases h : T.rules[k]? with
  | none => unfold isFor kindB; rw [Int.toNat_natCast, h]; rfl
  | some r => obtain ⟨e1, e2, -⟩ := kind_at (p := p) h; rw [e1, e2]; unfold isFor; rw [h]
theorem msK_at (k r : Nat) : msK T p k r = if r < k ∧ kindB T p r = true then ((bodyM T r).length : Int) else 0 := by
  induction k with
  | zero => rw [if_neg (by omega)]; rfl
  | succ k ih =>
    rw [msK_succ]
    by_cases hk : kindB T p k = true
    · rw [if_pos hk]
      by_cases e : r = k
      · subst e; rw [upd_at, if_pos ⟨by omega, hk⟩]
      · rw [upd_off (by omega), ih]
        by_cases h2 : r < k ∧ kindB T p r = true
        · rw [if_pos h2, if_pos ⟨by omega, h2.2⟩]
        · rw [if_neg h2, if_neg fun h3 => h2 ⟨by omega, h3.2⟩]
    · rw [if_neg hk, ih]
      by_cases h2 : r < k ∧ kindB T p r = true
      · rw [if_pos h2, if_pos ⟨by omega, h2.2⟩]
      · rw [if_neg h2, if_neg fun h3 => h2 ⟨by have : r ≠ k := (fun e => hk (e ▸ h3.2)); omega, h3.2⟩]
theorem opK_at (k : Nat) (hk : k ≤ 4096) (q : Int) : opK T p k q = ((forL T p k q).length : Int) := by
  induction k with
  | zero => rfl
  | succ k ih =>
    have ih := ih (by omega)
    rw [opK_succ, forL_succ, isFor_kind]
    have hl : (forL T p k q).length ≤ k := by
      unfold forL
      rw [List.length_map]
      exact Nat.le_trans (List.length_filter_le _ _) (by simp)
    cases hb : kindB T p k with
    | false => simp [ih]
    | true =>
      by_cases e : headOf T k = q
      · subst e
        rw [if_pos rfl, upd_at, ih, inc_eq (by omega) (by omega)]
        simp
      · rw [if_pos rfl, upd_off (fun h => e h.symm), ih]
        simp [e]
theorem opZ_at {f : Int → Int} (k : Nat) (q : Int) : opZ T p f k q = if (∃ r : Nat, r < k ∧ kindB T p r = true ∧ bodyM T r = [] ∧ headOf T r = q) then 0 else f q := by
  induction k with
  | zero => rw [if_neg (by rintro ⟨r, h, _⟩; omega)]; rfl
  | succ k ih =>
    rw [opZ_succ]
    by_cases hb : (kindB T p k && (bodyM T k).isEmpty) = true
    · rw [if_pos hb]
      simp only [Bool.and_eq_true, List.isEmpty_iff] at hb
      by_cases e : headOf T k = q
      · subst e
        rw [upd_at, if_pos ⟨k, by omega, hb.1, hb.2, rfl⟩]
      · rw [upd_off (fun h => e h.symm), ih]
        by_cases h2 : ∃ r : Nat, r < k ∧ kindB T p r = true ∧ bodyM T r = [] ∧ headOf T r = q
        · rw [if_pos h2]
          obtain ⟨r, h3, h4⟩ := h2
          rw [if_pos ⟨r, by omega, h4⟩]
        · rw [if_neg h2, if_neg]
          rintro ⟨r, h3, h4⟩
          by_cases e2 : r = k
          · exact e (e2 ▸ h4.2.2)
          · exact h2 ⟨r, by omega, h4⟩
    · rw [if_neg hb, ih]
      by_cases h2 : ∃ r : Nat, r < k ∧ kindB T p r = true ∧ bodyM T r = [] ∧ headOf T r = q
      · rw [if_pos h2]
        obtain ⟨r, h3, h4⟩ := h2
        rw [if_pos ⟨r, by omega, h4⟩]
      · rw [if_neg h2, if_neg]
        rintro ⟨r, h3, h4⟩
        by_cases e2 : r = k
        · subst e2
          apply hb
          rw [h4.1, h4.2.1]
          rfl
        · exact h2 ⟨r, by omega, h4⟩
theorem bare_at {q : Int} : bareB T p q = true ↔ ∃ r : Nat, r < T.rules.length ∧ kindB T p r = true ∧ bodyM T r = [] ∧ headOf T r = q := by
  unfold bareB
  rw [List.any_eq_true]
  constructor
  · rintro ⟨x, hx, he⟩
    obtain ⟨a, r, rfl, hr, hp, hh⟩ := mem_rules.1 hx
    obtain ⟨e1, e2, e3⟩ := kind_at (p := p) hr
    exact ⟨a, (List.getElem?_eq_some_iff.1 hr).1, by rw [e1]; exact hp, List.isEmpty_iff.1 he, by rw [e2]; exact hh⟩
  · rintro ⟨a, ha, h1, h2, h3⟩
    obtain ⟨r, hr⟩ := get_at ha
    obtain ⟨e1, e2, e3⟩ := kind_at (p := p) hr
    exact ⟨a, mem_rules.2 ⟨a, r, rfl, hr, by rw [← e1]; exact h1, by rw [← e2]; exact h3⟩, by rw [h2]; rfl⟩
theorem zero_at {l : List Int} {f : Int → Int} {q : Int} : l.foldl (fun f x => upd f x 0) f q = if q ∈ l then 0 else f q := by
  induction l generalizing f with
  | nil => rfl
  | cons x l ih =>
    rw [List.foldl_cons, ih]
    by_cases h : q ∈ l
    · rw [if_pos h, if_pos (List.mem_cons_of_mem _ h)]
    · rw [if_neg h]
      by_cases e : q = x
      · subst e; rw [upd_at, if_pos List.mem_cons_self]
      · rw [upd_off e, if_neg (by simp [e, h])]
theorem start_op (hp : Pf T F n) (b : Bool) (q : Nat) : (factE F (baseE T F n)).op b q = (startE T F).op b q := by
  have hr := hp.ok.rl
  have key : opZ T (kL b) (opK T (kL b) T.rules.length) T.rules.length q = if bareB T (kL b) q then 0 else ((rulesL T (kL b) q).length : Int) := by
    rw [opZ_at, opK_at _ (by omega)]
    by_cases h : bareB T (kL b) (q : Int) = true
    · rw [if_pos (bare_at.1 h), if_pos h]
    · rw [if_neg fun h2 => h (bare_at.2 h2), if_neg h]; rfl
  show updB (baseE T F n).op false (F.foldl (fun f x => upd f x 0) ((baseE T F n).op false)) b (q : Int) = if openZ T F b q then 0 else ((rulesL T (kL b) q).length : Int)
  unfold openZ
  cases b
  · rw [updB_at, zero_at]
    show (if (q : Int) ∈ F then 0 else opZ T (kL false) (opK T (kL false) T.rules.length) T.rules.length q) = _
    rw [key]
    by_cases h1 : (q : Int) ∈ F
    · simp [h1]
    · simp [h1]
  · rw [updB_off (by decide)]
    show opZ T (kL true) (opK T (kL true) T.rules.length) T.rules.length q = _
    rw [key]
    simp
theorem fold_cd {h : Int} {l : List Int} (hn : l.Nodup) {d : Int → Int → Int} {s q : Int} : l.foldl (cd1 h) d s q = if s ∈ l ∧ q = h then inc (d s q) else d s q := by
  induction l generalizing d with
  | nil => simp
  | cons x l ih =>
    obtain ⟨h1, h2⟩ := List.nodup_cons.1 hn
    rw [List.foldl_cons, ih h2]
    have e0 : cd1 h d x s q = if s = x ∧ q = h then inc (d s q) else d s q := by
      unfold cd1
      by_cases e : s = x
      · subst e
        rw [upd_at]
        by_cases e2 : q = h
        · subst e2; rw [upd_at, if_pos ⟨rfl, rfl⟩]
        · rw [upd_off e2, if_neg fun a => e2 a.2]
      · rw [upd_off e, if_neg fun a => e a.1]
    rw [e0]
    by_cases e : s = x
    · subst e
      rw [if_neg fun a => h1 a.1]
      simp
    · by_cases e2 : s ∈ l ∧ q = h
      · rw [if_pos e2, if_neg fun a => e a.1, if_pos ⟨List.mem_cons_of_mem _ e2.1, e2.2⟩]
      · rw [if_neg e2, if_neg fun a => e a.1, if_neg]
        rintro ⟨a, b⟩
        exact e2 ⟨(List.mem_cons.1 a).resolve_left e, b⟩
theorem team_kind {k : Int} : teamB T k = kindB T kT k := rfl
theorem cdK_at (hp : Pf T F n) (k : Nat) (hk : k ≤ T.rules.length) (s : Nat) (q : Int) : cdK T k s q = cnt (forL T kT k q) fun t => beatB T t s := by
  have hr := hp.ok.rl
  induction k with
  | zero => rfl
  | succ k ih =>
    have ih := ih (by omega)
    have hl : (forL T kT k q).length ≤ k := by
      unfold forL
      rw [List.length_map]
      exact Nat.le_trans (List.length_filter_le _ _) (by simp)
    have hc : 0 ≤ cnt (forL T kT k q) (fun t => beatB T t s) ∧ cnt (forL T kT k q) (fun t => beatB T t s) ≤ 4096 := by
      unfold cnt
      have := List.length_filter_le (fun t => beatB T t (s : Int)) (forL T kT k q)
      omega
    rw [cdK_succ, forL_succ, isFor_kind, team_kind]
    cases hb : kindB T kT k with
    | false => simp [ih]
    | true =>
      have hnd : (row T.beats (k : Int)).Nodup := by
        have hbl := hp.ok.bl
        obtain ⟨l, hl⟩ := get_at (l := T.beats) (i := k) (by omega)
        rw [row_at (l := l) (by rw [Int.toNat_natCast]; exact hl)]
        exact pw_nodup (hp.beat l (List.mem_of_getElem? hl))
      rw [if_pos rfl, fold_cd hnd, ih]
      by_cases e : headOf T k = q
      · subst e
        simp only [Bool.true_and, decide_true, if_true, and_true]
        unfold cnt at hc ⊢
        rw [List.filter_append, List.length_append]
        by_cases hbt : (s : Int) ∈ row T.beats k
        · rw [if_pos hbt, inc_eq (by omega) (by omega)]
          have : beatB T k s = true := by unfold beatB; exact decide_eq_true hbt
          simp [this]
        · rw [if_neg hbt]
          have : ¬ beatB T k s = true := by unfold beatB; simp [hbt]
          simp [this]
      · rw [if_neg fun a => e a.2.symm]
        simp [e]
/-- Sums below a bound. -/
def sumK (g : Nat → Int) : Nat → Int
  | 0 => 0
  | k + 1 => sumK g k + g k
theorem fold_ob {q : Int} {l : List Int} (hn : l.Nodup) {f : Int → Int} {z : Int} : l.foldl (ob1 T F q) f z = if z ∈ l then ob1 T F q f z z else f z := by
  induction l generalizing f with
  | nil => simp
  | cons x l ih =>
    obtain ⟨h1, h2⟩ := List.nodup_cons.1 hn
    rw [List.foldl_cons, ih h2]
    by_cases e : z = x
    · subst e
      rw [if_neg h1, if_pos List.mem_cons_self]
    · have e2 : ob1 T F q f x z = f z := by unfold ob1; rw [upd_off e]
      by_cases h : z ∈ l
      · rw [if_pos h, if_pos (List.mem_cons_of_mem _ h)]
        unfold ob1 at e2 ⊢
        rw [upd_at, upd_at, e2]
      · rw [if_neg h, if_neg (by simp [e, h]), e2]
def gOb (T : Th) (F : List Int) (z : Int) (q : Nat) : Int := if z ∈ rivalsL T q then ((rulesL T kA q).length : Int) + (if firmB T F q then 1 else 0) else 0
theorem obK_at (hp : Pf T F n) (k : Nat) (hk : k ≤ n) (z : Int) : obK T F k z = sumK (gOb T F z) k ∧ 0 ≤ sumK (gOb T F z) k ∧ sumK (gOb T F z) k ≤ (k : Int) * 4097 := by
  have hr := hp.ok.rl
  have hn4 := hp.n4
  induction k with
  | zero => exact ⟨rfl, Int.le_refl _, by show (0 : Int) ≤ _; omega⟩
  | succ k ih =>
    obtain ⟨h1, h2, h3⟩ := ih (by omega)
    have hl : (rulesL T kA (k : Int)).length ≤ T.rules.length := rules_len
    have hg : 0 ≤ gOb T F z k ∧ gOb T F z k ≤ 4097 := by
      unfold gOb
      split
      · split <;> omega
      · omega
    refine ⟨?_, by show 0 ≤ _ + _; omega, by show _ + _ ≤ _; omega⟩
    show _ = sumK (gOb T F z) k + gOb T F z k
    rw [obK_succ, fold_ob (pw_nodup (rival_pw hp (by omega)))]
    unfold gOb
    by_cases hm : z ∈ rivalsL T (k : Int)
    · rw [if_pos hm, if_pos hm]
      unfold ob1
      rw [upd_at, h1, add_eq h2 (by omega) (by omega) (by omega)]
      by_cases hf : firmB T F (k : Int) = true
      · rw [if_pos hf, if_pos hf, inc_eq (by omega) (by omega)]
        unfold gOb
        omega
      · rw [if_neg hf, if_neg hf]
        unfold gOb
        omega
    · rw [if_neg hm, if_neg hm, h1]
      unfold gOb
      omega
theorem sumK_congr {f g : Nat → Int} {k : Nat} (h : ∀ i, i < k → f i = g i) : sumK f k = sumK g k := by
  induction k with
  | zero => rfl
  | succ k ih => show _ + _ = _ + _; rw [ih fun i hi => h i (by omega), h k (by omega)]
theorem sumK_add {f g : Nat → Int} {k : Nat} : sumK (fun i => f i + g i) k = sumK f k + sumK g k := by
  induction k with
  | zero => rfl
  | succ k ih => show sumK _ k + (f k + g k) = (sumK f k + f k) + (sumK g k + g k); rw [ih]; omega
theorem sumK_zero {k : Nat} : sumK (fun _ => 0) k = 0 := by
  induction k with
  | zero => rfl
  | succ k ih => show sumK _ k + 0 = 0; rw [ih]; rfl
theorem sum_one (a : Nat) (c : Int) (k : Nat) : sumK (fun q => if q = a then c else 0) k = if a < k then c else 0 := by
  induction k with
  | zero => rw [if_neg (by omega)]; rfl
  | succ k ih =>
    show sumK _ k + (if k = a then c else 0) = _
    rw [ih]
    by_cases e : k = a
    · subst e; rw [if_neg (by omega), if_pos rfl, if_pos (by omega)]; omega
    · rw [if_neg e]
      by_cases e2 : a < k
      · rw [if_pos e2, if_pos (by omega)]; omega
      · rw [if_neg e2, if_neg (by omega)]; rfl
/-- A list that rises, counted place by place. -/
theorem cnt_sum {l : List Int} (hn : l.Nodup) {P : Int → Bool} (hl : ∀ x ∈ l, 0 ≤ x ∧ x < (n : Int)) : cnt l P = sumK (fun q => if (q : Int) ∈ l ∧ P q = true then 1 else 0) n := by
  induction l with
  | nil => simp [cnt, sumK_zero]
  | cons x l ih =>
    obtain ⟨h1, h2⟩ := List.nodup_cons.1 hn
    have ih := ih h2 fun y hy => hl y (List.mem_cons_of_mem _ hy)
    obtain ⟨x0, x1⟩ := hl x List.mem_cons_self
    obtain ⟨a, rfl⟩ := Int.eq_ofNat_of_zero_le x0
    have e1 : cnt ((a : Int) :: l) P = cnt l P + if P a = true then 1 else 0 := by
      unfold cnt
      by_cases h : P a = true
      · rw [List.filter_cons_of_pos h, if_pos h]; simp
      · rw [List.filter_cons_of_neg h, if_neg h]; simp
    have one : ∀ (c : Int) (k : Nat), sumK (fun q => if q = a then c else 0) k = if a < k then c else 0 := sum_one a
    have e2 : (if P a = true then (1 : Int) else 0) = sumK (fun q => if q = a then (if P a = true then 1 else 0) else 0) n := by rw [one]; exact (if_pos (show a < n by omega)).symm
    rw [e1, ih, e2, ← sumK_add]
    refine sumK_congr fun q hq => ?_
    by_cases e : q = a
    · subst e
      rw [if_pos rfl, if_neg fun h => h1 h.1]
      by_cases hP : P (q : Int) = true
      · rw [if_pos hP, if_pos ⟨List.mem_cons_self, hP⟩]; rfl
      · rw [if_neg hP, if_neg fun h => hP h.2]; rfl
    · rw [if_neg e]
      have : ((q : Int) ∈ (a : Int) :: l) ↔ (q : Int) ∈ l := by
        rw [List.mem_cons]
        exact ⟨fun h => h.resolve_left (by omega), .inr⟩
      simp only [this]
      omega
theorem for_sum {l : List Int} (R : Nat) (hh : ∀ a : Nat, a < R → 0 ≤ headOf T a ∧ headOf T a < (n : Int)) (hR : R ≤ T.rules.length) : (((List.range R).filter fun a : Nat => decide (headOf T a ∈ l)).length : Int) = sumK (fun q => if (q : Int) ∈ l then ((forL T kA R q).length : Int) else 0) n := by
  induction R with
  | zero => rw [show (fun q : Nat => if (q : Int) ∈ l then ((forL T kA 0 q).length : Int) else 0) = fun _ => 0 from by funext q; split <;> rfl, sumK_zero]; rfl
  | succ R ih =>
    have ih := ih (fun a ha => hh a (by omega)) (by omega)
    obtain ⟨x0, x1⟩ := hh R (by omega)
    obtain ⟨a, ha⟩ := Int.eq_ofNat_of_zero_le x0
    obtain ⟨r, hr⟩ := get_at (l := T.rules) (i := R) (by omega)
    have hk : kindB T kA R = true := (kind_at (p := kA) hr).1
    have one : ∀ (c : Int) (k : Nat), sumK (fun q => if q = a then c else 0) k = if a < k then c else 0 := sum_one a
    have e1 : (((List.range (R + 1)).filter fun a : Nat => decide (headOf T a ∈ l)).length : Int) = ((List.range R).filter fun a : Nat => decide (headOf T a ∈ l)).length + sumK (fun q => if q = a then (if headOf T R ∈ l then 1 else 0) else 0) n := by
      rw [one, if_pos (show a < n by omega), List.range_succ, List.filter_append, List.length_append]
      by_cases h : headOf T R ∈ l
      · simp [h]
      · simp [h]
    rw [e1, ih, ← sumK_add]
    refine sumK_congr fun q hq => ?_
    rw [forL_succ, isFor_kind, hk]
    by_cases e : q = a
    · subst e
      rw [ha]
      by_cases hm : (q : Int) ∈ l
      · simp [hm]
      · simp [hm]
    · have : ¬ headOf T R = (q : Int) := by omega
      simp [e, this]
theorem start_ob (hp : Pf T F n) (z : Nat) (hz : z < n) : obK T F n z = (startE T F).ob z := by
  rw [(obK_at hp n (Nat.le_refl _) z).1]
  show _ = if (rulesL T kT (z : Int)).isEmpty then 0 else cnt (row T.foes z) (firmB T F) + ((agL T z).length : Nat)
  by_cases ht : (rulesL T kT (z : Int)).isEmpty = true
  · rw [if_pos ht]
    have : sumK (gOb T F z) n = sumK (fun _ => 0) n := sumK_congr fun q hq => by
      unfold gOb
      rw [if_neg]
      intro hm
      exact (mem_rival.1 hm).2 (List.isEmpty_iff.1 ht)
    rw [this, sumK_zero]
  · rw [if_neg ht]
    have hin : ∀ x ∈ row T.foes (z : Int), 0 ≤ x ∧ x < (n : Int) := hp.foe z hz
    have h1 := cnt_sum (n := n) (P := firmB T F) (pw_nodup (foe_pw hp hz).1) hin
    have h2 := for_sum (T := T) (n := n) (l := row T.foes (z : Int)) T.rules.length (fun a ha => by obtain ⟨x, -, e, x0, x1⟩ := head_in hp ha; rw [e]; exact ⟨x0, x1⟩) (Nat.le_refl _)
    have h3 : ((agL T (z : Int)).length : Int) = (((List.range T.rules.length).filter fun a : Nat => decide (headOf T a ∈ row T.foes (z : Int))).length : Int) := by
      unfold agL
      rw [List.length_map]
    rw [h1, h3, h2, ← sumK_add]
    refine sumK_congr fun q hq => ?_
    unfold gOb
    have hiff : (z : Int) ∈ rivalsL T q ↔ (q : Int) ∈ row T.foes z := by
      rw [mem_rival]
      constructor
      · intro h; exact foe_sym hp (by omega) (by omega) h.1
      · intro h; exact ⟨foe_sym hp (by omega) (by omega) h, fun e => ht (by rw [e]; rfl)⟩
    by_cases hm : (q : Int) ∈ row T.foes z
    · rw [if_pos (hiff.2 hm), if_pos hm]
      by_cases hf : firmB T F (q : Int) = true
      · rw [if_pos hf, if_pos ⟨hm, hf⟩]
        show ((rulesL T kA q).length : Int) + 1 = 1 + ((rulesL T kA q).length : Int)
        omega
      · rw [if_neg hf, if_neg fun h => hf h.2]
        show ((rulesL T kA q).length : Int) + 0 = 0 + ((rulesL T kA q).length : Int)
        omega
    · rw [if_neg fun h => hm (hiff.1 h), if_neg fun h => hm h.1, if_neg hm]; rfl
theorem start_ok (hp : Pf T F n) : StartOk T F n :=
  ⟨fun b r hr => by
    show msK T (kW b) T.rules.length r = if kindB T (kW b) r then ((bodyM T r).length : Int) else 0
    rw [msK_at]
    by_cases h : kindB T (kW b) r = true
    · rw [if_pos ⟨hr, h⟩, if_pos h]
    · rw [if_neg fun a => h a.2, if_neg h], fun b q _ => start_op hp b q, fun s _ p _ => cdK_at hp _ (Nat.le_refl _) s p, fun q hq => start_ob hp q hq⟩
end
end Go.Proofs.YtcobmbclhhimjaaGreat.Fa
/- solve, Solve. -/
namespace Go.Proofs.YtcobmbclhhimjaaGreat.Fa
open Go.RowKit

/-! How many tags there are. -/
def b2n (b : Bool) : Nat := if b then 1 else 0
def cntT (m : List Int) (q : Nat) : Nat := b2n (hs m q 1) + b2n (hs m q 2) + b2n (hs m q 3) + b2n (hs m q 4)
def cntF (m : List Int) : Nat → Nat
  | 0 => 0
  | k + 1 => cntF m k + cntT m k
theorem b2n_le (b : Bool) : b2n b ≤ 1 := by cases b <;> simp [b2n]
theorem b2n_mono {a b : Bool} (h : a = true → b = true) : b2n a ≤ b2n b := by cases a <;> cases b <;> simp_all [b2n]
theorem cntT_le {m : List Int} {q : Nat} : cntT m q ≤ 4 := by
  unfold cntT
  have := b2n_le (hs m q 1)
  have := b2n_le (hs m q 2)
  have := b2n_le (hs m q 3)
  have := b2n_le (hs m q 4)
  omega
theorem cntF_le {m : List Int} : ∀ {k : Nat}, cntF m k ≤ 4 * k
  | 0 => by simp [cntF]
  | k + 1 => by
    have := cntF_le (m := m) (k := k)
    have := cntT_le (m := m) (q := k)
    unfold cntF
    omega
theorem cntT_mono {m m' : List Int} (h : Le m m') {q : Nat} : cntT m q ≤ cntT m' q := by
  unfold cntT
  have h1 := b2n_mono (h q 1 (by omega) tag1)
  have h2 := b2n_mono (h q 2 (by omega) tag2)
  have h3 := b2n_mono (h q 3 (by omega) tag3)
  have h4 := b2n_mono (h q 4 (by omega) tag4)
  omega
theorem cntF_mono {m m' : List Int} (h : Le m m') : ∀ {k : Nat}, cntF m k ≤ cntF m' k
  | 0 => Nat.le_refl _
  | k + 1 => by
    have := cntF_mono h (k := k)
    have := cntT_mono h (q := k)
    unfold cntF
    omega
theorem cntF_lt {m m' : List Int} (h : Le m m') {q : Nat} (hq : cntT m q < cntT m' q) : ∀ {k : Nat}, q < k → cntF m k < cntF m' k
  | 0, hk => by omega
  | k + 1, hk => by
    have h1 := cntT_mono h (q := k)
    unfold cntF
    by_cases e : q = k
    · subst e
      have := cntF_mono h (k := q)
      omega
    · have := cntF_lt h hq (k := k) (by omega)
      omega
theorem b2n_lt {a b : Bool} (h1 : a = false) (h2 : b = true) : b2n a < b2n b := by rw [h1, h2]; decide
theorem cntT_lt {m m' : List Int} (h : Le m m') {q : Nat} {t : Int} (ht : isTag t) (h1 : hs m q t = false) (h2 : hs m' q t = true) : cntT m q < cntT m' q := by
  unfold cntT
  have g1 := b2n_mono (h q 1 (by omega) tag1)
  have g2 := b2n_mono (h q 2 (by omega) tag2)
  have g3 := b2n_mono (h q 3 (by omega) tag3)
  have g4 := b2n_mono (h q 4 (by omega) tag4)
  have g5 := b2n_lt h1 h2
  rcases ht with rfl | rfl | rfl | rfl <;> omega
/-- A round that brings nothing new leaves all as it is. -/
theorem round_fix {T : Th} {F m : List Int} (h : ∀ (q : Nat) (t : Int), q < m.length → isTag t → (!hs m q t && condM T F m t q) = false) : roundM T F m = m := by
  apply List.ext_getElem?
  intro q
  by_cases hq : q < m.length
  · unfold roundM
    rw [List.getElem?_map, List.getElem?_range hq, List.getElem?_eq_getElem hq]
    have e : m.getD q 0 = m[q] := by rw [List.getD_eq_getElem?_getD, List.getElem?_eq_getElem hq]; rfl
    show some (addM T F m q 4 (addM T F m q 3 (addM T F m q 2 (addM T F m q 1 (m.getD q 0))))) = _
    have a : ∀ (t x : Int), isTag t → addM T F m q t x = x := fun t x ht => by unfold addM; rw [h q t hq ht]; rfl
    rw [a 1 _ tag1, a 2 _ tag2, a 3 _ tag3, a 4 _ tag4, e]
  · rw [List.getElem?_eq_none (by rw [round_len]; omega), List.getElem?_eq_none (by omega)]
theorem round_more {T : Th} {F m : List Int} (hb : Bys m) (hne : roundM T F m ≠ m) : cntF m m.length < cntF (roundM T F m) m.length := by
  apply Classical.byContradiction
  intro hn
  apply hne
  refine round_fix fun q t hq ht => ?_
  cases e : (!hs m q t && condM T F m t q) with
  | false => rfl
  | true =>
    exfalso
    simp only [Bool.and_eq_true, Bool.not_eq_true'] at e
    refine hn (cntF_lt (round_le hb) (cntT_lt (round_le hb) ht e.1 ?_) hq)
    rw [hs_round hb (by omega) (by omega) ht, e.2]
    simp
/-- Rounds come to an end. -/
theorem sol_exists {T : Th} {F : List Int} {n : Nat} (hp : Pf T F n) : ∃ m k, Sol T F m k := by
  have key : ∀ (d k : Nat), 4 * n ≤ cntF (iterM T F k (List.replicate T.lits.toNat 0)) n + d → ∃ m k, Sol T F m k := by
    intro d
    induction d with
    | zero =>
      intro k h
      refine ⟨_, k, rfl, ?_⟩
      by_cases hne : roundM T F (iterM T F k (List.replicate T.lits.toNat 0)) = iterM T F k (List.replicate T.lits.toNat 0)
      · exact hne
      · have h2 : cntF (iterM T F k (List.replicate T.lits.toNat 0)) (iterM T F k (List.replicate T.lits.toNat 0)).length < cntF (roundM T F (iterM T F k (List.replicate T.lits.toNat 0))) (iterM T F k (List.replicate T.lits.toNat 0)).length := round_more Mk_bys hne
        rw [show (iterM T F k (List.replicate T.lits.toNat 0)).length = n from Mk_len hp] at h2
        have h3 := cntF_le (m := roundM T F (iterM T F k (List.replicate T.lits.toNat 0))) (k := n)
        omega
    | succ d ih =>
      intro k h
      by_cases hne : roundM T F (iterM T F k (List.replicate T.lits.toNat 0)) = iterM T F k (List.replicate T.lits.toNat 0)
      · exact ⟨_, k, rfl, hne⟩
      · refine ih (k + 1) ?_
        have h2 : cntF (iterM T F k (List.replicate T.lits.toNat 0)) (iterM T F k (List.replicate T.lits.toNat 0)).length < cntF (roundM T F (iterM T F k (List.replicate T.lits.toNat 0))) (iterM T F k (List.replicate T.lits.toNat 0)).length := round_more Mk_bys hne
        rw [show (iterM T F k (List.replicate T.lits.toNat 0)).length = n from Mk_len hp] at h2
        rw [iter_succ]
        omega
  exact key (4 * n) 0 (by omega)
end Go.Proofs.YtcobmbclhhimjaaGreat.Fa
