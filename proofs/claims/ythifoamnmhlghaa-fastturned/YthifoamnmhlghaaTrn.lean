/- Two rules in each other's place: the same theory for the rounds. No Go in sight. -/
import Derived.Test.YthifoamnmhlghaaRnk
import Derived.Test.YthifoamnmhlghaaLit
namespace Go.Proofs.Ythifoamnmhlghaa.Fa
open Go.RowKit

def sN (a b i : Nat) : Nat := if i = a then b else if i = b then a else i
def sw (a b : Nat) (x : Int) : Int := if x = a then b else if x = b then a else x
section
variable {a b : Nat}
theorem sN_lt {n i : Nat} (ha : a < n) (hb : b < n) (hi : i < n) : sN a b i < n := by unfold sN; split <;> (try split) <;> omega
theorem sN_sN {i : Nat} : sN a b (sN a b i) = i := by
  unfold sN
  by_cases h1 : i = a
  · subst h1; rw [if_pos rfl]; by_cases h2 : b = i
    · rw [if_pos h2]; omega
    · rw [if_neg h2, if_pos rfl]
  · rw [if_neg h1]
    by_cases h2 : i = b
    · subst h2; rw [if_pos rfl, if_pos rfl]
    · rw [if_neg h2, if_neg h1, if_neg h2]
theorem sw_nat {i : Nat} : sw a b (i : Int) = (sN a b i : Nat) := by
  unfold sw sN
  by_cases h1 : i = a
  · subst h1; simp
  · have h1' : ¬ (i : Int) = (a : Int) := by omega
    rw [if_neg h1, if_neg h1']
    by_cases h2 : i = b
    · subst h2; simp
    · have h2' : ¬ (i : Int) = (b : Int) := by omega
      rw [if_neg h2, if_neg h2']
theorem sw_sw {x : Int} : sw a b (sw a b x) = x := by
  unfold sw
  by_cases h1 : x = a
  · subst h1; rw [if_pos rfl]; by_cases h2 : (b : Int) = a
    · rw [if_pos h2]; omega
    · rw [if_neg h2, if_pos rfl]
  · rw [if_neg h1]
    by_cases h2 : x = b
    · subst h2; rw [if_pos rfl, if_pos rfl]
    · rw [if_neg h2, if_neg h1, if_neg h2]
end
def beatsU (T : Th) (a b : Nat) : List (List Int) := (List.range T.rules.length).map fun i : Nat => soL (fun x => decide (sw a b x ∈ row T.beats (sw a b i))) T.rules.length
/-- The theory with two rules in each other's place. -/
def turnT (T : Th) (a b : Nat) (x y : RuleM) : Th := ⟨T.lits, T.foes, (T.rules.set a y).set b x, beatsU T a b⟩
section
variable {T : Th} {a b : Nat} {x y : RuleM} (hx : T.rules[a]? = some x) (hy : T.rules[b]? = some y)
include hx hy
theorem turn_at (i : Nat) : (turnT T a b x y).rules[i]? = T.rules[sN a b i]? := by
  have ha := (List.getElem?_eq_some_iff.1 hx).1
  have hb := (List.getElem?_eq_some_iff.1 hy).1
  show ((T.rules.set a y).set b x)[i]? = _
  rw [List.getElem?_set, List.getElem?_set, List.length_set]
  unfold sN
  by_cases h1 : b = i
  · subst h1
    rw [if_pos rfl, if_pos hb]
    by_cases h2 : b = a
    · rw [if_pos h2]; rw [← h2] at hx; exact hx.symm
    · rw [if_neg h2, if_pos rfl]; exact hx.symm
  · rw [if_neg h1]
    by_cases h2 : a = i
    · subst h2; rw [if_pos rfl, if_pos ha, if_pos rfl]; exact hy.symm
    · rw [if_neg h2, if_neg (fun e => h2 e.symm), if_neg (fun e => h1 e.symm)]
theorem turn_mem {r : RuleM} (h : r ∈ (turnT T a b x y).rules) : r ∈ T.rules := by
  obtain ⟨i, hi⟩ := List.getElem?_of_mem h
  rw [turn_at hx hy] at hi
  exact List.mem_of_getElem? hi
omit hx hy in
theorem turn_len : (turnT T a b x y).rules.length = T.rules.length := by show ((T.rules.set a y).set b x).length = _; rw [List.length_set, List.length_set]
omit hx hy in
theorem turn_bl : (turnT T a b x y).beats.length = T.rules.length := by show (beatsU T a b).length = _; unfold beatsU; simp
omit hx hy in
theorem turn_beats {i : Nat} (hi : i < T.rules.length) : (turnT T a b x y).beats[i]? = some (soL (fun x => decide (sw a b x ∈ row T.beats (sw a b i))) T.rules.length) := by
  show (beatsU T a b)[i]? = _
  unfold beatsU
  rw [List.getElem?_map, List.getElem?_range hi]
  rfl
omit hx hy in
theorem row_turn {i : Nat} {z : Int} (hi : i < T.rules.length) : z ∈ row (turnT T a b x y).beats (i : Int) ↔ 0 ≤ z ∧ z < T.rules.length ∧ sw a b z ∈ row T.beats (sw a b i) := by
  rw [row_at (by rw [Int.toNat_natCast]; exact turn_beats hi), soL_mem]
  constructor
  · rintro ⟨q, rfl, hq, h⟩
    exact ⟨by omega, by omega, of_decide_eq_true h⟩
  · rintro ⟨h0, h1, h⟩
    obtain ⟨q, rfl⟩ := Int.eq_ofNat_of_zero_le h0
    exact ⟨q, rfl, by omega, decide_eq_true h⟩
theorem turn_head {i : Nat} : headOf (turnT T a b x y) (i : Int) = headOf T (sw a b i) := by
  unfold headOf
  rw [sw_nat, Int.toNat_natCast, Int.toNat_natCast, turn_at hx hy]
theorem turn_cnt {z : Int} : cntM (turnT T a b x y) z = cntM T z := by
  have ha := (List.getElem?_eq_some_iff.1 hx).1
  have hb := (List.getElem?_eq_some_iff.1 hy).1
  have ea := (List.getElem?_eq_some_iff.1 hx).2
  have eb := (List.getElem?_eq_some_iff.1 hy).2
  show (((T.rules.set a y).set b x).filter fun r => decide (r.head = z)).length = (T.rules.filter fun r => decide (r.head = z)).length
  rw [← List.countP_eq_length_filter, ← List.countP_eq_length_filter, List.countP_set (by rw [List.length_set]; exact hb), List.countP_set ha, List.getElem_set, ea, eb]
  have p1 : x.head = z → 0 < T.rules.countP fun r => decide (r.head = z) := fun e => List.countP_pos_iff.2 ⟨x, List.mem_of_getElem? hx, by simpa using e⟩
  by_cases h : a = b
  · subst h
    have exy : x = y := by rw [hx] at hy; exact Option.some.inj hy
    subst exy
    by_cases h1 : x.head = z
    · have := p1 h1
      simp [h1]; omega
    · simp [h1]
  · have p2 : y.head = z → 0 < T.rules.countP fun r => decide (r.head = z) := fun e => List.countP_pos_iff.2 ⟨y, List.mem_of_getElem? hy, by simpa using e⟩
    rw [if_neg h]
    by_cases h1 : x.head = z <;> by_cases h2 : y.head = z
    · have := p1 h1
      simp [h1, h2]; omega
    · have := p1 h1
      simp [h1, h2]; omega
    · simp [h1, h2]
    · simp [h1, h2]
theorem turn_pairs : pairsM (turnT T a b x y) = pairsM T := by
  have h1 : ∀ (i : Nat) (l : List Int), pairsRow (turnT T a b x y) i l = pairsRow T i l := fun i l => by
    induction l with
    | nil => rfl
    | cons f r ih => rw [pairsRow, pairsRow, ih, turn_cnt hx hy, turn_cnt hx hy]
  have h2 : ∀ (L : List (List Int)) (i : Nat), pairsFrom (turnT T a b x y) i L = pairsFrom T i L := fun L => by
    induction L with
    | nil => intro i; rfl
    | cons f r ih => intro i; rw [pairsFrom, pairsFrom, ih, h1]
  exact h2 _ _
omit hx hy in
theorem soL_rises {p : Int → Bool} {n : Nat} : risesM (soL p n) n = true := by
  refine rises_iff.2 ⟨fun z hz => ?_, ?_⟩
  · obtain ⟨q, rfl, hq, -⟩ := soL_mem.1 hz
    omega
  · unfold soL
    rw [List.pairwise_map]
    exact (List.pairwise_lt_range.filter _).imp fun {u v} h => by show (u : Int) < (v : Int); omega
/-- It may be as well. -/
theorem turn_check (h : (checkM T).1 = 0) : (checkM (turnT T a b x y)).1 = 0 := by
  have hok := check_ok h
  have ha := (List.getElem?_eq_some_iff.1 hx).1
  have hb := (List.getElem?_eq_some_iff.1 hy).1
  obtain ⟨rk, B, -, hrk⟩ := no_ring hok
  unfold checkM at h ⊢
  split at h
  · cases h
  rename_i h1
  rw [if_neg (show ¬((turnT T a b x y).lits < 0 ∨ 4096 < (turnT T a b x y).lits) from h1)]
  simp only [orM_zero] at h ⊢
  refine ⟨h.1, ?_, ?_, ?_, ?_⟩
  · unfold ruleM
    rw [if_neg (by rw [turn_len]; have := hok.rl; omega), atM_zero (by decide), first_none]
    intro i r hi
    have := hok.rule r (turn_mem hx hy (List.mem_of_getElem? hi))
    rw [Bool.not_eq_false']
    exact okR_of.2 this
  · unfold pairM
    rw [turn_pairs hx hy]
    exact h.2.2.1
  · unfold beatM
    rw [if_neg (by rw [turn_bl, turn_len]; simp), atM_zero (by decide), first_none]
    intro i l hi
    have hin : i < T.rules.length := by rw [← turn_bl (T := T) (a := a) (b := b) (x := x) (y := y)]; exact (List.getElem?_eq_some_iff.1 hi).1
    have hs := sN_lt ha hb hin
    rw [turn_beats hin] at hi
    have el := Option.some.inj hi
    rw [Nat.zero_add]
    unfold badBeat
    have e1 : risesM l (turnT T a b x y).rules.length = true := by rw [turn_len, ← el]; exact soL_rises
    have e2 : (l.all fun c => decide (headOf (turnT T a b x y) c ∈ row (turnT T a b x y).foes (headOf (turnT T a b x y) (i : Int)))) = true := by
      rw [List.all_eq_true]
      intro c hc
      rw [← el] at hc
      obtain ⟨q, rfl, hq, hp⟩ := soL_mem.1 hc
      have hp := of_decide_eq_true hp
      rw [sw_nat, sw_nat] at hp
      obtain ⟨l', hl'⟩ := get_at (l := T.beats) (i := sN a b i) (by rw [hok.bl]; exact hs)
      rw [row_at (by rw [Int.toNat_natCast]; exact hl')] at hp
      have := (hok.beat _ l' hl').2 _ hp
      refine decide_eq_true ?_
      rw [turn_head hx hy, turn_head hx hy, sw_nat, sw_nat]
      exact this
    rw [e1, e2]
    rfl
  · have hd : Down (turnT T a b x y).beats (turnT T a b x y).beats.length (fun z => rk (sw a b z)) := by
      rw [turn_bl]
      intro p hp o ho
      obtain ⟨i, rfl⟩ := Int.eq_ofNat_of_zero_le hp.1
      obtain ⟨h3, h4, h5⟩ := (row_turn (by have := hp.2; omega)).1 ho
      exact ⟨⟨h3, h4⟩, hrk _ _ (by rw [sw_nat]; omega) h5⟩
    rw [circle_none hd]
theorem turn_rules {p : RuleM → Bool} {z r : Int} : r ∈ rulesL (turnT T a b x y) p z ↔ sw a b r ∈ rulesL T p z := by
  rw [mem_rules, mem_rules]
  constructor
  · rintro ⟨i, R, rfl, h1, h2⟩
    rw [turn_at hx hy] at h1
    exact ⟨_, R, sw_nat, h1, h2⟩
  · rintro ⟨i, R, e, h1, h2⟩
    refine ⟨sN a b i, R, ?_, ?_, h2⟩
    · rw [← sw_nat, ← e, sw_sw]
    · rw [turn_at hx hy, sN_sN]; exact h1
theorem turn_any {p : RuleM → Bool} {z : Int} {g g' : Int → Bool} (hg : ∀ r ∈ rulesL T p z, g (sw a b r) = g' r) : (rulesL (turnT T a b x y) p z).any g = (rulesL T p z).any g' := by
  rw [Bool.eq_iff_iff, List.any_eq_true, List.any_eq_true]
  constructor
  · rintro ⟨r, hr, h⟩
    have hr := (turn_rules hx hy).1 hr
    exact ⟨_, hr, by rw [← hg _ hr, sw_sw]; exact h⟩
  · rintro ⟨r, hr, h⟩
    exact ⟨sw a b r, (turn_rules hx hy).2 (by rw [sw_sw]; exact hr), by rw [hg _ hr]; exact h⟩
theorem turn_all {p : RuleM → Bool} {z : Int} {g g' : Int → Bool} (hg : ∀ r ∈ rulesL T p z, g (sw a b r) = g' r) : (rulesL (turnT T a b x y) p z).all g = (rulesL T p z).all g' := by
  rw [Bool.eq_iff_iff, List.all_eq_true, List.all_eq_true]
  constructor
  · intro h r hr
    rw [← hg _ hr]
    exact h _ ((turn_rules hx hy).2 (by rw [sw_sw]; exact hr))
  · intro h r hr
    have hr := (turn_rules hx hy).1 hr
    have := h _ hr
    rw [← hg _ hr, sw_sw] at this
    exact this
theorem turn_body {p : RuleM → Bool} {z r : Int} (hr : r ∈ rulesL T p z) : bodyM (turnT T a b x y) (sw a b r) = bodyM T r := by
  obtain ⟨i, R, rfl, h1, -⟩ := mem_rules.1 hr
  unfold bodyM
  rw [sw_nat, Int.toNat_natCast, Int.toNat_natCast, turn_at hx hy, sN_sN]
theorem turn_beat {p p' : RuleM → Bool} {z z' t s : Int} (ht : t ∈ rulesL T p z) (hs : s ∈ rulesL T p' z') : beatB (turnT T a b x y) (sw a b t) (sw a b s) = beatB T t s := by
  have ha := (List.getElem?_eq_some_iff.1 hx).1
  have hb := (List.getElem?_eq_some_iff.1 hy).1
  obtain ⟨i, R, rfl, h1, -⟩ := mem_rules.1 ht
  obtain ⟨j, R', rfl, h2, -⟩ := mem_rules.1 hs
  have hi := sN_lt ha hb (List.getElem?_eq_some_iff.1 h1).1
  have hj := sN_lt ha hb (List.getElem?_eq_some_iff.1 h2).1
  unfold beatB
  rw [decide_eq_decide, sw_nat, sw_nat, row_turn hi, ← sw_nat, ← sw_nat, sw_sw, sw_sw, sw_nat]
  exact ⟨fun h => h.2.2, fun h => ⟨by omega, by omega, h⟩⟩
theorem turn_cond {F m : List Int} {t q : Int} : condM (turnT T a b x y) F m t q = condM T F m t q := by
  have w1 : ∀ {p : RuleM → Bool} {z : Int} (k : Int), ∀ r ∈ rulesL T p z, wholeB (turnT T a b x y) m (sw a b r) k = wholeB T m r k := fun k r hr => by unfold wholeB; rw [turn_body hx hy hr]
  have w2 : ∀ {p : RuleM → Bool} {z : Int} (k : Int), ∀ r ∈ rulesL T p z, partB (turnT T a b x y) m (sw a b r) k = partB T m r k := fun k r hr => by unfold partB; rw [turn_body hx hy hr]
  have e1 : plusS (turnT T a b x y) F m q = plusS T F m q := by unfold plusS; rw [turn_any hx hy (w1 1)]
  have e2 : minusS (turnT T a b x y) F m q = minusS T F m q := by unfold minusS; rw [turn_all hx hy (w2 2)]
  have e3 : plusD (turnT T a b x y) m q = plusD T m q := by
    have e : ∀ f, ((rulesL (turnT T a b x y) kA f).all fun s => atkP (turnT T a b x y) m q s) = (rulesL T kA f).all fun s => atkP T m q s := fun f =>
      turn_all hx hy fun s hs => by
        unfold atkP
        rw [w2 4 s hs, turn_any hx hy fun t ht => by rw [turn_beat hx hy ht hs, w1 3 t ht]]
    unfold plusD
    rw [turn_any hx hy (w1 3)]
    simp only [e]
    rfl
  have e4 : minusD (turnT T a b x y) m q = minusD T m q := by
    have e : ∀ f, ((rulesL (turnT T a b x y) kA f).any fun s => atkM (turnT T a b x y) m q s) = (rulesL T kA f).any fun s => atkM T m q s := fun f =>
      turn_any hx hy fun s hs => by
        unfold atkM
        rw [w1 3 s hs, turn_all hx hy fun t ht => by rw [turn_beat hx hy ht hs, w2 4 t ht]]
    unfold minusD
    rw [turn_all hx hy (w2 4)]
    simp only [e]
    rfl
  unfold condM
  rw [e1, e2, e3, e4]
theorem turn_round {F m : List Int} : roundM (turnT T a b x y) F m = roundM T F m := by
  have e : ∀ (q : Int) (k : Nat) (z : Int), addsM (turnT T a b x y) F m q k z = addsM T F m q k z := fun q k z => by
    induction k with
    | zero => rfl
    | succ k ih => rw [addsM, addsM, ih]; unfold addM; rw [turn_cond hx hy]
  unfold roundM
  simp only [e]
theorem turn_iter {F : List Int} : ∀ {k : Nat} {m : List Int}, iterM (turnT T a b x y) F k m = iterM T F k m
  | 0, _ => rfl
  | k + 1, m => by rw [iterM, iterM, turn_round hx hy, turn_iter]
/-- Rounds end with the same. -/
theorem turn_sol {F m : List Int} {k : Nat} (h : Sol T F m k) : Sol (turnT T a b x y) F m k := ⟨by rw [turn_iter hx hy]; exact h.1, by rw [turn_round hx hy]; exact h.2⟩
theorem turn_fault {F : List Int} (h : faultM T F = 0) : faultM (turnT T a b x y) F = 0 := by
  unfold faultM at h ⊢
  by_cases hc : (checkM T).1 ≠ 0
  · rw [if_pos hc] at h; exact absurd h hc
  · rw [if_neg hc] at h
    rw [if_neg (fun e => e (turn_check hx hy (Classical.not_not.1 hc)))]
    exact h
end
end Go.Proofs.Ythifoamnmhlghaa.Fa
