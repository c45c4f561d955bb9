/- A chain of rules, plainly. No Go in sight. -/
import Derived.Test.YthifoamnmhlghaaLa
namespace Go.Proofs.Ythifoamnmhlghaa.Fa

/-- So many rules, each from one literal to the next. -/
def chR (κ : Nat → Nat) (k : Nat) : List RuleM := (List.range k).map fun i : Nat => ⟨2, ((κ i + 1 : Nat) : Int), [((κ i : Nat) : Int)]⟩
def chT (n : Nat) (κ : Nat → Nat) : Th := ⟨n, List.replicate n [], chR κ (n - 1), List.replicate (n - 1) []⟩
section
variable {n k : Nat} {κ : Nat → Nat}
theorem chR_len : (chR κ k).length = k := by unfold chR; simp
theorem chR_at {i : Nat} (h : i < k) : (chR κ k)[i]? = some ⟨2, ((κ i + 1 : Nat) : Int), [((κ i : Nat) : Int)]⟩ := by unfold chR; rw [List.getElem?_map, List.getElem?_range h]; rfl
theorem rep_row {j : Nat} {q : Int} : row (List.replicate j []) q = [] := by
  unfold row
  rw [List.getD_eq_getElem?_getD, List.getElem?_replicate]
  split <;> rfl
theorem ch_foes {q : Int} : row (chT n κ).foes q = [] := rep_row
/-! It may be. -/
structure Fre (s : Wk) : Prop where
  o : s.opn = []
  l : s.back.length = s.came.length
  k : ∀ x ∈ s.knots, x.length ≤ 1
theorem set_same {l l2 : List Int} {i : Nat} {v : Int} (h : l.length = l2.length) : (l.set i v).getD i 0 = (l2.set i v).getD i 0 := by
  rw [List.getD_eq_getElem?_getD, List.getD_eq_getElem?_getD, List.getElem?_set, List.getElem?_set, if_pos rfl, if_pos rfl, h]
theorem Fre.visit {R f : Nat} {p : Int} {s : Wk} (h : Fre s) : Fre (visitM (List.replicate R []) (f + 1) p s) := by
  have h1 : visitM (List.replicate R []) (f + 1) p s = endM p (comeM p s) := by
    show endM p (othersM _ p (row (List.replicate R []) p) (comeM p s)) = _
    rw [rep_row]
    rfl
  rw [h1]
  unfold endM
  have hop : (comeM p s).opn = [p] := by show s.opn ++ [p] = [p]; rw [h.o]; rfl
  rw [if_pos (show (comeM p s).back.getD p.toNat 0 = (comeM p s).came.getD p.toNat 0 from set_same h.l)]
  unfold shutM
  rw [hop]
  have hpop : popM p [p].reverse = ([p], []) := by
    show popM p [p] = _
    unfold popM
    rw [if_pos rfl]
  rw [hpop]
  refine ⟨rfl, ?_, fun x hx => ?_⟩
  · show (s.back.set p.toNat (s.clock + 1)).length = (s.came.set p.toNat (s.clock + 1)).length
    rw [List.length_set, List.length_set]
    exact h.l
  · have hx : x ∈ s.knots ++ [[p]] := hx
    rcases List.mem_append.1 hx with hx | hx
    · exact h.k x hx
    · rw [List.mem_singleton.1 hx]; exact Nat.le_refl _
theorem Fre.each {R f : Nat} : ∀ {j i : Nat} {s : Wk}, Fre s → Fre (eachM (List.replicate R []) (f + 1) j i s)
  | 0, _, _, h => h
  | j + 1, i, s, h => by
    show Fre (eachM (List.replicate R []) (f + 1) j (i + 1) (if s.came.getD i 0 = 0 then visitM (List.replicate R []) (f + 1) i s else s))
    refine Fre.each ?_
    split
    · exact h.visit
    · exact h
theorem low_fold : ∀ {K : List (List Int)} {v : Int}, (∀ x ∈ K, x.length ≤ 1) → K.foldl lowM v = v
  | [], _, _ => rfl
  | x :: K, v, h => by
    have hx := h x List.mem_cons_self
    rw [List.foldl_cons, show lowM v x = v from by unfold lowM; rw [if_neg (by omega)]]
    exact low_fold fun y hy => h y (List.mem_cons_of_mem _ hy)
theorem free_low {T : Th} {R : Nat} (hb : T.beats = List.replicate R []) : lowestM T = T.rules.length := by
  unfold lowestM
  refine low_fold fun x hx => ?_
  rw [hb] at hx
  unfold knotsM at hx
  rw [List.length_replicate] at hx
  have hs : Fre (startM R) := ⟨rfl, by show (List.replicate R (0 : Int)).length = (List.replicate R (0 : Int)).length; rfl, fun y hy => by cases hy⟩
  cases R with
  | zero => cases hx
  | succ R => exact hs.each.k x hx
theorem free_pairs {T : Th} : ∀ {j i : Nat}, pairsFrom T i (List.replicate j []) = 0
  | 0, _ => rfl
  | j + 1, i => by
    show pairsRow T i [] + pairsFrom T (i + 1) (List.replicate j []) = 0
    rw [free_pairs]
    rfl
theorem ch_ok (hn : 2 ≤ n) (hn2 : n ≤ 400) (hk : ∀ i, i < n - 1 → κ i < n - 1) {F : List Int} (hF : risesM F n = true) : faultM (chT n κ) F = 0 := by
  have rep : ∀ {j i : Nat} {x : List Int}, (List.replicate j ([] : List Int))[i]? = some x → x = [] := fun h => by
    rw [List.getElem?_replicate] at h
    split at h
    · cases h; rfl
    · cases h
  have hc : (checkM (chT n κ)).1 = 0 := by
    unfold checkM
    rw [if_neg (show ¬ ((chT n κ).lits < 0 ∨ 4096 < (chT n κ).lits) by show ¬ ((n : Int) < 0 ∨ 4096 < (n : Int)); omega)]
    simp only [orM_zero]
    refine ⟨?_, ?_, ?_, ?_, ?_⟩
    · unfold foeM
      rw [if_neg (by show ¬ (((List.replicate n ([] : List Int)).length : Int) ≠ (n : Int)); simp), atM_zero (by decide), first_none]
      intro j x hx
      rw [rep hx]
      simp [badFoe, risesM, risesF, returnedM]
    · unfold ruleM
      rw [if_neg (by show ¬ 4096 < (chR κ (n - 1)).length; rw [chR_len]; omega), atM_zero (by decide), first_none]
      intro j x hx
      have hx : (chR κ (n - 1))[j]? = some x := hx
      have hj : j < n - 1 := by have := (List.getElem?_eq_some_iff.1 hx).1; rw [chR_len] at this; exact this
      rw [chR_at hj] at hx
      cases hx
      have := hk j hj
      rw [Bool.not_eq_false']
      unfold okRule inM risesM risesF risesF
      have h1 : ((κ j + 1 : Nat) : Int) < (chT n κ).lits := by show ((κ j + 1 : Nat) : Int) < (n : Int); omega
      have h2 : ¬ (((κ j : Nat) : Int) ≤ -1 ∨ (chT n κ).lits ≤ ((κ j : Nat) : Int)) := by show ¬ (((κ j : Nat) : Int) ≤ -1 ∨ (n : Int) ≤ ((κ j : Nat) : Int)); omega
      simp
      omega
    · unfold pairM
      rw [if_neg (by show ¬ 65536 < pairsFrom (chT n κ) 0 (List.replicate n []); rw [free_pairs]; omega)]
    · unfold beatM
      rw [if_neg (by show ¬ ((List.replicate (n - 1) ([] : List Int)).length ≠ (chR κ (n - 1)).length); rw [chR_len]; simp), atM_zero (by decide), first_none]
      intro j x hx
      rw [rep hx]
      simp [badBeat, risesM, risesF]
    · unfold circleM
      rw [free_low (R := n - 1) rfl, if_neg (by omega)]
  unfold faultM
  rw [if_neg (by rw [hc]; decide), show risesM F (chT n κ).lits = true from hF]
  rfl
/-! What follows by it. -/
theorem ch_rule {p : RuleM → Bool} {z r : Int} (h : r ∈ rulesL (chT n κ) p z) : ∃ i : Nat, i < n - 1 ∧ r = (i : Int) ∧ z = ((κ i + 1 : Nat) : Int) ∧ p ⟨2, ((κ i + 1 : Nat) : Int), [((κ i : Nat) : Int)]⟩ = true := by
  obtain ⟨a, x, e, hx, hp, hh⟩ := mem_rules.1 h
  have hx : (chR κ (n - 1))[a]? = some x := hx
  have ha : a < n - 1 := by have := (List.getElem?_eq_some_iff.1 hx).1; rw [chR_len] at this; exact this
  rw [chR_at ha] at hx
  cases hx
  exact ⟨a, ha, e, hh.symm, hp⟩
theorem ch_body {i : Nat} (h : i < n - 1) : bodyM (chT n κ) (i : Int) = [((κ i : Nat) : Int)] := by
  unfold bodyM
  rw [Int.toNat_natCast]
  show (((chR κ (n - 1))[i]?).map RuleM.body).getD [] = _
  rw [chR_at h]
  rfl
theorem ch_team {i : Nat} (h : i < n - 1) : (i : Int) ∈ rulesL (chT n κ) kT ((κ i + 1 : Nat) : Int) := mem_rules.2 ⟨i, _, rfl, chR_at h, rfl, rfl⟩
theorem ch_strict {q : Int} : rulesL (chT n κ) kS q = [] := by
  apply List.eq_nil_iff_forall_not_mem.2
  intro r hr
  obtain ⟨i, -, -, -, hp⟩ := ch_rule hr
  exact absurd hp (by unfold kS; simp)
variable {F m : List Int} {j : Nat}
theorem ch_one (hp : Pf (chT n κ) F n) (hs_ : Sol (chT n κ) F m j) {q : Nat} (hq : q < n) : hs m q 1 = decide ((q : Int) ∈ F) := by
  rw [Bool.eq_iff_iff, sol_iff hp hs_ (by omega) (by omega) tag1, decide_eq_true_iff, show condM (chT n κ) F m 1 q = plusS (chT n κ) F m q from rfl, plusS_iff]
  constructor
  · rintro (h | ⟨r, hr, -⟩)
    · exact h
    · rw [ch_strict] at hr; cases hr
  · exact .inl
theorem ch_two (hp : Pf (chT n κ) F n) (hs_ : Sol (chT n κ) F m j) {q : Nat} (hq : q < n) : hs m q 2 = decide ((q : Int) ∉ F) := by
  rw [Bool.eq_iff_iff, sol_iff hp hs_ (by omega) (by omega) tag2, decide_eq_true_iff, show condM (chT n κ) F m 2 q = minusS (chT n κ) F m q from rfl, minusS_iff]
  constructor
  · exact fun h => h.1
  · exact fun h => ⟨h, fun r hr => by rw [ch_strict] at hr; cases hr⟩
theorem ch_none (hp : Pf (chT n κ) [] n) (hs_ : Sol (chT n κ) [] m j) : ∀ q : Nat, q < n → hs m q 3 = false ∧ hs m q 4 = true := by
  intro q
  induction q with
  | zero =>
    intro hq
    constructor
    · cases h : hs m ((0 : Nat) : Int) 3 with
      | false => rfl
      | true =>
        exfalso
        rcases plusD_iff.1 ((sol_iff hp hs_ (by omega) (by omega) tag3).1 h) with h1 | ⟨⟨r, hr, -⟩, -, -⟩
        · rw [ch_one hp hs_ hq] at h1; simp at h1
        · obtain ⟨i, -, -, e, -⟩ := ch_rule hr; omega
    · refine (sol_iff hp hs_ (by omega) (by omega) tag4).2 (minusD_iff.2 ⟨by rw [ch_two hp hs_ hq]; simp, .inl fun r hr => ?_⟩)
      obtain ⟨i, -, -, e, -⟩ := ch_rule hr
      omega
  | succ q ih =>
    intro hq
    obtain ⟨i3, i4⟩ := ih (by omega)
    constructor
    · cases h : hs m ((q + 1 : Nat) : Int) 3 with
      | false => rfl
      | true =>
        exfalso
        rcases plusD_iff.1 ((sol_iff hp hs_ (by omega) (by omega) tag3).1 h) with h1 | ⟨⟨r, hr, hw⟩, -, -⟩
        · rw [ch_one hp hs_ hq] at h1; simp at h1
        · obtain ⟨i, hi, rfl, e, -⟩ := ch_rule hr
          have := whl_iff.1 hw ((κ i : Nat) : Int) (by rw [ch_body hi]; simp)
          rw [show κ i = q by omega, i3] at this
          cases this
    · refine (sol_iff hp hs_ (by omega) (by omega) tag4).2 (minusD_iff.2 ⟨by rw [ch_two hp hs_ hq]; simp, .inl fun r hr => ?_⟩)
      obtain ⟨i, hi, rfl, e, -⟩ := ch_rule hr
      exact prt_iff.2 ⟨((κ i : Nat) : Int), by rw [ch_body hi]; simp, by rw [show κ i = q by omega]; exact i4⟩
theorem ch_fact (hp : Pf (chT n κ) [0] n) (hs_ : Sol (chT n κ) [0] m j) (hsur : ∀ q, q < n - 1 → ∃ i, i < n - 1 ∧ κ i = q) : ∀ q : Nat, q < n → hs m q 3 = true := by
  intro q
  induction q with
  | zero => intro hq; exact sol_up hp hs_ (by omega) (by omega) (by rw [ch_one hp hs_ hq]; simp)
  | succ q ih =>
    intro hq
    obtain ⟨i, hi, rfl⟩ := hsur q (by omega)
    refine (sol_iff hp hs_ (by omega) (by omega) tag3).2 (plusD_iff.2 (.inr ⟨⟨i, ch_team hi, whl_iff.2 fun x hx => ?_⟩, fun f hf => ?_, fun f hf => ?_⟩))
    · rw [ch_body hi] at hx
      rw [List.mem_singleton.1 hx]
      exact ih (by omega)
    · rw [ch_foes] at hf; cases hf
    · rw [ch_foes] at hf; cases hf
def chV (F : List Int) (q : Nat) : Int := if F = [] then 10 else if q = 0 then 5 else 6
theorem bit_vals : hb 10 1 = false ∧ hb 10 2 = true ∧ hb 10 3 = false ∧ hb 10 4 = true ∧ hb 5 1 = true ∧ hb 5 2 = false ∧ hb 5 3 = true ∧ hb 5 4 = false ∧ hb 6 1 = false ∧ hb 6 2 = true ∧ hb 6 3 = true ∧ hb 6 4 = false := by decide +kernel
theorem ch_vals (hp : Pf (chT n κ) F n) (hs_ : Sol (chT n κ) F m j) (hsur : ∀ q, q < n - 1 → ∃ i, i < n - 1 ∧ κ i = q) (hF : F = [] ∨ F = [0]) {q : Nat} (hq : q < n) : m.getD q 0 = chV F q ∧ cntT m q = 2 := by
  obtain ⟨a1, a2, a3, a4, b1, b2, b3, b4, c1, c2, c3, c4⟩ := bit_vals
  have e : ∀ t, hs m (q : Int) t = hb (m.getD q 0) t := fun t => by unfold hs; rw [Int.toNat_natCast]
  have hb0 := (sol_bys hs_ q).1
  have hlt : m.getD q 0 < 16 := by rw [hs_.1]; exact Mk_small q
  have o1 := ch_one hp hs_ hq
  have o2 := ch_two hp hs_ hq
  rcases hF with rfl | rfl
  · obtain ⟨o3, o4⟩ := ch_none hp hs_ q hq
    have o1 : hs m q 1 = false := by rw [o1]; simp
    have o2 : hs m q 2 = true := by rw [o2]; simp
    refine ⟨?_, by unfold cntT; rw [o1, o2, o3, o4]; rfl⟩
    show m.getD q 0 = 10
    refine nib_ext hb0 hlt (by decide) (by decide) fun t ht => ?_
    rw [← e]
    rcases ht with rfl | rfl | rfl | rfl
    · rw [o1, a1]
    · rw [o2, a2]
    · rw [o3, a3]
    · rw [o4, a4]
  · have o3 := ch_fact hp hs_ hsur q hq
    have o4 : hs m q 4 = false := by
      cases h : hs m q 4 with
      | false => rfl
      | true => exact (sol_defeas hp hs_ (by omega) o3 h).elim
    by_cases h0 : q = 0
    · subst h0
      have o1 : hs m ((0 : Nat) : Int) 1 = true := by rw [o1]; simp
      have o2 : hs m ((0 : Nat) : Int) 2 = false := by rw [o2]; simp
      refine ⟨?_, by unfold cntT; rw [o1, o2, o3, o4]; rfl⟩
      show m.getD 0 0 = 5
      refine nib_ext hb0 hlt (by decide) (by decide) fun t ht => ?_
      rw [← e]
      rcases ht with rfl | rfl | rfl | rfl
      · rw [o1, b1]
      · rw [o2, b2]
      · rw [o3, b3]
      · rw [o4, b4]
    · have o1 : hs m q 1 = false := by rw [o1]; simp [h0]
      have o2 : hs m q 2 = true := by rw [o2]; simp [h0]
      refine ⟨?_, by unfold cntT; rw [o1, o2, o3, o4]; rfl⟩
      have : chV [0] q = 6 := by unfold chV; rw [if_neg (by decide), if_neg h0]
      rw [this]
      refine nib_ext hb0 hlt (by decide) (by decide) fun t ht => ?_
      rw [← e]
      rcases ht with rfl | rfl | rfl | rfl
      · rw [o1, c1]
      · rw [o2, c2]
      · rw [o3, c3]
      · rw [o4, c4]
theorem ch_cnt (hp : Pf (chT n κ) F n) (hs_ : Sol (chT n κ) F m j) (hsur : ∀ q, q < n - 1 → ∃ i, i < n - 1 ∧ κ i = q) (hF : F = [] ∨ F = [0]) : ∀ q : Nat, q ≤ n → cntF m q = 2 * q
  | 0, _ => rfl
  | q + 1, hq => by
    have := (ch_vals hp hs_ hsur hF (q := q) (by omega)).2
    show cntF m q + cntT m q = _
    rw [ch_cnt hp hs_ hsur hF q (by omega), this]
    omega
theorem ch_pre : preS (chT n κ) = ((n - 1 : Nat) : Int) := by
  unfold preS
  rw [show (chT n κ).rules.length = n - 1 from chR_len]
  have key : ∀ i, i ≤ n - 1 → sumK (fun r => bL (chT n κ) r) i = (i : Int) := by
    intro i
    induction i with
    | zero => intro _; rfl
    | succ i ih =>
      intro hi
      show sumK (fun r => bL (chT n κ) r) i + bL (chT n κ) i = _
      rw [ih (by omega)]
      unfold bL
      rw [ch_body (by omega)]
      simp
  exact key _ (Nat.le_refl _)
theorem ch_pairs : pairsM (chT n κ) = 0 := free_pairs
end
end Go.Proofs.Ythifoamnmhlghaa.Fa
