/- A ring of rules, plainly: none of its literals gets +d or -d; without one of the rules all get -d. No Go in sight. -/
import Derived.Test.YtbnkdfhjdjgnhaaNvC
namespace Go.Proofs.Ytbnkdfhjdjgnhaa
open Go.RowKit

/-- So many of a ring's rules over n literals: i => i + 1. -/
def ringR (n k : Nat) : List RuleM := (List.range k).map fun i : Nat => ⟨2, (((i + 1) % n : Nat) : Int), [(i : Int)]⟩
def ringT (n k : Nat) : Th := ⟨n, List.replicate n [], ringR n k, List.replicate k []⟩
theorem ring_at {n k i : Nat} (h : i < k) : (ringR n k)[i]? = some ⟨2, (((i + 1) % n : Nat) : Int), [(i : Int)]⟩ := by unfold ringR; rw [List.getElem?_map, List.getElem?_range h]; rfl
theorem ring_mem {n k : Nat} {p : RuleM → Bool} {z r : Int} (h : r ∈ rulesL (ringT n k) p z) : ∃ i : Nat, i < k ∧ r = (i : Int) ∧ z = (((i + 1) % n : Nat) : Int) ∧ p ⟨2, (((i + 1) % n : Nat) : Int), [(i : Int)]⟩ = true := by
  obtain ⟨a, x, e, hx, hp, hh⟩ := mem_rules.1 h
  have ha : a < k := by
    have := (List.getElem?_eq_some_iff.1 hx).1
    show a < k
    have h2 : (ringT n k).rules.length = k := by show (ringR n k).length = k; unfold ringR; simp
    omega
  have hx2 : (ringR n k)[a]? = some x := hx
  rw [ring_at ha] at hx2
  cases hx2
  exact ⟨a, ha, e, hh.symm, hp⟩
theorem ring_body {n k i : Nat} (h : i < k) : bodyM (ringT n k) (i : Int) = [(i : Int)] := by
  unfold bodyM
  rw [Int.toNat_natCast]
  show (((ringR n k)[i]?).map RuleM.body).getD [] = _
  rw [ring_at h]
  rfl
theorem ring_foes {n k : Nat} {q : Int} : row (ringT n k).foes q = [] := by
  unfold row
  show (List.replicate n []).getD q.toNat [] = []
  rw [List.getD_eq_getElem?_getD, List.getElem?_replicate]
  split <;> rfl
theorem ring_strict {n k : Nat} {q : Int} : rulesL (ringT n k) kS q = [] := by
  apply List.eq_nil_iff_forall_not_mem.2
  intro r hr
  obtain ⟨i, -, -, -, hp⟩ := ring_mem hr
  exact absurd hp (by unfold kS; simp)
theorem ring_plusS {n k : Nat} {m : List Int} {q : Int} : plusS (ringT n k) [] m q = false := by
  cases h : plusS (ringT n k) [] m q with
  | false => rfl
  | true =>
    rcases plusS_iff.1 h with h | ⟨r, hr, -⟩
    · cases h
    · rw [ring_strict] at hr; cases hr
theorem ring_minusS {n k : Nat} {m : List Int} {q : Int} : minusS (ringT n k) [] m q = true := minusS_iff.2 ⟨by simp, fun r hr => by rw [ring_strict] at hr; cases hr⟩
section
variable {n k : Nat} {m : List Int}
/-- Without +D and +d there is no +d. -/
theorem ring_plusD {q : Int} (h1 : hs m q 1 = false) (h3 : ∀ x : Nat, hs m (x : Int) 3 = false) : plusD (ringT n k) m q = false := by
  cases h : plusD (ringT n k) m q with
  | false => rfl
  | true =>
    rcases plusD_iff.1 h with h | ⟨⟨r, hr, hw⟩, -, -⟩
    · rw [h1] at h; cases h
    · obtain ⟨i, hi, rfl, -, -⟩ := ring_mem hr
      have := whl_iff.1 hw (i : Int) (by rw [ring_body hi]; simp)
      rw [h3] at this; cases this
/-- -d: with -D, and the one ahead has it, or there is none. -/
theorem ring_minusD {q : Int} (h2 : hs m q 2 = true) : minusD (ringT n k) m q = true ↔ ∀ i : Nat, i < k → q = (((i + 1) % n : Nat) : Int) → hs m (i : Int) 4 = true := by
  rw [minusD_iff]
  constructor
  · rintro ⟨-, h | ⟨f, hf, -⟩ | ⟨f, hf, -⟩⟩ i hi e
    · have hr : (i : Int) ∈ rulesL (ringT n k) kT q := mem_rules.2 ⟨i, _, rfl, ring_at hi, by unfold kT; simp, e.symm⟩
      obtain ⟨x, hx, hm⟩ := prt_iff.1 (h _ hr)
      rw [ring_body hi] at hx
      have : x = (i : Int) := by simpa using hx
      rw [this] at hm
      exact hm
    · rw [ring_foes] at hf; cases hf
    · rw [ring_foes] at hf; cases hf
  · intro h
    refine ⟨h2, .inl fun r hr => ?_⟩
    obtain ⟨i, hi, rfl, e, -⟩ := ring_mem hr
    exact prt_iff.2 ⟨(i : Int), by rw [ring_body hi]; simp, h i hi e⟩
end
/-- Marks along the chain: the first have -d. -/
def chn (n j : Nat) : List Int := (List.range n).map fun q : Nat => if q < j then 10 else 2
theorem chn_len {n j : Nat} : (chn n j).length = n := by unfold chn; simp
theorem chn_at {n j q : Nat} (h : q < n) : (chn n j).getD q 0 = if q < j then 10 else 2 := by
  unfold chn
  rw [List.getD_eq_getElem?_getD, List.getElem?_map, List.getElem?_range h]
  rfl
theorem ten_bits : hb 10 1 = false ∧ hb 10 2 = true ∧ hb 10 3 = false ∧ hb 10 4 = true ∧ hb 2 1 = false ∧ hb 2 2 = true ∧ hb 2 3 = false ∧ hb 2 4 = false ∧ orB 2 4 = 10 ∧ orB 0 2 = 2 := by decide +kernel
theorem chn_hs {n j q : Nat} (h : q < n) {t : Int} : hs (chn n j) (q : Int) t = hb (if q < j then 10 else 2) t := by
  unfold hs
  rw [Int.toNat_natCast, chn_at h]
theorem chn_one {n j q : Nat} (h : q < n) : hs (chn n j) (q : Int) 1 = false := by rw [chn_hs h]; split; exact ten_bits.1; exact ten_bits.2.2.2.2.1
theorem chn_two {n j q : Nat} (h : q < n) : hs (chn n j) (q : Int) 2 = true := by rw [chn_hs h]; split; exact ten_bits.2.1; exact ten_bits.2.2.2.2.2.1
theorem chn_three {n j q : Nat} : hs (chn n j) (q : Int) 3 = false := by
  by_cases h : q < n
  · rw [chn_hs h]; split; exact ten_bits.2.2.1; exact ten_bits.2.2.2.2.2.2.1
  · exact hs_far (by omega) (by rw [chn_len]; omega) tag3
theorem chn_four {n j q : Nat} (h : q < n) : hs (chn n j) (q : Int) 4 = decide (q < j) := by
  rw [chn_hs h]
  by_cases e : q < j
  · rw [if_pos e, decide_eq_true e]; exact ten_bits.2.2.2.1
  · rw [if_neg e, decide_eq_false e]; exact ten_bits.2.2.2.2.2.2.2.1
theorem chn_ext {n : Nat} {l : List Int} {j : Nat} (hl : l.length = n) (h : ∀ q : Nat, q < n → l.getD q 0 = if q < j then 10 else 2) : l = chn n j := by
  apply List.ext_getElem?
  intro q
  by_cases hq : q < n
  · have h1 := h q hq
    have h2 := chn_at (j := j) hq
    rw [List.getD_eq_getElem?_getD, List.getElem?_eq_getElem (by omega)] at h1
    rw [List.getD_eq_getElem?_getD, List.getElem?_eq_getElem (by rw [chn_len]; exact hq)] at h2
    rw [List.getElem?_eq_getElem (by omega), List.getElem?_eq_getElem (by rw [chn_len]; exact hq)]
    exact congrArg some (h1.trans h2.symm)
  · rw [List.getElem?_eq_none (by omega), List.getElem?_eq_none (by rw [chn_len]; omega)]
/-- A round over such marks: -d alone may come. -/
theorem ring_round {n k j q : Nat} (h : q < n) : (roundM (ringT n k) [] (chn n j)).getD q 0 = if q < j then 10 else if minusD (ringT n k) (chn n j) (q : Int) then 10 else 2 := by
  rw [round_at (by rw [chn_len]; exact h), chn_at h]
  show addM (ringT n k) [] (chn n j) q 4 (addM (ringT n k) [] (chn n j) q 3 (addM (ringT n k) [] (chn n j) q 2 (addM (ringT n k) [] (chn n j) q 1 _))) = _
  have a1 : ∀ x, addM (ringT n k) [] (chn n j) q 1 x = x := fun x => by unfold addM; rw [cond1, ring_plusS, Bool.and_false]; rfl
  have a2 : ∀ x, addM (ringT n k) [] (chn n j) q 2 x = x := fun x => by unfold addM; rw [chn_two h]; rfl
  have a3 : ∀ x, addM (ringT n k) [] (chn n j) q 3 x = x := fun x => by unfold addM; rw [cond3, ring_plusD (chn_one h) (fun x => chn_three), Bool.and_false]; rfl
  rw [a1, a2, a3]
  unfold addM
  rw [cond4, chn_four h]
  by_cases e : q < j
  · rw [if_pos e, if_pos e, decide_eq_true e]; rfl
  · rw [if_neg e, if_neg e, decide_eq_false e]
    cases minusD (ringT n k) (chn n j) (q : Int) with
    | false => rfl
    | true => exact ten_bits.2.2.2.2.2.2.2.2.1
theorem ring_first {n k : Nat} : roundM (ringT n k) [] (List.replicate n 0) = chn n 0 := by
  refine chn_ext (by rw [round_len]; simp) fun q hq => ?_
  have z : ∀ t, isTag t → hs (List.replicate n 0) (q : Int) t = false := fun t ht => by unfold hs; rw [zeros_at]; exact hb_zero ht
  have z3 : ∀ x : Nat, hs (List.replicate n 0) (x : Int) 3 = false := fun x => by unfold hs; rw [zeros_at]; exact hb_zero tag3
  rw [round_at (by simpa using hq), zeros_at]
  show addM (ringT n k) [] (List.replicate n 0) q 4 (addM (ringT n k) [] (List.replicate n 0) q 3 (addM (ringT n k) [] (List.replicate n 0) q 2 (addM (ringT n k) [] (List.replicate n 0) q 1 0))) = _
  have a1 : addM (ringT n k) [] (List.replicate n 0) q 1 0 = 0 := by unfold addM; rw [cond1, ring_plusS, Bool.and_false]; rfl
  have a2 : addM (ringT n k) [] (List.replicate n 0) q 2 0 = 2 := by unfold addM; rw [cond2, ring_minusS, z 2 tag2]; exact ten_bits.2.2.2.2.2.2.2.2.2
  have a3 : addM (ringT n k) [] (List.replicate n 0) q 3 2 = 2 := by unfold addM; rw [cond3, ring_plusD (z 1 tag1) z3, Bool.and_false]; rfl
  have a4 : addM (ringT n k) [] (List.replicate n 0) q 4 2 = 2 := by
    have : minusD (ringT n k) (List.replicate n 0) (q : Int) = false := by
      cases h : minusD (ringT n k) (List.replicate n 0) (q : Int) with
      | false => rfl
      | true => have := (minusD_iff.1 h).1; rw [z 2 tag2] at this; cases this
    unfold addM
    rw [cond4, this, Bool.and_false]; rfl
  rw [a1, a2, a3, a4, if_neg (by omega)]
/-- The whole ring: nothing more comes. -/
theorem ring_sol {n : Nat} (hn : 1 ≤ n) : Sol (ringT n n) [] (chn n 0) 1 := by
  refine ⟨?_, chn_ext (by rw [round_len]; exact chn_len) fun q hq => ?_⟩
  · show _ = roundM (ringT n n) [] (List.replicate (n : Int).toNat 0)
    rw [Int.toNat_natCast, ring_first]
  · have : minusD (ringT n n) (chn n 0) (q : Int) = false := by
      cases h : minusD (ringT n n) (chn n 0) (q : Int) with
      | false => rfl
      | true =>
        exfalso
        have h2 := (ring_minusD (chn_two hq)).1 h
        by_cases e : q = 0
        · have := h2 (n - 1) (by omega) (by rw [e, show n - 1 + 1 = n by omega, Nat.mod_self])
          rw [chn_four (by omega)] at this
          simp at this
        · have := h2 (q - 1) (by omega) (by rw [show q - 1 + 1 = q by omega, Nat.mod_eq_of_lt hq])
          rw [chn_four (by omega)] at this
          simp at this
    rw [ring_round hq, if_neg (Nat.not_lt_zero q), this, if_neg (Nat.not_lt_zero q)]
    rfl
theorem chain_step {n j : Nat} : roundM (ringT n (n - 1)) [] (chn n j) = chn n (j + 1) := by
  refine chn_ext (by rw [round_len]; exact chn_len) fun q hq => ?_
  rw [ring_round hq]
  by_cases e : q < j
  · rw [if_pos e, if_pos (by omega)]
  · rw [if_neg e]
    have key : minusD (ringT n (n - 1)) (chn n j) (q : Int) = decide (q < j + 1) := by
      have hiff := ring_minusD (n := n) (k := n - 1) (chn_two (j := j) hq)
      by_cases e2 : q < j + 1
      · rw [decide_eq_true e2]
        refine hiff.2 fun i hi he => ?_
        have h1 : i + 1 < n := by omega
        rw [Nat.mod_eq_of_lt h1] at he
        rw [chn_four (by omega), decide_eq_true (by omega)]
      · rw [decide_eq_false e2]
        cases h : minusD (ringT n (n - 1)) (chn n j) (q : Int) with
        | false => rfl
        | true =>
          exfalso
          have := hiff.1 h (q - 1) (by omega) (by rw [show q - 1 + 1 = q by omega, Nat.mod_eq_of_lt hq])
          rw [chn_four (by omega)] at this
          simp at this
          omega
    rw [key]
    by_cases e2 : q < j + 1
    · rw [if_pos e2, decide_eq_true e2]; rfl
    · rw [if_neg e2, decide_eq_false e2]; rfl
theorem chain_iter {n : Nat} : ∀ j, iterM (ringT n (n - 1)) [] j (chn n 0) = chn n j
  | 0 => rfl
  | j + 1 => by rw [iter_succ, chain_iter j, chain_step]
/-- Without the last rule: all have -d. -/
theorem chain_sol {n : Nat} : Sol (ringT n (n - 1)) [] (chn n n) (n + 1) := by
  refine ⟨?_, ?_⟩
  · show _ = iterM (ringT n (n - 1)) [] n (roundM (ringT n (n - 1)) [] (List.replicate (n : Int).toNat 0))
    rw [Int.toNat_natCast, ring_first, chain_iter]
  · rw [chain_step]
    exact (chn_ext chn_len fun q hq => by rw [chn_at hq, if_pos hq, if_pos (by omega)]).symm
/-- Such theories may be. -/
theorem ring_ok : ∀ n : _root_.Fin 50, faultM (ringT (n.val + 1) (n.val + 1)) [] = 0 ∧ faultM (ringT (n.val + 1) n.val) [] = 0 := by decide +kernel
end Go.Proofs.Ytbnkdfhjdjgnhaa
