/- Roundings enclose: the plain mathematics of MoneyRounds. No Go in sight. -/
import Derived.Test.YthpbadnedhjncabDoorScalePlain
namespace Go.Proofs.YthpbadnedhjncabDoor

def bel (m n : Int) : Bool := decide ((m < 0 ∧ 0 < n) ∨ (0 < m ∧ n < 0))

theorem scale_in (m n d r : Int) (hm : may m = true) (hd0 : 1 ≤ d) (hd1 : d ≤ 1000000000) (hn0 : -1000000000 ≤ n) (hn1 : n ≤ 1000000000) (hr0 : 1 ≤ r) (hr1 : r ≤ 6) :
    scaleM m n d r = tailM (upM r (bel m n) ((m.natAbs : Int) * n.natAbs / d) ((m.natAbs : Int) * n.natAbs % d) d) (bel m n) ((m.natAbs : Int) * n.natAbs / d) := by
  unfold scaleM bel
  rw [if_neg (by rw [hm]; simp), if_neg (by omega), if_neg (by omega)]

theorem scale_ok {m n d r a : Int} (h : scaleM m n d r = (a, 0)) : may m = true ∧ 1 ≤ d ∧ d ≤ 1000000000 ∧ -1000000000 ≤ n ∧ n ≤ 1000000000 ∧ 1 ≤ r ∧ r ≤ 6 := by
  unfold scaleM at h
  split at h
  · simp at h
  · rename_i hm
    split at h
    · simp at h
    · split at h
      · simp at h
      · refine ⟨by cases hh : may m <;> simp_all, ?_⟩
        omega

theorem tail_ok {up bl : Bool} {q a : Int} (h : tailM up bl q = (a, 0)) : (if up then q + 1 else q) ≤ 1000000000000000 ∧ a = (if bl then -(if up then q + 1 else q) else (if up then q + 1 else q)) := by
  unfold tailM at h
  dsimp only at h
  by_cases hc : 1000000000000000 < (if up = true then q + 1 else q)
  · rw [if_pos hc] at h; simp at h
  · rw [if_neg hc] at h
    refine ⟨by omega, ?_⟩
    have := congrArg Prod.fst h
    exact this.symm

theorem tail_mk {up bl : Bool} {q : Int} (h : (if up then q + 1 else q) ≤ 1000000000000000) : tailM up bl q = (if bl then -(if up then q + 1 else q) else (if up then q + 1 else q), 0) := by
  unfold tailM
  dsimp only
  rw [if_neg (by omega)]

structure RoundsOne (m n d a b r x y : Int) : Prop where
  sx : scaleM m n d r = (x, 0)
  sy : scaleM (-m) n d r = (y, 0)
  ab : x = a ∨ x = b
  op : r ≠ 3 → r ≠ 4 → y = -x
  fl : r = 3 → y = -b
  ce : r = 4 → y = -a
  dn : r = 1 → x = if 0 ≤ a then a else b
  up : r = 2 → a ≠ b → x ≠ if 0 ≤ a then a else b
  nr : r = 5 ∨ r = 6 → -d ≤ 2 * (x * d - m * n) ∧ 2 * (x * d - m * n) ≤ d

theorem mul_bel (m n : Int) : m * n = if bel m n then -((m.natAbs : Int) * n.natAbs) else (m.natAbs : Int) * n.natAbs := by
  unfold bel
  split
  · rename_i h
    rcases of_decide_eq_true h with ⟨h1, h2⟩ | ⟨h1, h2⟩
    · rw [show (m.natAbs : Int) = -m by omega, show (n.natAbs : Int) = n by omega, Int.neg_mul, Int.neg_neg]
    · rw [show (m.natAbs : Int) = m by omega, show (n.natAbs : Int) = -n by omega, Int.mul_neg, Int.neg_neg]
  · rename_i h
    have h' : ¬ ((m < 0 ∧ 0 < n) ∨ (0 < m ∧ n < 0)) := fun hh => h (decide_eq_true hh)
    rcases Int.lt_trichotomy m 0 with g | g | g
    · rw [show (m.natAbs : Int) = -m by omega, show (n.natAbs : Int) = -n by omega, Int.neg_mul_neg]
    · subst g; simp
    · rw [show (m.natAbs : Int) = m by omega, show (n.natAbs : Int) = n by omega]

theorem bel_neg (m n : Int) : bel (-m) n = !bel m n ∨ ((m.natAbs : Int) * n.natAbs = 0 ∧ bel (-m) n = false ∧ bel m n = false) := by
  unfold bel
  rcases Int.lt_trichotomy m 0 with g | g | g <;> rcases Int.lt_trichotomy n 0 with k | k | k
  all_goals first
    | (left; simp only [← decide_not]; apply decide_eq_decide.2; omega)
    | (right; refine ⟨by subst_vars; simp, decide_eq_false (by omega), decide_eq_false (by omega)⟩)

theorem rounds_all (m n d a b : Int) (h3 : scaleM m n d 3 = (a, 0)) (h4 : scaleM m n d 4 = (b, 0)) :
    (a ≤ b ∧ b ≤ a + 1 ∧ (d = 1 → a = b) ∧ -1000000000000000 ≤ a ∧ b ≤ 1000000000000000) ∧ ∀ r, 1 ≤ r → r ≤ 6 → ∃ x y, RoundsOne m n d a b r x y := by
  obtain ⟨hm, hd0, hd1, hn0, hn1, -, -⟩ := scale_ok h3
  have hm' : may (-m) = true := by
    unfold may at hm ⊢
    simp only [decide_eq_true_eq] at hm ⊢
    omega
  have hmul := mul_bel m n
  have hneg := bel_neg m n
  have hQ : ∀ r : Int, 1 ≤ r → r ≤ 6 → _ := fun r h1 h2 => scale_in m n d r hm hd0 hd1 hn0 hn1 h1 h2
  have hQ' : ∀ r : Int, 1 ≤ r → r ≤ 6 → _ := fun r h1 h2 => scale_in (-m) n d r hm' hd0 hd1 hn0 hn1 h1 h2
  rw [Int.natAbs_neg] at hQ'
  have hp : 0 ≤ (m.natAbs : Int) * n.natAbs := Int.mul_nonneg (by omega) (by omega)
  have hdm := Int.mul_ediv_add_emod ((m.natAbs : Int) * n.natAbs) d
  have ht0 := Int.emod_nonneg ((m.natAbs : Int) * n.natAbs) (show d ≠ 0 by omega)
  have ht1 := Int.emod_lt_of_pos ((m.natAbs : Int) * n.natAbs) (show 0 < d by omega)
  have hq0 : 0 ≤ (m.natAbs : Int) * n.natAbs / d := Int.ediv_nonneg hp (by omega)
  have hz : (m.natAbs : Int) * n.natAbs = 0 → (m.natAbs : Int) * n.natAbs / d = 0 ∧ (m.natAbs : Int) * n.natAbs % d = 0 := by
    intro h; rw [h]; simp
  rw [hQ 3 (by omega) (by omega)] at h3
  rw [hQ 4 (by omega) (by omega)] at h4
  obtain ⟨h31, h32⟩ := tail_ok h3
  obtain ⟨h41, h42⟩ := tail_ok h4
  clear h3 h4 hm hm'
  generalize bel m n = bl at *
  generalize bel (-m) n = bl' at *
  generalize (m.natAbs : Int) * n.natAbs / d = q at *
  generalize (m.natAbs : Int) * n.natAbs % d = t at *
  generalize (m.natAbs : Int) * n.natAbs = p at *
  simp only [upM] at h31 h32 h41 h42
  have hA : (a ≤ b ∧ b ≤ a + 1 ∧ (d = 1 → a = b) ∧ -1000000000000000 ≤ a ∧ b ≤ 1000000000000000) ∧ (a = b ↔ t = 0) ∧ q ≤ 1000000000000000 ∧ (0 < t → q + 1 ≤ 1000000000000000) ∧ (bl = true → b = -q) ∧ (bl = true → a = if 0 < t then -(q + 1) else -q) ∧ (bl = false → a = q) ∧ (bl = false → b = if 0 < t then q + 1 else q) := by
    cases bl <;> by_cases h : 0 < t <;> simp [h] at h31 h32 h41 h42 ⊢ <;> omega
  obtain ⟨hA0, hA1, hA2, hA3, hA4, hA5, hA6, hA7⟩ := hA
  clear h31 h32 h41 h42
  refine ⟨hA0, fun r hr0 hr1 => ?_⟩
  -- is it raised?
  have hu : ∀ (c : Bool), upM r c q t d = true → 0 < t := by
    intro c hc
    unfold upM at hc
    repeat' split at hc
    all_goals simp at hc
    all_goals omega
  have hok : ∀ (c : Bool), (if upM r c q t d then q + 1 else q) ≤ 1000000000000000 := by
    intro c
    cases hc : upM r c q t d with
    | true => simp; exact hA3 (hu c hc)
    | false => simp; exact hA2
  have hr : r = 1 ∨ r = 2 ∨ r = 3 ∨ r = 4 ∨ r = 5 ∨ r = 6 := by omega
  have hu5 : r = 5 ∨ r = 6 → ∀ c, (upM r c q t d = true → d ≤ 2 * t) ∧ (upM r c q t d = false → 2 * t ≤ d) := by
    intro h c
    rcases h with rfl | rfl <;> simp [upM] <;> omega
  have hsame : r ≠ 3 → r ≠ 4 → ∀ c, upM r c q t d = upM r bl q t d := by
    intro h3 h4 c
    unfold upM
    rw [if_neg h3, if_neg h4, if_neg h3, if_neg h4]
  have hzero : t = 0 → ∀ c, upM r c q t d = false := by
    intro h c
    cases hc : upM r c q t d with
    | false => rfl
    | true => have := hu c hc; omega
  have h3 : r = 3 → ∀ c, upM r c q t d = (decide (0 < t) && c) := by rintro rfl c; rfl
  have h4 : r = 4 → ∀ c, upM r c q t d = (decide (0 < t) && !c) := by rintro rfl c; rfl
  have h1 : r = 1 → ∀ c, upM r c q t d = false := by rintro rfl c; rfl
  have h2 : r = 2 → ∀ c, upM r c q t d = decide (0 < t) := by rintro rfl c; rfl
  have hul := hu bl
  have hul' := hu bl'
  have hu5l := fun h => hu5 h bl
  have hsl := fun a b => hsame a b bl'
  have hzl := fun a => hzero a bl
  have hzl' := fun a => hzero a bl'
  have h3l := fun a => h3 a bl
  have h3l' := fun a => h3 a bl'
  have h4l := fun a => h4 a bl
  have h4l' := fun a => h4 a bl'
  have h1l := fun a => h1 a bl
  have h2l := fun a => h2 a bl
  refine ⟨_, _, (hQ r hr0 hr1).trans (tail_mk (hok bl)), (hQ' r hr0 hr1).trans (tail_mk (hok bl')), ?_, ?_, ?_, ?_, ?_, ?_, ?_⟩
  all_goals clear hQ hQ' hok hu hu5 hsame hzero h1 h2 h3 h4
  all_goals generalize upM r bl q t d = u at *
  all_goals generalize upM r bl' q t d = u' at *
  · clear hsl h3l h3l' h4l h4l' h1l h2l hul' hzl' hmul hneg hz hr hdm
    cases bl <;> cases u <;> by_cases ht : 0 < t <;> simp [ht] at hA4 hA5 hA6 hA7 hul ⊢ <;> omega
  · intro g3 g4
    have := hsl g3 g4
    subst this
    rcases hneg with rfl | ⟨hp0, rfl, rfl⟩
    · cases bl <;> simp
    · have := hz hp0
      have := hzl this.2
      subst this
      simp
      omega
  · intro g3
    have e1 := h3l g3
    have e2 := h3l' g3
    rcases hneg with rfl | ⟨hp0, rfl, rfl⟩
    · cases bl <;> by_cases ht : 0 < t <;> simp_all
    · have := hz hp0
      simp_all
  · intro g3
    have e1 := h4l g3
    have e2 := h4l' g3
    rcases hneg with rfl | ⟨hp0, rfl, rfl⟩
    · cases bl <;> by_cases ht : 0 < t <;> simp_all
    · have := hz hp0
      simp_all
  · intro g
    have e1 := h1l g
    subst e1
    cases bl <;> by_cases ht : 0 < t <;> simp_all <;> first | omega | (split <;> omega)
  · intro g hab
    have e1 := h2l g
    have ht : 0 < t := by rcases Int.lt_or_le 0 t with h | h; · exact h
                          · exact absurd (hA1.2 (by omega)) hab
    cases bl <;> simp_all <;> first | omega | (split <;> omega)
  · intro g
    have e1 := hu5l g
    rw [hmul]
    have hc : d * q = q * d := Int.mul_comm _ _
    rw [hc] at hdm
    have hq1 : (q + 1) * d = q * d + d := by rw [Int.add_mul, Int.one_mul]
    have hn0 : (-q) * d = -(q * d) := Int.neg_mul _ _
    have hn1 : (-(q + 1)) * d = -(q * d + d) := by rw [Int.neg_mul, hq1]
    cases bl <;> cases u
    · simp only [Bool.false_eq_true, if_false, forall_const] at e1 ⊢
      generalize q * d = qd at *
      omega
    · simp only [Bool.false_eq_true, if_false, if_true, forall_const, hq1] at e1 ⊢
      generalize q * d = qd at *
      omega
    · simp only [Bool.false_eq_true, if_false, if_true, forall_const, hn0] at e1 ⊢
      generalize q * d = qd at *
      omega
    · simp only [if_true, forall_const, hn1] at e1 ⊢
      generalize q * d = qd at *
      omega

end Go.Proofs.YthpbadnedhjncabDoor
