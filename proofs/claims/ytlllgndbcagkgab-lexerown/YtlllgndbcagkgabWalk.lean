/- One token, and the whole walk, by the document's words. -/
import Derived.Test.YtlllgndbcagkgabLex
namespace Go.Proofs.Ytlllgndbcagkgab

def clsB (c : UInt8) : Int := cls (c.toNat : Int)
def nameB (c : UInt8) : Bool := decide (clsB c = 3 ∨ clsB c = 5 ∨ clsB c = 6)
def wordB (c : UInt8) : Bool := decide (clsB c = 3 ∨ clsB c = 4 ∨ clsB c = 5 ∨ clsB c = 6)
def blankB (c : UInt8) : Bool := decide (clsB c = 1 ∨ clsB c = 2)
def noEnd (c : UInt8) : Bool := decide (clsB c ≠ 1)
def inQ (c : UInt8) : Bool := decide (clsB c ≠ 7 ∧ clsB c ≠ 1)

/-- How many bytes at the beginning are so. -/
def span (p : UInt8 → Bool) (l : List UInt8) : Nat := (l.takeWhile p).length

theorem span_eq (p : UInt8 → Bool) : ∀ (n : Nat) (l : List UInt8), n ≤ l.length → (∀ j, j < n → p (l.getD j 0) = true) → (n < l.length → p (l.getD n 0) = false) → span p l = n := by
  intro n
  induction n with
  | zero =>
    intro l _ _ h
    cases l with
    | nil => rfl
    | cons c r => have := h (by simp); simp only [List.getD_cons_zero] at this; simp [span, this]
  | succ n ih =>
    intro l hl h1 h2
    cases l with
    | nil => simp at hl
    | cons c r =>
      have h0 := h1 0 (by omega)
      simp only [List.getD_cons_zero] at h0
      have := ih r (by simpa using hl) (fun j hj => by simpa using h1 (j + 1) (by omega)) (fun h => by simpa using h2 (by simpa using h))
      simp only [span, List.takeWhile_cons, h0, if_true, List.length_cons] at this ⊢
      omega

theorem span_le (p : UInt8 → Bool) (l : List UInt8) : span p l ≤ l.length := by
  induction l with
  | nil => simp [span]
  | cons c r ih => simp only [span, List.takeWhile_cons] at ih ⊢; split <;> simp <;> omega

theorem span_in (p : UInt8 → Bool) : ∀ (l : List UInt8) (j : Nat), j < span p l → p (l.getD j 0) = true := by
  intro l
  induction l with
  | nil => intro j h; simp [span] at h
  | cons c r ih =>
    intro j h
    simp only [span, List.takeWhile_cons] at h
    cases hc : p c with
    | false => simp [hc] at h
    | true =>
      simp only [hc, if_true, List.length_cons] at h
      cases j with
      | zero => simpa using hc
      | succ j => simpa using ih j (by unfold span; omega)

theorem span_out (p : UInt8 → Bool) : ∀ (l : List UInt8), span p l < l.length → p (l.getD (span p l) 0) = false := by
  intro l
  induction l with
  | nil => intro h; simp at h
  | cons c r ih =>
    intro h
    cases hc : p c with
    | false => simp [span, hc]
    | true =>
      have e : span p (c :: r) = span p r + 1 := by simp [span, hc]
      rw [e] at h ⊢
      simpa using ih (by simpa using h)

def numLen (l : List UInt8) : Nat :=
  if clsB (l.getD (span digB l) 0) = 9 ∧ digB (l.getD (span digB l + 1) 0) = true then span digB l + 1 + span digB (l.drop (span digB l + 1)) else span digB l

def fin (kind n : Nat) (l : List UInt8) : Nat × Nat × Nat × Nat :=
  if (kind = 1 ∨ kind = 2) ∧ 32 < n then (0, 0, 5, 0) else if wordB (l.getD n 0) = true then (0, 0, 41, n) else (kind, n, 0, 0)

/-- The token at the beginning: its kind and length, an error and its place. -/
def one (l : List UInt8) : Nat × Nat × Nat × Nat :=
  if dateB l = true then fin 4 10 l
  else if clsB (l.getD 0 0) = 5 then fin 3 (numLen l) l
  else if clsB (l.getD 0 0) = 3 then fin 1 (span nameB l) l
  else if clsB (l.getD 0 0) = 4 then fin 2 (span wordB l) l
  else if clsB (l.getD 0 0) = 7 then (if clsB (l.getD (span inQ (l.drop 1) + 1) 0) = 7 then (5, span inQ (l.drop 1) + 2, 0, 0) else (0, 0, 42, 0))
  else if 2 ≤ l.length ∧ markB (l.take 2) = true then (6, 2, 0, 0)
  else if markB (l.take 1) = true then (6, 1, 0, 0)
  else (0, 0, 41, 0)

def tokOf (kind m : Nat) (l : List UInt8) (i : Nat) : Tok := ⟨kind, if kind = 5 then (l.take (m - 1)).drop 1 else l.take m, i⟩

structure Res where
  tk : List Tok
  rm : List (List UInt8)
  err : Nat
  place : Nat
  deriving DecidableEq

/-- The walk over a text. -/
def walk : Nat → List UInt8 → Nat → List Tok → List (List UInt8) → Res
  | 0, _, i, tk, rm => ⟨tk, rm, 0, i⟩
  | _ + 1, [], i, tk, rm => ⟨tk, rm, 0, i⟩
  | n + 1, c :: r, i, tk, rm =>
    if blankB c = true then walk n r (i + 1) tk rm
    else if clsB c = 8 then walk n (r.drop (span noEnd r)) (i + 1 + span noEnd r) tk (rm ++ [r.take (span noEnd r)])
    else if (one (c :: r)).2.2.1 ≠ 0 then ⟨[], [], (one (c :: r)).2.2.1, i + (one (c :: r)).2.2.2⟩
    else walk n ((c :: r).drop (one (c :: r)).2.1) (i + (one (c :: r)).2.1) (tk ++ [tokOf (one (c :: r)).1 (one (c :: r)).2.1 (c :: r) i]) rm

def W (l : List UInt8) (i : Nat) (tk : List Tok) (rm : List (List UInt8)) : Res := walk l.length l i tk rm

theorem clsB_zero : clsB 0 = 0 := by decide

theorem fin_ok {kind n : Nat} {l : List UInt8} (h : (fin kind n l).2.2.1 = 0) : fin kind n l = (kind, n, 0, 0) := by
  unfold fin at h ⊢
  split at h
  · simp at h
  · split at h
    · simp at h
    · simp_all

theorem span_pos {p : UInt8 → Bool} {l : List UInt8} (h : p (l.getD 0 0) = true) (h0 : l ≠ []) : 1 ≤ span p l := by
  cases l with
  | nil => exact absurd rfl h0
  | cons c r => simp only [List.getD_cons_zero] at h; simp [span, h]

theorem dateB_len {l : List UInt8} (h : dateB l = true) : 10 ≤ l.length := by
  simp only [dateB, Bool.and_eq_true, decide_eq_true_eq] at h; exact h.1

theorem getD_ge {l : List UInt8} {j : Nat} (h : l.length ≤ j) : l.getD j 0 = 0 := by
  rw [List.getD_eq_getElem?_getD, List.getElem?_eq_none h]; rfl

theorem numLen_bd {l : List UInt8} (h0 : l ≠ []) (hc : digB (l.getD 0 0) = true) : 1 ≤ numLen l ∧ numLen l ≤ l.length := by
  have h1 := span_pos (p := digB) hc h0
  have h2 := span_le digB l
  unfold numLen
  split
  · next h =>
    have h3 := span_le digB (l.drop (span digB l + 1))
    have h4 : span digB l + 1 ≤ l.length := by
      rcases Nat.lt_or_ge (span digB l) l.length with h5 | h5
      · omega
      · rw [getD_ge h5, clsB_zero] at h; simp at h
    simp only [List.length_drop] at h3
    omega
  · omega

theorem digB_cls {c : UInt8} : digB c = true ↔ clsB c = 5 := (cls_digit c).symm

theorem one_len {l : List UInt8} (h0 : l ≠ []) (h : (one l).2.2.1 = 0) : 1 ≤ (one l).2.1 ∧ (one l).2.1 ≤ l.length := by
  unfold one at h ⊢
  by_cases hd : dateB l = true
  · rw [if_pos hd] at h ⊢
    rw [fin_ok h]
    have := dateB_len hd
    exact ⟨by simp, this⟩
  · rw [if_neg hd] at h ⊢
    by_cases h5 : clsB (l.getD 0 0) = 5
    · rw [if_pos h5] at h ⊢
      rw [fin_ok h]
      exact numLen_bd h0 (digB_cls.2 h5)
    · rw [if_neg h5] at h ⊢
      by_cases h3 : clsB (l.getD 0 0) = 3
      · rw [if_pos h3] at h ⊢
        rw [fin_ok h]
        exact ⟨span_pos (by simp only [nameB, decide_eq_true_eq]; exact .inl h3) h0, span_le _ _⟩
      · rw [if_neg h3] at h ⊢
        by_cases h4 : clsB (l.getD 0 0) = 4
        · rw [if_pos h4] at h ⊢
          rw [fin_ok h]
          exact ⟨span_pos (by simp only [wordB, decide_eq_true_eq]; exact .inr (.inl h4)) h0, span_le _ _⟩
        · rw [if_neg h4] at h ⊢
          by_cases h7 : clsB (l.getD 0 0) = 7
          · rw [if_pos h7] at h ⊢
            by_cases hq : clsB (l.getD (span inQ (l.drop 1) + 1) 0) = 7
            · rw [if_pos hq]
              refine ⟨by simp, ?_⟩
              rcases Nat.lt_or_ge (span inQ (l.drop 1) + 1) l.length with h6 | h6
              · exact h6
              · rw [getD_ge h6, clsB_zero] at hq; simp at hq
            · rw [if_neg hq] at h; simp at h
          · rw [if_neg h7] at h ⊢
            by_cases h2 : 2 ≤ l.length ∧ markB (l.take 2) = true
            · rw [if_pos h2]; exact ⟨by simp, h2.1⟩
            · rw [if_neg h2] at h ⊢
              by_cases h1 : markB (l.take 1) = true
              · rw [if_pos h1]
                cases l with
                | nil => exact absurd rfl h0
                | cons c r => simp
              · rw [if_neg h1] at h; simp at h

theorem walk_fuel : ∀ (n m : Nat) (l : List UInt8) (i : Nat) (tk : List Tok) (rm : List (List UInt8)), l.length ≤ n → l.length ≤ m → walk n l i tk rm = walk m l i tk rm := by
  intro n
  induction n with
  | zero =>
    intro m l i tk rm h1 h2
    have : l = [] := List.eq_nil_of_length_eq_zero (by omega)
    subst this
    cases m <;> simp [walk]
  | succ n ih =>
    intro m l i tk rm h1 h2
    cases l with
    | nil => cases m <;> simp [walk]
    | cons c r =>
      cases m with
      | zero => simp at h2
      | succ m =>
        simp only [List.length_cons] at h1 h2
        simp only [walk]
        split
        · exact ih m r _ _ _ (by omega) (by omega)
        · split
          · exact ih m _ _ _ _ (by simp; omega) (by simp; omega)
          · split
            · rfl
            · next h =>
              have := one_len (l := c :: r) (by simp) (by simpa using h)
              exact ih m _ _ _ _ (by simp only [List.length_drop, List.length_cons]; omega) (by simp only [List.length_drop, List.length_cons]; omega)

theorem W_nil (i : Nat) (tk : List Tok) (rm : List (List UInt8)) : W [] i tk rm = ⟨tk, rm, 0, i⟩ := rfl

theorem W_blank (c : UInt8) (r : List UInt8) (i : Nat) (tk : List Tok) (rm : List (List UInt8)) (h : blankB c = true) : W (c :: r) i tk rm = W r (i + 1) tk rm := by
  simp only [W, List.length_cons, walk, h, if_true]

theorem W_remark (c : UInt8) (r : List UInt8) (i : Nat) (tk : List Tok) (rm : List (List UInt8)) (h : clsB c = 8) :
    W (c :: r) i tk rm = W (r.drop (span noEnd r)) (i + 1 + span noEnd r) tk (rm ++ [r.take (span noEnd r)]) := by
  have hb : blankB c = false := by simp [blankB, h]
  simp only [W, List.length_cons, walk, h, hb, if_true, Bool.false_eq_true, if_false]
  exact walk_fuel _ _ _ _ _ _ (by simp) (Nat.le_refl _)

theorem W_err (c : UInt8) (r : List UInt8) (i : Nat) (tk : List Tok) (rm : List (List UInt8)) (hb : blankB c = false) (h8 : clsB c ≠ 8) (h : (one (c :: r)).2.2.1 ≠ 0) :
    W (c :: r) i tk rm = ⟨[], [], (one (c :: r)).2.2.1, i + (one (c :: r)).2.2.2⟩ := by
  simp only [W, List.length_cons, walk, hb, Bool.false_eq_true, if_false, h8, h, ne_eq, not_false_eq_true, if_true]

theorem W_tok (c : UInt8) (r : List UInt8) (i : Nat) (tk : List Tok) (rm : List (List UInt8)) (hb : blankB c = false) (h8 : clsB c ≠ 8) (h : (one (c :: r)).2.2.1 = 0) :
    W (c :: r) i tk rm = W ((c :: r).drop (one (c :: r)).2.1) (i + (one (c :: r)).2.1) (tk ++ [tokOf (one (c :: r)).1 (one (c :: r)).2.1 (c :: r) i]) rm := by
  have := one_len (l := c :: r) (by simp) h
  simp only [W, List.length_cons, walk, hb, Bool.false_eq_true, if_false, h8, h, ne_eq, not_true_eq_false]
  exact walk_fuel _ _ _ _ _ _ (by simp only [List.length_drop, List.length_cons]; omega) (Nat.le_refl _)
end Go.Proofs.Ytlllgndbcagkgab
