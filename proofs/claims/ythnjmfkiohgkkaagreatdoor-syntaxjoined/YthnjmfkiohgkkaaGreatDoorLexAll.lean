/- The document's cutting of a text into tokens and remarks, and the scanner's, as plain mathematics. -/
namespace Go.Proofs.YthnjmfkiohgkkaaGreatDoor

/-- The class of a character. -/
def cls (c : Int) : Int :=
  if c = 10 then 1
  else if c = 9 then 2
  else if c = 13 then 2
  else if c = 32 then 2
  else if c = 95 then 6
  else if c = 34 then 7
  else if c = 35 then 8
  else if c = 46 then 9
  else if c = 45 then 10
  else if c = 61 then 10
  else if c = 126 then 10
  else if c = 33 then 10
  else if c = 60 then 10
  else if c = 62 then 10
  else if c = 40 then 10
  else if c = 41 then 10
  else if c = 123 then 10
  else if c = 125 then 10
  else if c = 44 then 10
  else if c = 58 then 10
  else if c = 43 then 10
  else if c = 42 then 10
  else if 97 ≤ c ∧ c ≤ 122 then 3
  else if 65 ≤ c ∧ c ≤ 90 then 4
  else if 48 ≤ c ∧ c ≤ 57 then 5
  else 0

/-- The marks, the longest ahead. -/
def marksL : List (List UInt8) := [[45, 62], [61, 62], [126, 62], [33, 61], [60, 61], [62, 61], [61, 61], [60, 62], [60], [62], [40], [41], [123], [125], [44], [46], [58], [61], [45], [43], [42]]

/-- Whether a text is a mark. -/
def markB (s : List UInt8) : Bool := decide (s ∈ marksL)

/-- A token: its kind, its text, its place. -/
structure Tok where
  kind : Nat
  text : List UInt8
  place : Nat
  deriving DecidableEq

/-- The state of a scanner. -/
structure St where
  fn : Nat
  frm : Nat
  tk : List Tok
  rm : List (List UInt8)
  err : Int
  place : Nat

def digB (c : UInt8) : Bool := decide (48 ≤ c.toNat ∧ c.toNat ≤ 57)

/-- What a date's form asks of its byte j. -/
def dpat (j : Nat) (c : UInt8) : Bool := if j = 4 ∨ j = 7 then decide (c.toNat = 45) else digB c

/-- Whether ten bytes have the form of a date. -/
def dateB (l : List UInt8) : Bool := decide (10 ≤ l.length) && (List.range 10).all fun j => dpat j (l.getD j 0)

theorem cls_digit (c : UInt8) : (cls (c.toNat : Int) = 5) ↔ digB c = true := by
  unfold cls digB
  simp only [decide_eq_true_eq]
  repeat' split
  all_goals (first | omega | (constructor <;> intro h <;> first | omega | (simp at h)))

/-- What the state becomes at a character between tokens. -/
def betweenS (T : List UInt8) (S : St) (i : Nat) (c : Int) : St :=
  if cls c = 1 ∨ cls c = 2 then { S with frm := i }
  else if cls c = 3 then { S with frm := i, fn := 111 }
  else if cls c = 4 then { S with frm := i, fn := 112 }
  else if cls c = 5 then { S with frm := i, fn := if dateB (T.drop i) then 115 else 113 }
  else if cls c = 7 then { S with frm := i, fn := 116 }
  else if cls c = 8 then { S with frm := i, fn := 117 }
  else if cls c = 9 ∨ cls c = 10 then { S with frm := i, fn := 118 }
  else { S with frm := i, err := 41, place := i }

theorem cls_cases (c : Int) : cls c = 0 ∨ cls c = 1 ∨ cls c = 2 ∨ cls c = 3 ∨ cls c = 4 ∨ cls c = 5 ∨ cls c = 6 ∨ cls c = 7 ∨ cls c = 8 ∨ cls c = 9 ∨ cls c = 10 := by
  have h : ∀ x, x = cls c → 0 ≤ x ∧ x ≤ 10 := by
    intro x hx
    unfold cls at hx
    repeat' split at hx
    all_goals omega
  have := h _ rfl
  omega

/-- A text's bytes from a place to another. -/
def sub (T : List UInt8) (a b : Nat) : List UInt8 := (T.drop a).take (b - a)

/-- What the state becomes where a token ends ahead of c. -/
def apartS (T : List UInt8) (S : St) (kind i : Nat) (c : Int) : St :=
  if cls c = 3 ∨ cls c = 4 ∨ cls c = 5 ∨ cls c = 6 then { S with err := 41, place := i }
  else betweenS T { S with fn := 66, tk := S.tk ++ [⟨kind, sub T S.frm i, S.frm⟩] } i c

def wordS (T : List UInt8) (S : St) (kind i : Nat) (c : Int) : St :=
  if 32 < i - S.frm then { S with err := 5, place := S.frm } else apartS T S kind i c

def nameS (T : List UInt8) (S : St) (i : Nat) (c : Int) : St := if cls c = 3 ∨ cls c = 5 ∨ cls c = 6 then S else wordS T S 1 i c
def varS (T : List UInt8) (S : St) (i : Nat) (c : Int) : St := if cls c = 3 ∨ cls c = 4 ∨ cls c = 5 ∨ cls c = 6 then S else wordS T S 2 i c
def numberS (T : List UInt8) (S : St) (i : Nat) (c : Int) : St :=
  if cls c = 5 then S else if cls c = 9 ∧ digB (T.getD (i + 1) 0) = true then { S with fn := 146 } else apartS T S 3 i c
def fractionS (T : List UInt8) (S : St) (i : Nat) (c : Int) : St := if cls c = 5 then S else apartS T S 3 i c
def dateS (T : List UInt8) (S : St) (i : Nat) (c : Int) : St := if i = S.frm + 10 then apartS T S 4 i c else S
def quoteS (T : List UInt8) (S : St) (i : Nat) (c : Int) : St :=
  if cls c = 7 then { S with fn := 66, tk := S.tk ++ [⟨5, sub T (S.frm + 1) i, S.frm⟩] } else if cls c = 1 then { S with err := 42, place := S.frm } else S
def remarkS (T : List UInt8) (S : St) (i : Nat) (c : Int) : St :=
  if cls c = 1 then { S with fn := 66, rm := S.rm ++ [sub T (S.frm + 1) i] } else S
def markS (T : List UInt8) (S : St) (i : Nat) (c : Int) : St :=
  if markB (sub T S.frm (i + 1)) = true then { S with fn := 66, tk := S.tk ++ [⟨6, sub T S.frm (i + 1), S.frm⟩] }
  else if markB (sub T S.frm i) = true then betweenS T { S with fn := 66, tk := S.tk ++ [⟨6, sub T S.frm i, S.frm⟩] } i c
  else { S with err := 41, place := S.frm }

end Go.Proofs.YthnjmfkiohgkkaaGreatDoor

namespace Go.Proofs.YthnjmfkiohgkkaaGreatDoor

def clsB (c : UInt8) : Int := cls (c.toNat : Int)
def nameB (c : UInt8) : Bool := decide (clsB c = 3 ∨ clsB c = 5 ∨ clsB c = 6)
def wordB (c : UInt8) : Bool := decide (clsB c = 3 ∨ clsB c = 4 ∨ clsB c = 5 ∨ clsB c = 6)
def blankB (c : UInt8) : Bool := decide (clsB c = 1 ∨ clsB c = 2)
def noEnd (c : UInt8) : Bool := decide (clsB c ≠ 1)
def inQ (c : UInt8) : Bool := decide (clsB c ≠ 7 ∧ clsB c ≠ 1)

/-- How many bytes at the beginning are so. -/
def span (p : UInt8 → Bool) (l : List UInt8) : Nat := (l.takeWhile p).length

theorem span_eq (p : UInt8 → Bool) : ∀ (n : Nat) (l : List UInt8), n ≤ l.length → (∀ j, j < n → p (l.getD j 0) = true) → (n < l.length → p (l.getD n 0) = false) → span p l = n := by
  intro n
  induction n with
  | zero =>
    intro l _ _ h
    cases l with
    | nil => rfl
    | cons c r => have := h (by simp); simp only [List.getD_cons_zero] at this; simp [span, this]
  | succ n ih =>
    intro l hl h1 h2
    cases l with
    | nil => simp at hl
    | cons c r =>
      have h0 := h1 0 (by omega)
      simp only [List.getD_cons_zero] at h0
      have := ih r (by simpa using hl) (fun j hj => by simpa using h1 (j + 1) (by omega)) (fun h => by simpa using h2 (by simpa using h))
      simp only [span, List.takeWhile_cons, h0, if_true, List.length_cons] at this ⊢
      omega

theorem span_le (p : UInt8 → Bool) (l : List UInt8) : span p l ≤ l.length := by
  induction l with
  | nil => simp [span]
  | cons c r ih => simp only [span, List.takeWhile_cons] at ih ⊢; split <;> simp <;> omega

theorem span_in (p : UInt8 → Bool) : ∀ (l : List UInt8) (j : Nat), j < span p l → p (l.getD j 0) = true := by
  intro l
  induction l with
  | nil => intro j h; simp [span] at h
  | cons c r ih =>
    intro j h
    simp only [span, List.takeWhile_cons] at h
    cases hc : p c with
    | false => simp [hc] at h
    | true =>
      simp only [hc, if_true, List.length_cons] at h
      cases j with
      | zero => simpa using hc
      | succ j => simpa using ih j (by unfold span; omega)

theorem span_out (p : UInt8 → Bool) : ∀ (l : List UInt8), span p l < l.length → p (l.getD (span p l) 0) = false := by
  intro l
  induction l with
  | nil => intro h; simp at h
  | cons c r ih =>
    intro h
    cases hc : p c with
    | false => simp [span, hc]
    | true =>
      have e : span p (c :: r) = span p r + 1 := by simp [span, hc]
      rw [e] at h ⊢
      simpa using ih (by simpa using h)

def numLen (l : List UInt8) : Nat :=
  if clsB (l.getD (span digB l) 0) = 9 ∧ digB (l.getD (span digB l + 1) 0) = true then span digB l + 1 + span digB (l.drop (span digB l + 1)) else span digB l

def fin (kind n : Nat) (l : List UInt8) : Nat × Nat × Nat × Nat :=
  if (kind = 1 ∨ kind = 2) ∧ 32 < n then (0, 0, 5, 0) else if wordB (l.getD n 0) = true then (0, 0, 41, n) else (kind, n, 0, 0)

/-- The token at the beginning: its kind and length, an error and its place. -/
def one (l : List UInt8) : Nat × Nat × Nat × Nat :=
  if dateB l = true then fin 4 10 l
  else if clsB (l.getD 0 0) = 5 then fin 3 (numLen l) l
  else if clsB (l.getD 0 0) = 3 then fin 1 (span nameB l) l
  else if clsB (l.getD 0 0) = 4 then fin 2 (span wordB l) l
  else if clsB (l.getD 0 0) = 7 then (if clsB (l.getD (span inQ (l.drop 1) + 1) 0) = 7 then (5, span inQ (l.drop 1) + 2, 0, 0) else (0, 0, 42, 0))
  else if 2 ≤ l.length ∧ markB (l.take 2) = true then (6, 2, 0, 0)
  else if markB (l.take 1) = true then (6, 1, 0, 0)
  else (0, 0, 41, 0)

def tokOf (kind m : Nat) (l : List UInt8) (i : Nat) : Tok := ⟨kind, if kind = 5 then (l.take (m - 1)).drop 1 else l.take m, i⟩

structure Res where
  tk : List Tok
  rm : List (List UInt8)
  err : Nat
  place : Nat
  deriving DecidableEq

/-- The walk over a text. -/
def walk : Nat → List UInt8 → Nat → List Tok → List (List UInt8) → Res
  | 0, _, i, tk, rm => ⟨tk, rm, 0, i⟩
  | _ + 1, [], i, tk, rm => ⟨tk, rm, 0, i⟩
  | n + 1, c :: r, i, tk, rm =>
    if blankB c = true then walk n r (i + 1) tk rm
    else if clsB c = 8 then walk n (r.drop (span noEnd r)) (i + 1 + span noEnd r) tk (rm ++ [r.take (span noEnd r)])
    else if (one (c :: r)).2.2.1 ≠ 0 then ⟨[], [], (one (c :: r)).2.2.1, i + (one (c :: r)).2.2.2⟩
    else walk n ((c :: r).drop (one (c :: r)).2.1) (i + (one (c :: r)).2.1) (tk ++ [tokOf (one (c :: r)).1 (one (c :: r)).2.1 (c :: r) i]) rm

def W (l : List UInt8) (i : Nat) (tk : List Tok) (rm : List (List UInt8)) : Res := walk l.length l i tk rm

theorem clsB_zero : clsB 0 = 0 := by decide

theorem fin_ok {kind n : Nat} {l : List UInt8} (h : (fin kind n l).2.2.1 = 0) : fin kind n l = (kind, n, 0, 0) := by
  unfold fin at h ⊢
  split at h
  · simp at h
  · split at h
    · simp at h
    · simp_all

theorem span_pos {p : UInt8 → Bool} {l : List UInt8} (h : p (l.getD 0 0) = true) (h0 : l ≠ []) : 1 ≤ span p l := by
  cases l with
  | nil => exact absurd rfl h0
  | cons c r => simp only [List.getD_cons_zero] at h; simp [span, h]

theorem dateB_len {l : List UInt8} (h : dateB l = true) : 10 ≤ l.length := by
  simp only [dateB, Bool.and_eq_true, decide_eq_true_eq] at h; exact h.1

theorem getD_ge {l : List UInt8} {j : Nat} (h : l.length ≤ j) : l.getD j 0 = 0 := by
  rw [List.getD_eq_getElem?_getD, List.getElem?_eq_none h]; rfl

theorem numLen_bd {l : List UInt8} (h0 : l ≠ []) (hc : digB (l.getD 0 0) = true) : 1 ≤ numLen l ∧ numLen l ≤ l.length := by
  have h1 := span_pos (p := digB) hc h0
  have h2 := span_le digB l
  unfold numLen
  split
  · next h =>
    have h3 := span_le digB (l.drop (span digB l + 1))
    have h4 : span digB l + 1 ≤ l.length := by
      rcases Nat.lt_or_ge (span digB l) l.length with h5 | h5
      · omega
      · rw [getD_ge h5, clsB_zero] at h; simp at h
    simp only [List.length_drop] at h3
    omega
  · omega

theorem digB_cls {c : UInt8} : digB c = true ↔ clsB c = 5 := (cls_digit c).symm

theorem one_len {l : List UInt8} (h0 : l ≠ []) (h : (one l).2.2.1 = 0) : 1 ≤ (one l).2.1 ∧ (one l).2.1 ≤ l.length := by
  unfold one at h ⊢
  by_cases hd : dateB l = true
  · rw [if_pos hd] at h ⊢
    rw [fin_ok h]
    have := dateB_len hd
    exact ⟨by simp, this⟩
  · rw [if_neg hd] at h ⊢
    by_cases h5 : clsB (l.getD 0 0) = 5
    · rw [if_pos h5] at h ⊢
      rw [fin_ok h]
      exact numLen_bd h0 (digB_cls.2 h5)
    · rw [if_neg h5] at h ⊢
      by_cases h3 : clsB (l.getD 0 0) = 3
      · rw [if_pos h3] at h ⊢
        rw [fin_ok h]
        exact ⟨span_pos (by simp only [nameB, decide_eq_true_eq]; exact .inl h3) h0, span_le _ _⟩
      · rw [if_neg h3] at h ⊢
        by_cases h4 : clsB (l.getD 0 0) = 4
        · rw [if_pos h4] at h ⊢
          rw [fin_ok h]
          exact ⟨span_pos (by simp only [wordB, decide_eq_true_eq]; exact .inr (.inl h4)) h0, span_le _ _⟩
        · rw [if_neg h4] at h ⊢
          by_cases h7 : clsB (l.getD 0 0) = 7
          · rw [if_pos h7] at h ⊢
            by_cases hq : clsB (l.getD (span inQ (l.drop 1) + 1) 0) = 7
            · rw [if_pos hq]
              refine ⟨by simp, ?_⟩
              rcases Nat.lt_or_ge (span inQ (l.drop 1) + 1) l.length with h6 | h6
              · exact h6
              · rw [getD_ge h6, clsB_zero] at hq; simp at hq
            · rw [if_neg hq] at h; simp at h
          · rw [if_neg h7] at h ⊢
            by_cases h2 : 2 ≤ l.length ∧ markB (l.take 2) = true
            · rw [if_pos h2]; exact ⟨by simp, h2.1⟩
            · rw [if_neg h2] at h ⊢
              by_cases h1 : markB (l.take 1) = true
              · rw [if_pos h1]
                cases l with
                | nil => exact absurd rfl h0
                | cons c r => simp
              · rw [if_neg h1] at h; simp at h

theorem walk_fuel : ∀ (n m : Nat) (l : List UInt8) (i : Nat) (tk : List Tok) (rm : List (List UInt8)), l.length ≤ n → l.length ≤ m → walk n l i tk rm = walk m l i tk rm := by
  intro n
  induction n with
  | zero =>
    intro m l i tk rm h1 h2
    have : l = [] := List.eq_nil_of_length_eq_zero (by omega)
    subst this
    cases m <;> simp [walk]
  | succ n ih =>
    intro m l i tk rm h1 h2
    cases l with
    | nil => cases m <;> simp [walk]
    | cons c r =>
      cases m with
      | zero => simp at h2
      | succ m =>
        simp only [List.length_cons] at h1 h2
        simp only [walk]
        split
        · exact ih m r _ _ _ (by omega) (by omega)
        · split
          · exact ih m _ _ _ _ (by simp; omega) (by simp; omega)
          · split
            · rfl
            · next h =>
              have := one_len (l := c :: r) (by simp) (by simpa using h)
              exact ih m _ _ _ _ (by simp only [List.length_drop, List.length_cons]; omega) (by simp only [List.length_drop, List.length_cons]; omega)

theorem W_nil (i : Nat) (tk : List Tok) (rm : List (List UInt8)) : W [] i tk rm = ⟨tk, rm, 0, i⟩ := rfl

theorem W_blank (c : UInt8) (r : List UInt8) (i : Nat) (tk : List Tok) (rm : List (List UInt8)) (h : blankB c = true) : W (c :: r) i tk rm = W r (i + 1) tk rm := by
  simp only [W, List.length_cons, walk, h, if_true]

theorem W_remark (c : UInt8) (r : List UInt8) (i : Nat) (tk : List Tok) (rm : List (List UInt8)) (h : clsB c = 8) :
    W (c :: r) i tk rm = W (r.drop (span noEnd r)) (i + 1 + span noEnd r) tk (rm ++ [r.take (span noEnd r)]) := by
  have hb : blankB c = false := by simp [blankB, h]
  simp only [W, List.length_cons, walk, h, hb, if_true, Bool.false_eq_true, if_false]
  exact walk_fuel _ _ _ _ _ _ (by simp) (Nat.le_refl _)

theorem W_err (c : UInt8) (r : List UInt8) (i : Nat) (tk : List Tok) (rm : List (List UInt8)) (hb : blankB c = false) (h8 : clsB c ≠ 8) (h : (one (c :: r)).2.2.1 ≠ 0) :
    W (c :: r) i tk rm = ⟨[], [], (one (c :: r)).2.2.1, i + (one (c :: r)).2.2.2⟩ := by
  simp only [W, List.length_cons, walk, hb, Bool.false_eq_true, if_false, h8, h, ne_eq, not_false_eq_true, if_true]

theorem W_tok (c : UInt8) (r : List UInt8) (i : Nat) (tk : List Tok) (rm : List (List UInt8)) (hb : blankB c = false) (h8 : clsB c ≠ 8) (h : (one (c :: r)).2.2.1 = 0) :
    W (c :: r) i tk rm = W ((c :: r).drop (one (c :: r)).2.1) (i + (one (c :: r)).2.1) (tk ++ [tokOf (one (c :: r)).1 (one (c :: r)).2.1 (c :: r) i]) rm := by
  have := one_len (l := c :: r) (by simp) h
  simp only [W, List.length_cons, walk, hb, Bool.false_eq_true, if_false, h8, h, ne_eq, not_true_eq_false]
  exact walk_fuel _ _ _ _ _ _ (by simp only [List.length_drop, List.length_cons]; omega) (Nat.le_refl _)
end Go.Proofs.YthnjmfkiohgkkaaGreatDoor

namespace Go.Proofs.YthnjmfkiohgkkaaGreatDoor

theorem getD_drop (L : List UInt8) (a j : Nat) : (L.drop a).getD j 0 = L.getD (a + j) 0 := by
  simp only [List.getD_eq_getElem?_getD, List.getElem?_drop]

theorem drop_cons (L : List UInt8) (i : Nat) (h : i < L.length) : L.drop i = L.getD i 0 :: L.drop (i + 1) := by
  rw [List.drop_eq_getElem_cons h, List.getD_eq_getElem?_getD, List.getElem?_eq_getElem h]; rfl

/-- What each state knows. -/
def Knows (L : List UInt8) (S : St) (i : Nat) : Prop :=
  (S.fn = 111 ∧ clsB (L.getD S.frm 0) = 3 ∧ ∀ j, S.frm ≤ j → j < i → nameB (L.getD j 0) = true) ∨
  (S.fn = 112 ∧ clsB (L.getD S.frm 0) = 4 ∧ ∀ j, S.frm ≤ j → j < i → wordB (L.getD j 0) = true) ∨
  (S.fn = 113 ∧ dateB (L.drop S.frm) = false ∧ ∀ j, S.frm ≤ j → j < i → digB (L.getD j 0) = true) ∨
  (S.fn = 146 ∧ dateB (L.drop S.frm) = false ∧ ∃ p, S.frm < p ∧ p < i ∧ (∀ j, S.frm ≤ j → j < p → digB (L.getD j 0) = true) ∧ clsB (L.getD p 0) = 9 ∧ digB (L.getD (p + 1) 0) = true ∧ ∀ j, p < j → j < i → digB (L.getD j 0) = true) ∨
  (S.fn = 115 ∧ dateB (L.drop S.frm) = true ∧ i ≤ S.frm + 10) ∨
  (S.fn = 116 ∧ clsB (L.getD S.frm 0) = 7 ∧ ∀ j, S.frm < j → j < i → inQ (L.getD j 0) = true) ∨
  (S.fn = 117 ∧ clsB (L.getD S.frm 0) = 8 ∧ ∀ j, S.frm < j → j < i → noEnd (L.getD j 0) = true) ∨
  (S.fn = 118 ∧ (clsB (L.getD S.frm 0) = 9 ∨ clsB (L.getD S.frm 0) = 10) ∧ i = S.frm + 1)

/-- The scanner stands ahead of place i. -/
def Inv (L : List UInt8) (R : Res) (S : St) (i : Nat) : Prop :=
  S.err = 0 ∧ i ≤ L.length ∧
  ((S.fn = 66 ∧ S.tk.length ≤ i ∧ S.rm.length ≤ i ∧ W (L.drop i) i S.tk S.rm = R) ∨
   (S.frm < i ∧ S.tk.length ≤ S.frm ∧ S.rm.length ≤ S.frm ∧ W (L.drop S.frm) S.frm S.tk S.rm = R ∧ Knows L S i))

/-- Behind a step: an error, and it is the walk's; or it stands further on. -/
def Good (L : List UInt8) (R : Res) (S : St) (i : Nat) : Prop :=
  (∃ e : Nat, e ≠ 0 ∧ S.err = (e : Int) ∧ R = ⟨[], [], e, S.place⟩) ∨ Inv L R S i

/-- A character of the text at place i, w bytes long. -/
structure Rune (L : List UInt8) (i : Nat) (c : Int) (w : Nat) : Prop where
  lt : i < L.length
  pos : 1 ≤ w
  le : i + w ≤ L.length
  cls : cls c = clsB (L.getD i 0)
  high : ∀ j, i ≤ j → j < i + w → 2 ≤ w → clsB (L.getD j 0) = 0

theorem Rune.one {L : List UInt8} {i w : Nat} {c : Int} (h : Rune L i c w) (hk : clsB (L.getD i 0) ≠ 0) : w = 1 := by
  have := h.pos
  rcases Nat.lt_or_ge w 2 with h1 | h1
  · omega
  · exact absurd (h.high i (Nat.le_refl _) (by omega) h1) hk

theorem blankB_cls {c : UInt8} (h1 : clsB c ≠ 1) (h2 : clsB c ≠ 2) : blankB c = false := by simp [blankB, h1, h2]

theorem markB_two (a b : UInt8) (h : markB [a, b] = true) : clsB a = 10 := by
  simp only [markB, marksL, decide_eq_true_eq, List.mem_cons, List.cons.injEq, and_true, List.not_mem_nil, or_false] at h
  rcases h with h | h | h | h | h | h | h | h | h | h | h | h | h | h | h | h | h | h | h | h | h
  all_goals first | (obtain ⟨rfl, rfl⟩ := h; decide) | (simp at h)

theorem markB_one (a : UInt8) (h : markB [a] = true) : clsB a = 9 ∨ clsB a = 10 := by
  simp only [markB, marksL, decide_eq_true_eq, List.mem_cons, List.cons.injEq, and_true, List.not_mem_nil, or_false] at h
  rcases h with h | h | h | h | h | h | h | h | h | h | h | h | h | h | h | h | h | h | h | h | h
  all_goals first | (subst h; decide) | (simp at h)

theorem dateB_first {l : List UInt8} (h : dateB l = true) : clsB (l.getD 0 0) = 5 := by
  simp only [dateB, Bool.and_eq_true, List.all_eq_true, List.mem_range] at h
  have := h.2 0 (by omega)
  exact digB_cls.1 (by simpa [dpat] using this)

theorem dateB_not5 {l : List UInt8} (h : clsB (l.getD 0 0) ≠ 5) : dateB l = false := by
  cases hd : dateB l with
  | false => rfl
  | true => exact absurd (dateB_first hd) h

/-- A byte that begins nothing. -/
theorem one_none {l : List UInt8} (h : clsB (l.getD 0 0) = 0 ∨ clsB (l.getD 0 0) = 6) (h0 : l ≠ []) : one l = (0, 0, 41, 0) := by
  cases l with
  | nil => exact absurd rfl h0
  | cons a r =>
    simp only [List.getD_cons_zero] at h
    have hd : dateB (a :: r) = false := dateB_not5 (by simp only [List.getD_cons_zero]; omega)
    have h2 : ¬ (2 ≤ (a :: r).length ∧ markB ((a :: r).take 2) = true) := by
      rintro ⟨hl, hm⟩
      cases r with
      | nil => simp at hl
      | cons b r => have := markB_two a b hm; omega
    have h1 : ¬ markB ((a :: r).take 1) = true := by
      intro hm
      have := markB_one a hm; omega
    unfold one
    simp only [hd, List.getD_cons_zero, Bool.false_eq_true, if_false, h2, h1]
    rcases h with h | h <;> simp [h]

theorem between_step {L : List UInt8} {R : Res} {S : St} {i w : Nat} {c : Int} (hr : Rune L i c w) (he : S.err = 0) (hf : S.fn = 66) (ht : S.tk.length ≤ i) (hm : S.rm.length ≤ i) (hW : W (L.drop i) i S.tk S.rm = R) :
    Good L R (betweenS L S i c) (i + w) := by
  have hlt := hr.lt
  have hle := hr.le
  have hk := hr.cls
  have hdc := drop_cons L i hr.lt
  rcases cls_cases c with e | e | e | e | e | e | e | e | e | e | e
  all_goals rw [e] at hk
  case inl =>
    left
    have hb : blankB (L.getD i 0) = false := blankB_cls (by omega) (by omega)
    have ho : one (L.drop i) = (0, 0, 41, 0) := one_none (.inl (by rw [getD_drop]; exact hk.symm)) (by rw [hdc]; simp)
    rw [hdc] at ho hW
    rw [W_err _ _ _ _ _ hb (by omega) (by rw [ho]; simp), ho] at hW
    refine ⟨41, by omega, ?_, ?_⟩
    · simp [betweenS, e]
    · simpa [betweenS, e] using hW.symm
  case inr.inr.inr.inr.inr.inr.inl =>
    left
    have hb : blankB (L.getD i 0) = false := blankB_cls (by omega) (by omega)
    have ho : one (L.drop i) = (0, 0, 41, 0) := one_none (.inr (by rw [getD_drop]; exact hk.symm)) (by rw [hdc]; simp)
    rw [hdc] at ho hW
    rw [W_err _ _ _ _ _ hb (by omega) (by rw [ho]; simp), ho] at hW
    refine ⟨41, by omega, ?_, ?_⟩
    · simp [betweenS, e]
    · simpa [betweenS, e] using hW.symm
  all_goals
    have hw := hr.one (by omega)
    subst hw
    right
    simp only [betweenS, e]
  case inr.inl =>
    simp only [true_or, if_true]
    refine ⟨he, hle, .inl ⟨hf, Nat.le_succ_of_le ht, Nat.le_succ_of_le hm, ?_⟩⟩
    rw [hdc, W_blank _ _ _ _ _ (decide_eq_true (.inl hk.symm))] at hW
    exact hW
  case inr.inr.inl =>
    simp only [or_true, if_true]
    refine ⟨he, hle, .inl ⟨hf, Nat.le_succ_of_le ht, Nat.le_succ_of_le hm, ?_⟩⟩
    rw [hdc, W_blank _ _ _ _ _ (decide_eq_true (.inr hk.symm))] at hW
    exact hW
  case inr.inr.inr.inl =>
    refine ⟨he, hle, .inr ⟨by simp, ht, hm, hW, .inl ⟨rfl, hk.symm, fun j h1 h2 => ?_⟩⟩⟩
    have : j = i := by simp at h1; omega
    subst this; exact decide_eq_true (.inl hk.symm)
  case inr.inr.inr.inr.inl =>
    refine ⟨he, hle, .inr ⟨by simp, ht, hm, hW, .inr (.inl ⟨rfl, hk.symm, fun j h1 h2 => ?_⟩)⟩⟩
    have : j = i := by simp at h1; omega
    subst this; exact decide_eq_true (.inr (.inl hk.symm))
  case inr.inr.inr.inr.inr.inl =>
    cases hd : dateB (L.drop i) with
    | true => exact ⟨he, hle, .inr ⟨by simp, ht, hm, hW, .inr (.inr (.inr (.inr (.inl ⟨by simp, hd, by simp⟩))))⟩⟩
    | false =>
      refine ⟨he, hle, .inr ⟨by simp, ht, hm, hW, .inr (.inr (.inl ⟨by simp, hd, fun j h1 h2 => ?_⟩))⟩⟩
      have : j = i := by simp at h1; omega
      subst this; exact digB_cls.2 hk.symm
  case inr.inr.inr.inr.inr.inr.inr.inl =>
    refine ⟨he, hle, .inr ⟨by simp, ht, hm, hW, .inr (.inr (.inr (.inr (.inr (.inl ⟨by simp, hk.symm, fun j h1 h2 => ?_⟩)))))⟩⟩
    simp at h1; omega
  case inr.inr.inr.inr.inr.inr.inr.inr.inl =>
    refine ⟨he, hle, .inr ⟨by simp, ht, hm, hW, .inr (.inr (.inr (.inr (.inr (.inr (.inl ⟨by simp, hk.symm, fun j h1 h2 => ?_⟩))))))⟩⟩
    simp at h1; omega
  case inr.inr.inr.inr.inr.inr.inr.inr.inr.inl =>
    exact ⟨he, hle, .inr ⟨by simp, ht, hm, hW, .inr (.inr (.inr (.inr (.inr (.inr (.inr ⟨by simp, .inl hk.symm, by simp⟩))))))⟩⟩
  case inr.inr.inr.inr.inr.inr.inr.inr.inr.inr =>
    exact ⟨he, hle, .inr ⟨by simp, ht, hm, hW, .inr (.inr (.inr (.inr (.inr (.inr (.inr ⟨by simp, .inr hk.symm, by simp⟩))))))⟩⟩

theorem sub_drop (L : List UInt8) (a b : Nat) : (L.drop a).take (b - a) = sub L a b := rfl

/-- A token that ends ahead of place i. -/
theorem apart_step {L : List UInt8} {R : Res} {S : St} {kind i w : Nat} {c : Int} (hr : Rune L i c w) (he : S.err = 0) (hlt : S.frm < i) (ht : S.tk.length ≤ S.frm) (hm : S.rm.length ≤ S.frm) (hW : W (L.drop S.frm) S.frm S.tk S.rm = R)
    (h1 : clsB (L.getD S.frm 0) ≠ 1) (h2 : clsB (L.getD S.frm 0) ≠ 2) (h8 : clsB (L.getD S.frm 0) ≠ 8) (hk5 : kind ≠ 5) (ho : one (L.drop S.frm) = fin kind (i - S.frm) (L.drop S.frm)) (hs : ¬ ((kind = 1 ∨ kind = 2) ∧ 32 < i - S.frm)) :
    Good L R (apartS L S kind i c) (i + w) := by
  have hil := hr.lt
  have hk := hr.cls
  have hdc := drop_cons L S.frm (by omega)
  have hb : blankB (L.getD S.frm 0) = false := blankB_cls h1 h2
  have hg : (L.drop S.frm).getD (i - S.frm) 0 = L.getD i 0 := by rw [getD_drop]; congr 1; omega
  unfold fin at ho
  rw [if_neg hs, hg] at ho
  by_cases hw : cls c = 3 ∨ cls c = 4 ∨ cls c = 5 ∨ cls c = 6
  · left
    have hwb : wordB (L.getD i 0) = true := decide_eq_true (by rw [← hk]; exact hw)
    rw [if_pos hwb] at ho
    rw [hdc] at ho hW
    rw [W_err _ _ _ _ _ hb h8 (by rw [ho]; simp), ho] at hW
    refine ⟨41, by omega, by simp [apartS, hw], ?_⟩
    simp only [apartS, hw, if_true]
    rw [← hW]
    simp only [Res.mk.injEq, true_and]
    omega
  · have hwb : ¬ wordB (L.getD i 0) = true := fun h => hw (by rw [hk]; exact of_decide_eq_true h)
    rw [if_neg hwb] at ho
    rw [hdc] at ho hW
    rw [W_tok _ _ _ _ _ hb h8 (by rw [ho]), ho] at hW
    simp only [← hdc, List.drop_drop] at hW
    simp only [apartS, hw, if_false]
    have e1 : S.frm + (i - S.frm) = i := by omega
    rw [e1] at hW
    refine between_step hr (S := { S with fn := 66, tk := S.tk ++ [⟨kind, sub L S.frm i, S.frm⟩] }) he rfl (by simp; omega) (by simp; omega) ?_
    simp only [tokOf, hk5, if_false, sub_drop] at hW
    exact hW
end Go.Proofs.YthnjmfkiohgkkaaGreatDoor

namespace Go.Proofs.YthnjmfkiohgkkaaGreatDoor

theorem span_drop (p : UInt8 → Bool) (L : List UInt8) (a i : Nat) (h1 : a ≤ i) (h2 : i ≤ L.length) (h : ∀ j, a ≤ j → j < i → p (L.getD j 0) = true) (hn : i < L.length → p (L.getD i 0) = false) : span p (L.drop a) = i - a := by
  refine span_eq p _ _ (by simp; omega) (fun j hj => ?_) (fun hj => ?_)
  · rw [getD_drop]; exact h _ (by omega) (by omega)
  · rw [getD_drop]
    simp only [List.length_drop] at hj
    have e : a + (i - a) = i := by omega
    rw [e]; exact hn (by omega)

section
variable {L : List UInt8} {R : Res} {S : St} {i w : Nat} {c : Int}

theorem word_step {kind : Nat} (hr : Rune L i c w) (he : S.err = 0) (hlt : S.frm < i) (ht : S.tk.length ≤ S.frm) (hm : S.rm.length ≤ S.frm) (hW : W (L.drop S.frm) S.frm S.tk S.rm = R)
    (h1 : clsB (L.getD S.frm 0) ≠ 1) (h2 : clsB (L.getD S.frm 0) ≠ 2) (h8 : clsB (L.getD S.frm 0) ≠ 8) (hk : kind = 1 ∨ kind = 2) (ho : one (L.drop S.frm) = fin kind (i - S.frm) (L.drop S.frm)) :
    Good L R (wordS L S kind i c) (i + w) := by
  have hil := hr.lt
  have hdc := drop_cons L S.frm (by omega)
  have hb : blankB (L.getD S.frm 0) = false := blankB_cls h1 h2
  by_cases hl : 32 < i - S.frm
  · left
    have ho' := ho
    unfold fin at ho'
    rw [if_pos ⟨hk, hl⟩] at ho'
    rw [hdc] at ho' hW
    rw [W_err _ _ _ _ _ hb h8 (by rw [ho']; simp), ho'] at hW
    refine ⟨5, by omega, by simp [wordS, hl], ?_⟩
    simp only [wordS, hl, if_true]
    rw [← hW]
    simp
  · simp only [wordS, hl, if_false]
    exact apart_step hr he hlt ht hm hW h1 h2 h8 (by omega) ho (fun h => hl h.2)

theorem name_step (hr : Rune L i c w) (he : S.err = 0) (hlt : S.frm < i) (ht : S.tk.length ≤ S.frm) (hm : S.rm.length ≤ S.frm) (hW : W (L.drop S.frm) S.frm S.tk S.rm = R)
    (hf : S.fn = 111) (h3 : clsB (L.getD S.frm 0) = 3) (ha : ∀ j, S.frm ≤ j → j < i → nameB (L.getD j 0) = true) : Good L R (nameS L S i c) (i + w) := by
  have hil := hr.lt
  have hk := hr.cls
  by_cases hc : cls c = 3 ∨ cls c = 5 ∨ cls c = 6
  · have hw := hr.one (by omega)
    subst hw
    simp only [nameS, hc, if_true]
    refine .inr ⟨he, hr.le, .inr ⟨by omega, ht, hm, hW, .inl ⟨hf, h3, fun j h1 h2 => ?_⟩⟩⟩
    by_cases e : j = i
    · subst e; exact decide_eq_true (by rw [← hk]; exact hc)
    · exact ha j h1 (by omega)
  · simp only [nameS, hc, if_false]
    refine word_step hr he hlt ht hm hW (by omega) (by omega) (by omega) (.inl rfl) ?_
    have hsp : span nameB (L.drop S.frm) = i - S.frm := span_drop _ L S.frm i (by omega) (by omega) ha (fun _ => decide_eq_false (by rw [← hk]; exact hc))
    have hg : (L.drop S.frm).getD 0 0 = L.getD S.frm 0 := by rw [getD_drop]; rfl
    unfold one
    rw [hsp, dateB_not5 (by rw [hg]; omega), hg, h3]
    simp

theorem var_step (hr : Rune L i c w) (he : S.err = 0) (hlt : S.frm < i) (ht : S.tk.length ≤ S.frm) (hm : S.rm.length ≤ S.frm) (hW : W (L.drop S.frm) S.frm S.tk S.rm = R)
    (hf : S.fn = 112) (h3 : clsB (L.getD S.frm 0) = 4) (ha : ∀ j, S.frm ≤ j → j < i → wordB (L.getD j 0) = true) : Good L R (varS L S i c) (i + w) := by
  have hil := hr.lt
  have hk := hr.cls
  by_cases hc : cls c = 3 ∨ cls c = 4 ∨ cls c = 5 ∨ cls c = 6
  · have hw := hr.one (by omega)
    subst hw
    simp only [varS, hc, if_true]
    refine .inr ⟨he, hr.le, .inr ⟨by omega, ht, hm, hW, .inr (.inl ⟨hf, h3, fun j h1 h2 => ?_⟩)⟩⟩
    by_cases e : j = i
    · subst e; exact decide_eq_true (by rw [← hk]; exact hc)
    · exact ha j h1 (by omega)
  · simp only [varS, hc, if_false]
    refine word_step hr he hlt ht hm hW (by omega) (by omega) (by omega) (.inr rfl) ?_
    have hsp : span wordB (L.drop S.frm) = i - S.frm := span_drop _ L S.frm i (by omega) (by omega) ha (fun _ => decide_eq_false (by rw [← hk]; exact hc))
    have hg : (L.drop S.frm).getD 0 0 = L.getD S.frm 0 := by rw [getD_drop]; rfl
    unfold one
    rw [hsp, dateB_not5 (by rw [hg]; omega), hg, h3]
    simp

theorem number_step (hr : Rune L i c w) (he : S.err = 0) (hlt : S.frm < i) (ht : S.tk.length ≤ S.frm) (hm : S.rm.length ≤ S.frm) (hW : W (L.drop S.frm) S.frm S.tk S.rm = R)
    (hf : S.fn = 113) (hd : dateB (L.drop S.frm) = false) (ha : ∀ j, S.frm ≤ j → j < i → digB (L.getD j 0) = true) : Good L R (numberS L S i c) (i + w) := by
  have hil := hr.lt
  have hk := hr.cls
  have h5 : clsB (L.getD S.frm 0) = 5 := digB_cls.1 (ha _ (Nat.le_refl _) hlt)
  by_cases hc : cls c = 5
  · have hw := hr.one (by omega)
    subst hw
    simp only [numberS, hc, if_true]
    refine .inr ⟨he, hr.le, .inr ⟨by omega, ht, hm, hW, .inr (.inr (.inl ⟨hf, hd, fun j h1 h2 => ?_⟩))⟩⟩
    by_cases e : j = i
    · subst e; exact digB_cls.2 (by omega)
    · exact ha j h1 (by omega)
  · have hsp : span digB (L.drop S.frm) = i - S.frm := span_drop _ L S.frm i (by omega) (by omega) ha (fun _ => by
      cases hx : digB (L.getD i 0) with
      | false => rfl
      | true => exact absurd (hk.trans (digB_cls.1 hx)) hc)
    have hg : (L.drop S.frm).getD 0 0 = L.getD S.frm 0 := by rw [getD_drop]; rfl
    have hgi : (L.drop S.frm).getD (i - S.frm) 0 = L.getD i 0 := by rw [getD_drop]; congr 1; omega
    have hgj : (L.drop S.frm).getD (i - S.frm + 1) 0 = L.getD (i + 1) 0 := by rw [getD_drop]; congr 1; omega
    by_cases hp : cls c = 9 ∧ digB (L.getD (i + 1) 0) = true
    · have hw := hr.one (by omega)
      subst hw
      simp only [numberS, hc, if_false]
      rw [if_pos hp]
      exact .inr ⟨he, hr.le, .inr ⟨by simp; omega, ht, hm, hW, .inr (.inr (.inr (.inl ⟨rfl, hd, i, hlt, by omega, ha, by rw [← hk]; exact hp.1, hp.2, fun j h1 h2 => by omega⟩)))⟩⟩
    · simp only [numberS, hc, if_false]
      rw [if_neg hp]
      refine apart_step hr he hlt ht hm hW (by omega) (by omega) (by omega) (by omega) ?_ (by omega)
      have hn : numLen (L.drop S.frm) = i - S.frm := by
        unfold numLen
        rw [hsp, hgi, hgj, ← hk, if_neg hp]
      unfold one
      rw [hd, hg, h5, hn]
      simp

theorem fraction_step (hr : Rune L i c w) (he : S.err = 0) (hlt : S.frm < i) (ht : S.tk.length ≤ S.frm) (hm : S.rm.length ≤ S.frm) (hW : W (L.drop S.frm) S.frm S.tk S.rm = R)
    (hf : S.fn = 146) (hd : dateB (L.drop S.frm) = false) (p : Nat) (hp1 : S.frm < p) (hp2 : p < i) (ha : ∀ j, S.frm ≤ j → j < p → digB (L.getD j 0) = true) (h9 : clsB (L.getD p 0) = 9) (hq : digB (L.getD (p + 1) 0) = true)
    (hb : ∀ j, p < j → j < i → digB (L.getD j 0) = true) : Good L R (fractionS L S i c) (i + w) := by
  have hil := hr.lt
  have hk := hr.cls
  have h5 : clsB (L.getD S.frm 0) = 5 := digB_cls.1 (ha _ (Nat.le_refl _) hp1)
  by_cases hc : cls c = 5
  · have hw := hr.one (by omega)
    subst hw
    simp only [fractionS, hc, if_true]
    refine .inr ⟨he, hr.le, .inr ⟨by omega, ht, hm, hW, .inr (.inr (.inr (.inl ⟨hf, hd, p, hp1, by omega, ha, h9, hq, fun j h1 h2 => ?_⟩)))⟩⟩
    by_cases e : j = i
    · subst e; exact digB_cls.2 (by omega)
    · exact hb j h1 (by omega)
  · have hsp : span digB (L.drop S.frm) = p - S.frm := span_drop _ L S.frm p (by omega) (by omega) ha (fun _ => by
      cases hx : digB (L.getD p 0) with
      | false => rfl
      | true => have := digB_cls.1 hx; omega)
    have hsq : span digB (L.drop (p + 1)) = i - (p + 1) := span_drop _ L (p + 1) i (by omega) (by omega) (fun j h1 h2 => hb j (by omega) h2) (fun _ => by
      cases hx : digB (L.getD i 0) with
      | false => rfl
      | true => exact absurd (hk.trans (digB_cls.1 hx)) hc)
    have hg : (L.drop S.frm).getD 0 0 = L.getD S.frm 0 := by rw [getD_drop]; rfl
    have hgi : (L.drop S.frm).getD (p - S.frm) 0 = L.getD p 0 := by rw [getD_drop]; congr 1; omega
    have hgj : (L.drop S.frm).getD (p - S.frm + 1) 0 = L.getD (p + 1) 0 := by rw [getD_drop]; congr 1; omega
    simp only [fractionS, hc, if_false]
    refine apart_step hr he hlt ht hm hW (by omega) (by omega) (by omega) (by omega) ?_ (by omega)
    have hn : numLen (L.drop S.frm) = i - S.frm := by
      unfold numLen
      rw [hsp, hgi, hgj, if_pos ⟨h9, hq⟩, List.drop_drop]
      have e : S.frm + (p - S.frm + 1) = p + 1 := by omega
      rw [e, hsq]; omega
    unfold one
    rw [hd, hg, h5, hn]
    simp

theorem dateB_at {l : List UInt8} (h : dateB l = true) (j : Nat) (hj : j < 10) : clsB (l.getD j 0) ≠ 0 ∧ clsB (l.getD j 0) ≠ 1 := by
  simp only [dateB, Bool.and_eq_true, List.all_eq_true, List.mem_range] at h
  have := h.2 j hj
  unfold dpat at this
  split at this
  · have e : (l.getD j 0).toNat = 45 := of_decide_eq_true this
    have e2 : clsB (l.getD j 0) = 10 := by unfold clsB; rw [e]; rfl
    omega
  · have := digB_cls.1 this; omega

theorem date_step (hr : Rune L i c w) (he : S.err = 0) (hlt : S.frm < i) (ht : S.tk.length ≤ S.frm) (hm : S.rm.length ≤ S.frm) (hW : W (L.drop S.frm) S.frm S.tk S.rm = R)
    (hf : S.fn = 115) (hd : dateB (L.drop S.frm) = true) (hi : i ≤ S.frm + 10) : Good L R (dateS L S i c) (i + w) := by
  have hil := hr.lt
  have hk := hr.cls
  have hg : (L.drop S.frm).getD 0 0 = L.getD S.frm 0 := by rw [getD_drop]; rfl
  have h5 : clsB (L.getD S.frm 0) = 5 := by rw [← hg]; exact dateB_first hd
  by_cases hc : i = S.frm + 10
  · simp only [dateS, hc, if_true]
    rw [← hc]
    refine apart_step hr he hlt ht hm hW (by omega) (by omega) (by omega) (by omega) ?_ (by omega)
    have e : i - S.frm = 10 := by omega
    unfold one
    rw [hd, e]; simp
  · simp only [dateS, hc, if_false]
    have h0 := (dateB_at hd (i - S.frm) (by omega)).1
    rw [getD_drop] at h0
    have e : S.frm + (i - S.frm) = i := by omega
    rw [e] at h0
    have hw := hr.one h0
    subst hw
    exact .inr ⟨he, hr.le, .inr ⟨by omega, ht, hm, hW, .inr (.inr (.inr (.inr (.inl ⟨hf, hd, by omega⟩))))⟩⟩

theorem quote_step (hr : Rune L i c w) (he : S.err = 0) (hlt : S.frm < i) (ht : S.tk.length ≤ S.frm) (hm : S.rm.length ≤ S.frm) (hW : W (L.drop S.frm) S.frm S.tk S.rm = R)
    (hf : S.fn = 116) (h7 : clsB (L.getD S.frm 0) = 7) (ha : ∀ j, S.frm < j → j < i → inQ (L.getD j 0) = true) : Good L R (quoteS L S i c) (i + w) := by
  have hil := hr.lt
  have hk := hr.cls
  have hdc := drop_cons L S.frm (by omega)
  have hb : blankB (L.getD S.frm 0) = false := blankB_cls (by omega) (by omega)
  have hg : (L.drop S.frm).getD 0 0 = L.getD S.frm 0 := by rw [getD_drop]; rfl
  by_cases hc : cls c = 7 ∨ cls c = 1
  · have hsp : span inQ ((L.drop S.frm).drop 1) = i - (S.frm + 1) := by
      rw [List.drop_drop]
      exact span_drop _ L (S.frm + 1) i (by omega) (by omega) (fun j h1 h2 => ha j (by omega) h2) (fun _ => decide_eq_false (by rw [← hk]; omega))
    have hgi : (L.drop S.frm).getD (i - (S.frm + 1) + 1) 0 = L.getD i 0 := by rw [getD_drop]; congr 1; omega
    have hw := hr.one (by omega)
    subst hw
    have ho : one (L.drop S.frm) = if cls c = 7 then (5, i - (S.frm + 1) + 2, 0, 0) else (0, 0, 42, 0) := by
      unfold one
      rw [dateB_not5 (by rw [hg]; omega), hg, h7, hsp, hgi, ← hk]
      simp
    rcases hc with hc | hc
    · simp only [quoteS, hc, if_true]
      rw [hc, if_pos rfl] at ho
      rw [hdc] at ho hW
      rw [W_tok _ _ _ _ _ hb (by omega) (by rw [ho]), ho] at hW
      simp only [← hdc, List.drop_drop] at hW
      have e1 : S.frm + (i - (S.frm + 1) + 2) = i + 1 := by omega
      rw [e1] at hW
      refine .inr ⟨he, hr.le, .inl ⟨rfl, by simp; omega, by simp; omega, ?_⟩⟩
      simp only [tokOf, if_true] at hW
      rw [← hW]
      have e2 : ((L.drop S.frm).take (i - (S.frm + 1) + 2 - 1)).drop 1 = sub L (S.frm + 1) i := by
        unfold sub
        rw [List.drop_take, List.drop_drop]
        congr 1
      rw [e2]
    · left
      rw [hc, if_neg (by decide)] at ho
      rw [hdc] at ho hW
      rw [W_err _ _ _ _ _ hb (by omega) (by rw [ho]; simp), ho] at hW
      refine ⟨42, by omega, by simp [quoteS, hc], ?_⟩
      rw [← hW]
      simp [quoteS, hc]
  · have h7' : ¬ cls c = 7 := fun h => hc (.inl h)
    have h1' : ¬ cls c = 1 := fun h => hc (.inr h)
    simp only [quoteS, h7', h1', if_false]
    have hle := hr.le
    refine .inr ⟨he, hr.le, .inr ⟨by omega, ht, hm, hW, .inr (.inr (.inr (.inr (.inr (.inl ⟨hf, h7, fun j h1 h2 => ?_⟩)))))⟩⟩
    by_cases e : j < i
    · exact ha j h1 e
    · by_cases e2 : j = i
      · subst e2; exact decide_eq_true (by rw [← hk]; exact ⟨h7', h1'⟩)
      · have := hr.high j (by omega) h2 (by omega)
        exact decide_eq_true (by rw [this]; decide)

theorem remark_step (hr : Rune L i c w) (he : S.err = 0) (hlt : S.frm < i) (ht : S.tk.length ≤ S.frm) (hm : S.rm.length ≤ S.frm) (hW : W (L.drop S.frm) S.frm S.tk S.rm = R)
    (hf : S.fn = 117) (h8 : clsB (L.getD S.frm 0) = 8) (ha : ∀ j, S.frm < j → j < i → noEnd (L.getD j 0) = true) : Good L R (remarkS L S i c) (i + w) := by
  have hil := hr.lt
  have hk := hr.cls
  have hdc := drop_cons L S.frm (by omega)
  by_cases hc : cls c = 1
  · have hsp : span noEnd (L.drop (S.frm + 1)) = i - (S.frm + 1) :=
      span_drop _ L (S.frm + 1) i (by omega) (by omega) (fun j h1 h2 => ha j (by omega) h2) (fun _ => decide_eq_false (by rw [← hk]; omega))
    have hw := hr.one (by omega)
    subst hw
    simp only [remarkS, hc, if_true]
    rw [hdc, W_remark _ _ _ _ _ h8, hsp, List.drop_drop] at hW
    have e1 : S.frm + 1 + (i - (S.frm + 1)) = i := by omega
    rw [e1] at hW
    refine .inr ⟨he, hr.le, .inl ⟨rfl, by simp; omega, by simp; omega, ?_⟩⟩
    rw [drop_cons L i hil, W_blank _ _ _ _ _ (decide_eq_true (.inl (by rw [← hk]; exact hc)))] at hW
    exact hW
  · simp only [remarkS, hc, if_false]
    refine .inr ⟨he, hr.le, .inr ⟨by have := hr.pos; omega, ht, hm, hW, .inr (.inr (.inr (.inr (.inr (.inr (.inl ⟨hf, h8, fun j h1 h2 => ?_⟩))))))⟩⟩
    by_cases e : j < i
    · exact ha j h1 e
    · by_cases e2 : j = i
      · subst e2; exact decide_eq_true (by rw [← hk]; exact hc)
      · have := hr.high j (by omega) h2 (by omega)
        exact decide_eq_true (by rw [this]; decide)

theorem mark_step (hr : Rune L i c w) (he : S.err = 0) (ht : S.tk.length ≤ S.frm) (hm : S.rm.length ≤ S.frm) (hW : W (L.drop S.frm) S.frm S.tk S.rm = R)
    (h9 : clsB (L.getD S.frm 0) = 9 ∨ clsB (L.getD S.frm 0) = 10) (hi : i = S.frm + 1) : Good L R (markS L S i c) (i + w) := by
  have hil := hr.lt
  have hk := hr.cls
  have hdc := drop_cons L S.frm (by omega)
  have hdd := drop_cons L i hil
  have hb : blankB (L.getD S.frm 0) = false := blankB_cls (by omega) (by omega)
  have hg : (L.drop S.frm).getD 0 0 = L.getD S.frm 0 := by rw [getD_drop]; rfl
  have e2 : (L.drop S.frm).take 2 = sub L S.frm (i + 1) := by unfold sub; congr 1; omega
  have e1 : (L.drop S.frm).take 1 = sub L S.frm i := by unfold sub; congr 1; omega
  have ho : one (L.drop S.frm) = if markB (sub L S.frm (i + 1)) = true then (6, 2, 0, 0) else if markB (sub L S.frm i) = true then (6, 1, 0, 0) else (0, 0, 41, 0) := by
    unfold one
    rw [dateB_not5 (by rw [hg]; omega), hg, e2, e1]
    have hl : 2 ≤ (L.drop S.frm).length := by simp; omega
    rcases h9 with h | h <;> rw [h, if_neg (by decide), if_neg (by decide), if_neg (by decide), if_neg (by decide), if_neg (by decide)] <;> simp only [hl, true_and]
  by_cases h2 : markB (sub L S.frm (i + 1)) = true
  · have hbb : clsB (L.getD i 0) ≠ 0 := by
      have hs : sub L S.frm (i + 1) = [L.getD S.frm 0, L.getD i 0] := by
        rw [← e2, hdc, ← hi, hdd]; rfl
      rw [hs] at h2
      simp only [markB, marksL, decide_eq_true_eq, List.mem_cons, List.cons.injEq, and_true, List.not_mem_nil, or_false] at h2
      generalize L.getD S.frm 0 = a at h2
      generalize L.getD i 0 = b at h2 ⊢
      rcases h2 with h | h | h | h | h | h | h | h | h | h | h | h | h | h | h | h | h | h | h | h | h
      all_goals first | (obtain ⟨rfl, rfl⟩ := h; decide) | (simp at h)
    have hw := hr.one hbb
    subst hw
    simp only [markS, h2, if_true]
    rw [if_pos h2] at ho
    rw [hdc] at ho hW
    rw [W_tok _ _ _ _ _ hb (by omega) (by rw [ho]), ho] at hW
    simp only [← hdc, List.drop_drop] at hW
    have e3 : S.frm + 2 = i + 1 := by omega
    rw [e3] at hW
    refine .inr ⟨he, hr.le, .inl ⟨rfl, by simp; omega, by simp; omega, ?_⟩⟩
    simp only [tokOf, e2] at hW
    exact hW
  · by_cases h1 : markB (sub L S.frm i) = true
    · simp only [markS, h2, h1, if_true]
      rw [if_neg h2, if_pos h1] at ho
      rw [hdc] at ho hW
      rw [W_tok _ _ _ _ _ hb (by omega) (by rw [ho]), ho] at hW
      simp only [← hdc, List.drop_drop] at hW
      rw [← hi] at hW
      refine between_step hr (S := { S with fn := 66, tk := S.tk ++ [⟨6, sub L S.frm i, S.frm⟩] }) he rfl (by simp; omega) (by simp; omega) ?_
      simp only [tokOf, e1] at hW
      exact hW
    · left
      rw [if_neg h2, if_neg h1] at ho
      rw [hdc] at ho hW
      rw [W_err _ _ _ _ _ hb (by omega) (by rw [ho]; simp), ho] at hW
      refine ⟨41, by omega, by simp [markS, h1, h2], ?_⟩
      rw [← hW]
      simp [markS, h1, h2]
end
end Go.Proofs.YthnjmfkiohgkkaaGreatDoor

namespace Go.Proofs.YthnjmfkiohgkkaaGreatDoor

theorem getD_left (l z : List UInt8) (j : Nat) (h : j < l.length) : (l ++ z).getD j 0 = l.getD j 0 := by
  simp only [List.getD_eq_getElem?_getD, List.getElem?_append_left h]
theorem getD_mid (l z : List UInt8) (b : UInt8) : (l ++ b :: z).getD l.length 0 = b := by
  simp [List.getD_eq_getElem?_getD]

theorem span_app (p : UInt8 → Bool) (l z : List UInt8) (b : UInt8) (h : p b = false) : span p (l ++ b :: z) = span p l := by
  refine span_eq p _ _ (by have := span_le p l; simp; omega) (fun j hj => ?_) (fun _ => ?_)
  · rw [getD_left _ _ _ (by have := span_le p l; omega)]; exact span_in p l j hj
  · rcases Nat.lt_or_ge (span p l) l.length with h1 | h1
    · rw [getD_left _ _ _ h1]; exact span_out p l h1
    · have e : span p l = l.length := by have := span_le p l; omega
      rw [e, getD_mid]; exact h

theorem span_app2 (p : UInt8 → Bool) (l z : List UInt8) (h : span p l < l.length) : span p (l ++ z) = span p l := by
  refine span_eq p _ _ (by simp; omega) (fun j hj => ?_) (fun _ => ?_)
  · rw [getD_left _ _ _ (by omega)]; exact span_in p l j hj
  · rw [getD_left _ _ _ h]; exact span_out p l h

theorem dateB_long (l z : List UInt8) (h : 10 ≤ l.length) : dateB (l ++ z) = dateB l := by
  have e : (List.range 10).all (fun j => dpat j ((l ++ z).getD j 0)) = (List.range 10).all (fun j => dpat j (l.getD j 0)) := by
    rw [Bool.eq_iff_iff]
    simp only [List.all_eq_true, List.mem_range]
    constructor <;> intro h1 j hj
    · have := h1 j hj; rwa [getD_left _ _ _ (by omega)] at this
    · have := h1 j hj; rwa [getD_left _ _ _ (by omega)]
  have h1 : decide (10 ≤ (l ++ z).length) = true := decide_eq_true (by simp; omega)
  have h2 : decide (10 ≤ l.length) = true := decide_eq_true h
  unfold dateB
  rw [e, h1, h2]

theorem dpat_no (j : Nat) (b : UInt8) (h : clsB b = 1 ∨ clsB b = 2) : dpat j b = false := by
  unfold dpat
  split
  · refine decide_eq_false fun e => ?_
    have : clsB b = 10 := by unfold clsB; rw [e]; rfl
    omega
  · cases hx : digB b with
    | false => rfl
    | true => have := digB_cls.1 hx; omega

theorem dateB_app (l z : List UInt8) (b : UInt8) (h : clsB b = 1 ∨ clsB b = 2) : dateB (l ++ b :: z) = dateB l := by
  rcases Nat.lt_or_ge l.length 10 with h1 | h1
  · have e1 : dateB l = false := by
      unfold dateB
      rw [decide_eq_false (by omega)]; rfl
    rw [e1]
    unfold dateB
    have e2 : (List.range 10).all (fun j => dpat j ((l ++ b :: z).getD j 0)) = false := by
      rw [List.all_eq_false]
      exact ⟨l.length, by simpa using h1, by rw [getD_mid, dpat_no _ _ h]; simp⟩
    rw [e2, Bool.and_false]
  · exact dateB_long l _ h1

theorem cls_end (l z : List UInt8) (b : UInt8) (h : clsB b = 1 ∨ clsB b = 2) (k : Int) (h0 : k ≠ 0) (h1 : k ≠ 1) (h2 : k ≠ 2) (j : Nat) (hj : j ≤ l.length) : clsB ((l ++ b :: z).getD j 0) = k ↔ clsB (l.getD j 0) = k := by
  rcases Nat.lt_or_ge j l.length with h3 | h3
  · rw [getD_left _ _ _ h3]
  · have e : j = l.length := by omega
    subst e
    rw [getD_mid, getD_ge (Nat.le_refl _), clsB_zero]
    omega

theorem digB_end (l z : List UInt8) (b : UInt8) (h : clsB b = 1 ∨ clsB b = 2) (j : Nat) (hj : j ≤ l.length) : digB ((l ++ b :: z).getD j 0) = true ↔ digB (l.getD j 0) = true := by
  rw [digB_cls, digB_cls]
  exact cls_end l z b h 5 (by decide) (by decide) (by decide) j hj

theorem wordB_end (l z : List UInt8) (b : UInt8) (h : clsB b = 1 ∨ clsB b = 2) (j : Nat) (hj : j ≤ l.length) : wordB ((l ++ b :: z).getD j 0) = true ↔ wordB (l.getD j 0) = true := by
  have e := fun k h0 h1 h2 => cls_end l z b h k h0 h1 h2 j hj
  simp only [wordB, decide_eq_true_eq]
  rw [e 3 (by decide) (by decide) (by decide), e 4 (by decide) (by decide) (by decide), e 5 (by decide) (by decide) (by decide), e 6 (by decide) (by decide) (by decide)]

theorem fin_app (kind n : Nat) (l z : List UInt8) (b : UInt8) (h : clsB b = 1 ∨ clsB b = 2) (hn : n ≤ l.length) : fin kind n (l ++ b :: z) = fin kind n l := by
  unfold fin
  have := wordB_end l z b h n hn
  by_cases h1 : wordB (l.getD n 0) = true
  · rw [if_pos h1, if_pos (this.2 h1)]
  · rw [if_neg h1, if_neg (fun h => h1 (this.1 h))]

theorem blank_no {b : UInt8} (h : clsB b = 1 ∨ clsB b = 2) : digB b = false ∧ nameB b = false ∧ wordB b = false := by
  refine ⟨?_, decide_eq_false (by omega), decide_eq_false (by omega)⟩
  cases hx : digB b with
  | false => rfl
  | true => have := digB_cls.1 hx; omega

theorem numLen_app (l z : List UInt8) (b : UInt8) (h : clsB b = 1 ∨ clsB b = 2) : numLen (l ++ b :: z) = numLen l := by
  have hs := span_app digB l z b (blank_no h).1
  have hl := span_le digB l
  unfold numLen
  rw [hs]
  by_cases h9 : clsB (l.getD (span digB l) 0) = 9
  · have hlt : span digB l < l.length := by
      rcases Nat.lt_or_ge (span digB l) l.length with h5 | h5
      · exact h5
      · rw [getD_ge h5, clsB_zero] at h9; simp at h9
    have h9' := (cls_end l z b h 9 (by decide) (by decide) (by decide) (span digB l) hl).2 h9
    have hd := digB_end l z b h (span digB l + 1) (by omega)
    by_cases h5 : digB (l.getD (span digB l + 1) 0) = true
    · rw [if_pos ⟨h9', hd.2 h5⟩, if_pos ⟨h9, h5⟩, List.drop_append_of_le_length (by omega), span_app _ _ _ _ (blank_no h).1]
    · rw [if_neg (fun h => h5 (hd.1 h.2)), if_neg (fun h => h5 h.2)]
  · rw [if_neg (fun h' => h9 ((cls_end l z b h 9 (by decide) (by decide) (by decide) (span digB l) hl).1 h'.1)), if_neg (fun h => h9 h.1)]

theorem markB_end (a b : UInt8) (h : clsB b = 1 ∨ clsB b = 2) : markB [a, b] = false := by
  cases hm : markB [a, b] with
  | false => rfl
  | true =>
    simp only [markB, marksL, decide_eq_true_eq, List.mem_cons, List.cons.injEq, and_true, List.not_mem_nil, or_false] at hm
    exfalso
    rcases hm with h1 | h1 | h1 | h1 | h1 | h1 | h1 | h1 | h1 | h1 | h1 | h1 | h1 | h1 | h1 | h1 | h1 | h1 | h1 | h1 | h1
    all_goals first | (obtain ⟨rfl, rfl⟩ := h1; revert h; decide) | (simp at h1)

/-- A blank behind changes nothing at a token; a line's end nothing at all. -/
theorem one_app (l z : List UInt8) (b : UInt8) (h0 : l ≠ []) (h : clsB b = 1 ∨ clsB b = 2) (ho : clsB b = 1 ∨ (one l).2.2.1 = 0 ∨ clsB (l.getD 0 0) ≠ 7) : one (l ++ b :: z) = one l := by
  have hg : (l ++ b :: z).getD 0 0 = l.getD 0 0 := getD_left _ _ _ (List.length_pos_iff.2 h0)
  have hlp : 1 ≤ l.length := List.length_pos_iff.2 h0
  have hn := blank_no h
  unfold one at ho ⊢
  rw [dateB_app l z b h, hg, numLen_app l z b h, span_app nameB l z b hn.2.1, span_app wordB l z b hn.2.2]
  by_cases hd : dateB l = true
  · rw [if_pos hd, if_pos hd]
    exact fin_app _ _ _ _ _ h (dateB_len hd)
  · rw [if_neg hd] at ho ⊢
    rw [if_neg hd]
    by_cases h5 : clsB (l.getD 0 0) = 5
    · rw [if_pos h5, if_pos h5]
      exact fin_app _ _ _ _ _ h (numLen_bd h0 (digB_cls.2 h5)).2
    · rw [if_neg h5] at ho ⊢
      rw [if_neg h5]
      by_cases h3 : clsB (l.getD 0 0) = 3
      · rw [if_pos h3, if_pos h3]
        exact fin_app _ _ _ _ _ h (span_le _ _)
      · rw [if_neg h3] at ho ⊢
        rw [if_neg h3]
        by_cases h4 : clsB (l.getD 0 0) = 4
        · rw [if_pos h4, if_pos h4]
          exact fin_app _ _ _ _ _ h (span_le _ _)
        · rw [if_neg h4] at ho ⊢
          rw [if_neg h4]
          by_cases h7 : clsB (l.getD 0 0) = 7
          · rw [if_pos h7] at ho ⊢
            rw [if_pos h7]
            have hsl := span_le inQ (l.drop 1)
            simp only [List.length_drop] at hsl
            have hs : span inQ ((l ++ b :: z).drop 1) = span inQ (l.drop 1) := by
              rw [List.drop_append_of_le_length hlp]
              rcases ho with ho | ho | ho
              · exact span_app _ _ _ _ (decide_eq_false (by omega))
              · refine span_app2 _ _ _ ?_
                by_cases hq : clsB (l.getD (span inQ (l.drop 1) + 1) 0) = 7
                · rcases Nat.lt_or_ge (span inQ (l.drop 1) + 1) l.length with h6 | h6
                  · rw [List.length_drop]; omega
                  · rw [getD_ge h6, clsB_zero] at hq; simp at hq
                · rw [if_neg hq] at ho; simp at ho
              · exact absurd h7 ho
            rw [hs]
            have hc := cls_end l z b h 7 (by decide) (by decide) (by decide) (span inQ (l.drop 1) + 1) (by omega)
            by_cases hq : clsB (l.getD (span inQ (l.drop 1) + 1) 0) = 7
            · rw [if_pos hq, if_pos (hc.2 hq)]
            · rw [if_neg hq, if_neg (fun h => hq (hc.1 h))]
          · rw [if_neg h7, if_neg h7]
            cases l with
            | nil => exact absurd rfl h0
            | cons a r =>
              cases r with
              | nil =>
                have e1 : ([a] ++ b :: z).take 2 = [a, b] := rfl
                have e2 : ([a] ++ b :: z).take 1 = [a].take 1 := rfl
                rw [e1, e2, markB_end a b h]
                simp
              | cons a' r =>
                have e1 : ((a :: a' :: r) ++ b :: z).take 2 = (a :: a' :: r).take 2 := rfl
                have e2 : ((a :: a' :: r) ++ b :: z).take 1 = (a :: a' :: r).take 1 := rfl
                rw [e1, e2]
                simp

theorem noEnd_ten : noEnd 10 = false := by decide
theorem cls_ten : clsB 10 = 1 := by decide

/-- A text, a line's end, another text. -/
theorem W_together (y : List UInt8) : ∀ (n : Nat) (l : List UInt8), l.length ≤ n → ∀ (i : Nat) (tk : List Tok) (rm : List (List UInt8)),
    ((W l i tk rm).err ≠ 0 ∧ (W l i tk rm).tk = [] ∧ (W l i tk rm).rm = [] ∧ W (l ++ 10 :: y) i tk rm = W l i tk rm) ∨ ∃ tk' rm', W l i tk rm = ⟨tk', rm', 0, i + l.length⟩ ∧ W (l ++ 10 :: y) i tk rm = W y (i + l.length + 1) tk' rm' := by
  intro n
  induction n with
  | zero =>
    intro l hl i tk rm
    have : l = [] := List.eq_nil_of_length_eq_zero (by omega)
    subst this
    exact .inr ⟨tk, rm, rfl, W_blank _ _ _ _ _ (by decide)⟩
  | succ n ih =>
    intro l hl i tk rm
    cases l with
    | nil => exact .inr ⟨tk, rm, rfl, W_blank _ _ _ _ _ (by decide)⟩
    | cons c r =>
      simp only [List.length_cons] at hl
      by_cases hb : blankB c = true
      · rw [List.cons_append, W_blank _ _ _ _ _ hb, W_blank _ _ _ _ _ hb]
        have e : i + (c :: r).length = i + 1 + r.length := by simp; omega
        rw [e]
        exact ih r (by omega) (i + 1) tk rm
      · have hb' : blankB c = false := by simpa using hb
        by_cases h8 : clsB c = 8
        · have hs := span_app noEnd r y 10 noEnd_ten
          have hsl := span_le noEnd r
          rw [List.cons_append, W_remark _ _ _ _ _ h8, W_remark _ _ _ _ _ h8, hs, List.drop_append_of_le_length hsl, List.take_append_of_le_length hsl]
          have := ih (r.drop (span noEnd r)) (by simp; omega) (i + 1 + span noEnd r) tk (rm ++ [r.take (span noEnd r)])
          have e : i + (c :: r).length = i + 1 + span noEnd r + (r.drop (span noEnd r)).length := by simp; omega
          rw [e]
          exact this
        · have ho : one (c :: (r ++ 10 :: y)) = one (c :: r) := one_app (c :: r) y 10 (by simp) (.inl cls_ten) (.inl cls_ten)
          by_cases he : (one (c :: r)).2.2.1 = 0
          · have hol := one_len (l := c :: r) (by simp) he
            have eA := W_tok c (r ++ 10 :: y) i tk rm hb' h8 (by rw [ho]; exact he)
            have eB := W_tok c r i tk rm hb' h8 he
            rw [List.cons_append, eA, eB, ho, ← List.cons_append, List.drop_append_of_le_length hol.2]
            have et : tokOf (one (c :: r)).1 (one (c :: r)).2.1 ((c :: r) ++ 10 :: y) i = tokOf (one (c :: r)).1 (one (c :: r)).2.1 (c :: r) i := by
              unfold tokOf
              rw [List.take_append_of_le_length (by omega), List.take_append_of_le_length hol.2]
            rw [et]
            have := ih ((c :: r).drop (one (c :: r)).2.1) (by simp only [List.length_drop, List.length_cons]; omega) (i + (one (c :: r)).2.1) (tk ++ [tokOf (one (c :: r)).1 (one (c :: r)).2.1 (c :: r) i]) rm
            have e : i + (c :: r).length = i + (one (c :: r)).2.1 + ((c :: r).drop (one (c :: r)).2.1).length := by simp only [List.length_drop]; omega
            rw [e]
            exact this
          · have eA := W_err c (r ++ 10 :: y) i tk rm hb' h8 (by rw [ho]; exact he)
            have eB := W_err c r i tk rm hb' h8 he
            rw [List.cons_append, eA, eB, ho]
            exact .inl ⟨he, rfl, rfl, rfl⟩

/-- What Tokens and Remarks answer of a text that is not too long. -/
def lexR (s : List UInt8) : Res := W s 0 [] []

theorem lexR_cases (s : List UInt8) : ((lexR s).err ≠ 0 ∧ (lexR s).tk = [] ∧ (lexR s).rm = [] ∧ W (s ++ [10]) 0 [] [] = lexR s) ∨ ((lexR s).err = 0 ∧ (lexR s).place = s.length ∧ W (s ++ [10]) 0 [] [] = ⟨(lexR s).tk, (lexR s).rm, 0, s.length + 1⟩) := by
  rcases W_together [] s.length s (Nat.le_refl _) 0 [] [] with h | ⟨tk, rm, h1, h2⟩
  · exact .inl h
  · right
    have e : lexR s = ⟨tk, rm, 0, s.length⟩ := by unfold lexR; rw [h1]; simp
    rw [e]
    exact ⟨rfl, rfl, by rw [h2, W_nil]; simp⟩

/-- The scanner's step. -/
def stepS (L : List UInt8) (S : St) (i : Nat) (c : Int) : St :=
  if S.fn = 66 then betweenS L S i c
  else if S.fn = 111 then nameS L S i c
  else if S.fn = 112 then varS L S i c
  else if S.fn = 113 then numberS L S i c
  else if S.fn = 146 then fractionS L S i c
  else if S.fn = 115 then dateS L S i c
  else if S.fn = 116 then quoteS L S i c
  else if S.fn = 117 then remarkS L S i c
  else markS L S i c

theorem step_good {L : List UInt8} {R : Res} {S : St} {i w : Nat} {c : Int} (hr : Rune L i c w) (h : Inv L R S i) : Good L R (stepS L S i c) (i + w) := by
  obtain ⟨he, hil, ⟨hf, ht, hm, hW⟩ | ⟨hlt, ht, hm, hW, hk⟩⟩ := h
  · unfold stepS; rw [if_pos hf]; exact between_step hr he hf ht hm hW
  · rcases hk with ⟨hf, h1, h2⟩ | ⟨hf, h1, h2⟩ | ⟨hf, h1, h2⟩ | ⟨hf, h1, p, h2, h3, h4, h5, h6, h7⟩ | ⟨hf, h1, h2⟩ | ⟨hf, h1, h2⟩ | ⟨hf, h1, h2⟩ | ⟨hf, h1, h2⟩
    all_goals simp only [stepS, hf]
    · exact name_step hr he hlt ht hm hW hf h1 h2
    · exact var_step hr he hlt ht hm hW hf h1 h2
    · exact number_step hr he hlt ht hm hW hf h1 h2
    · exact fraction_step hr he hlt ht hm hW hf h1 p h2 h3 h4 h5 h6 h7
    · exact date_step hr he hlt ht hm hW hf h1 h2
    · exact quote_step hr he hlt ht hm hW hf h1 h2
    · exact remark_step hr he hlt ht hm hW hf h1 h2
    · exact mark_step hr he ht hm hW h1 h2

/-- At the end the scanner stands between tokens. -/
theorem inv_end {s : List UInt8} {R : Res} {S : St} {i : Nat} (h : Inv (s ++ [10]) R S i) (hi : i = s.length + 1) : R = ⟨S.tk, S.rm, 0, s.length + 1⟩ := by
  obtain ⟨he, hil, ⟨hf, ht, hm, hW⟩ | ⟨hlt, ht, hm, hW, hk⟩⟩ := h
  · rw [← hW, hi]
    have e : (s ++ [10]).drop (s.length + 1) = [] := List.drop_eq_nil_of_le (by simp)
    rw [e, W_nil]
  · exfalso
    have hten : (s ++ [10]).getD s.length 0 = 10 := getD_mid s [] 10
    have hfr : S.frm ≤ s.length := by omega
    rcases hk with ⟨hf, h1, h2⟩ | ⟨hf, h1, h2⟩ | ⟨hf, h1, h2⟩ | ⟨hf, h1, p, h2, h3, h4, h5, h6, h7⟩ | ⟨hf, h1, h2⟩ | ⟨hf, h1, h2⟩ | ⟨hf, h1, h2⟩ | ⟨hf, h1, h2⟩
    · have := h2 s.length hfr (by omega); rw [hten] at this; revert this; decide
    · have := h2 s.length hfr (by omega); rw [hten] at this; revert this; decide
    · have := h2 s.length hfr (by omega); rw [hten] at this; revert this; decide
    · by_cases hp : p = s.length
      · subst hp; rw [hten] at h5; revert h5; decide
      · have := h7 s.length (by omega) (by omega); rw [hten] at this; revert this; decide
    · have hl := dateB_len h1
      simp only [List.length_drop, List.length_append, List.length_cons, List.length_nil] at hl
      have := (dateB_at h1 9 (by omega)).2
      rw [getD_drop] at this
      have e : S.frm + 9 = s.length := by omega
      rw [e, hten] at this
      exact this cls_ten
    · by_cases hp : S.frm = s.length
      · rw [hp, hten] at h1; revert h1; decide
      · have := h2 s.length (by omega) (by omega); rw [hten] at this; revert this; decide
    · by_cases hp : S.frm = s.length
      · rw [hp, hten] at h1; revert h1; decide
      · have := h2 s.length (by omega) (by omega); rw [hten] at this; revert this; decide
    · have e : S.frm = s.length := by omega
      rw [e, hten] at h1; revert h1; decide
end Go.Proofs.YthnjmfkiohgkkaaGreatDoor
