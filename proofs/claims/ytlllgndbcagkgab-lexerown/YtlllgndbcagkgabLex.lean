/- The document's cutting of a text into tokens and remarks, and the scanner's, as plain mathematics. -/
namespace Go.Proofs.Ytlllgndbcagkgab

/-- The class of a character. -/
def cls (c : Int) : Int :=
  if c = 10 then 1
  else if c = 9 then 2
  else if c = 13 then 2
  else if c = 32 then 2
  else if c = 95 then 6
  else if c = 34 then 7
  else if c = 35 then 8
  else if c = 46 then 9
  else if c = 45 then 10
  else if c = 61 then 10
  else if c = 126 then 10
  else if c = 33 then 10
  else if c = 60 then 10
  else if c = 62 then 10
  else if c = 40 then 10
  else if c = 41 then 10
  else if c = 123 then 10
  else if c = 125 then 10
  else if c = 44 then 10
  else if c = 58 then 10
  else if c = 43 then 10
  else if c = 42 then 10
  else if 97 ≤ c ∧ c ≤ 122 then 3
  else if 65 ≤ c ∧ c ≤ 90 then 4
  else if 48 ≤ c ∧ c ≤ 57 then 5
  else 0

/-- The marks, the longest ahead. -/
def marksL : List (List UInt8) := [[45, 62], [61, 62], [126, 62], [33, 61], [60, 61], [62, 61], [61, 61], [60, 62], [60], [62], [40], [41], [123], [125], [44], [46], [58], [61], [45], [43], [42]]

/-- Whether a text is a mark. -/
def markB (s : List UInt8) : Bool := decide (s ∈ marksL)

/-- A token: its kind, its text, its place. -/
structure Tok where
  kind : Nat
  text : List UInt8
  place : Nat
  deriving DecidableEq

/-- The state of a scanner. -/
structure St where
  fn : Nat
  frm : Nat
  tk : List Tok
  rm : List (List UInt8)
  err : Int
  place : Nat

def digB (c : UInt8) : Bool := decide (48 ≤ c.toNat ∧ c.toNat ≤ 57)

/-- What a date's form asks of its byte j. -/
def dpat (j : Nat) (c : UInt8) : Bool := if j = 4 ∨ j = 7 then decide (c.toNat = 45) else digB c

/-- Whether ten bytes have the form of a date. -/
def dateB (l : List UInt8) : Bool := decide (10 ≤ l.length) && (List.range 10).all fun j => dpat j (l.getD j 0)

theorem cls_digit (c : UInt8) : (cls (c.toNat : Int) = 5) ↔ digB c = true := by
  unfold cls digB
  simp only [decide_eq_true_eq]
  repeat' split
  all_goals (first | omega | (constructor <;> intro h <;> first | omega | (simp at h)))

/-- What the state becomes at a character between tokens. -/
def betweenS (T : List UInt8) (S : St) (i : Nat) (c : Int) : St :=
  if cls c = 1 ∨ cls c = 2 then { S with frm := i }
  else if cls c = 3 then { S with frm := i, fn := 63 }
  else if cls c = 4 then { S with frm := i, fn := 64 }
  else if cls c = 5 then { S with frm := i, fn := if dateB (T.drop i) then 67 else 65 }
  else if cls c = 7 then { S with frm := i, fn := 68 }
  else if cls c = 8 then { S with frm := i, fn := 69 }
  else if cls c = 9 ∨ cls c = 10 then { S with frm := i, fn := 70 }
  else { S with frm := i, err := 41, place := i }

theorem cls_cases (c : Int) : cls c = 0 ∨ cls c = 1 ∨ cls c = 2 ∨ cls c = 3 ∨ cls c = 4 ∨ cls c = 5 ∨ cls c = 6 ∨ cls c = 7 ∨ cls c = 8 ∨ cls c = 9 ∨ cls c = 10 := by
  have h : ∀ x, x = cls c → 0 ≤ x ∧ x ≤ 10 := by
    intro x hx
    unfold cls at hx
    repeat' split at hx
    all_goals omega
  have := h _ rfl
  omega

/-- A text's bytes from a place to another. -/
def sub (T : List UInt8) (a b : Nat) : List UInt8 := (T.drop a).take (b - a)

/-- What the state becomes where a token ends ahead of c. -/
def apartS (T : List UInt8) (S : St) (kind i : Nat) (c : Int) : St :=
  if cls c = 3 ∨ cls c = 4 ∨ cls c = 5 ∨ cls c = 6 then { S with err := 41, place := i }
  else betweenS T { S with fn := 37, tk := S.tk ++ [⟨kind, sub T S.frm i, S.frm⟩] } i c

def wordS (T : List UInt8) (S : St) (kind i : Nat) (c : Int) : St :=
  if 32 < i - S.frm then { S with err := 5, place := S.frm } else apartS T S kind i c

def nameS (T : List UInt8) (S : St) (i : Nat) (c : Int) : St := if cls c = 3 ∨ cls c = 5 ∨ cls c = 6 then S else wordS T S 1 i c
def varS (T : List UInt8) (S : St) (i : Nat) (c : Int) : St := if cls c = 3 ∨ cls c = 4 ∨ cls c = 5 ∨ cls c = 6 then S else wordS T S 2 i c
def numberS (T : List UInt8) (S : St) (i : Nat) (c : Int) : St :=
  if cls c = 5 then S else if cls c = 9 ∧ digB (T.getD (i + 1) 0) = true then { S with fn := 74 } else apartS T S 3 i c
def fractionS (T : List UInt8) (S : St) (i : Nat) (c : Int) : St := if cls c = 5 then S else apartS T S 3 i c
def dateS (T : List UInt8) (S : St) (i : Nat) (c : Int) : St := if i = S.frm + 10 then apartS T S 4 i c else S
def quoteS (T : List UInt8) (S : St) (i : Nat) (c : Int) : St :=
  if cls c = 7 then { S with fn := 37, tk := S.tk ++ [⟨5, sub T (S.frm + 1) i, S.frm⟩] } else if cls c = 1 then { S with err := 42, place := S.frm } else S
def remarkS (T : List UInt8) (S : St) (i : Nat) (c : Int) : St :=
  if cls c = 1 then { S with fn := 37, rm := S.rm ++ [sub T (S.frm + 1) i] } else S
def markS (T : List UInt8) (S : St) (i : Nat) (c : Int) : St :=
  if markB (sub T S.frm (i + 1)) = true then { S with fn := 37, tk := S.tk ++ [⟨6, sub T S.frm (i + 1), S.frm⟩] }
  else if markB (sub T S.frm i) = true then betweenS T { S with fn := 37, tk := S.tk ++ [⟨6, sub T S.frm i, S.frm⟩] } i c
  else { S with err := 41, place := S.frm }

end Go.Proofs.Ytlllgndbcagkgab
