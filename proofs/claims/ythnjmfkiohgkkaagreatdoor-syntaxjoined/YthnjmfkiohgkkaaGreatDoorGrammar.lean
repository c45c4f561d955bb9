/- The grammar's reader, as plain mathematics: over the kinds and texts of tokens. -/
namespace Go.Proofs.YthnjmfkiohgkkaaGreatDoor.Sy

abbrev Bytes := List UInt8
abbrev Toks := List (Nat × Bytes)

/-- The state of a reader: the number of the next token, whether it begins a thing too many, whether the next term stands behind a minus. -/
structure RS where
  n : Nat
  full : Bool
  minus : Bool
  deriving DecidableEq

/-- What a reader ends with: a thing and its state, or an error at the token of that number. -/
inductive Out (α : Type) where
  | ok (a : α) (s : RS)
  | bad (e : Int) (n : Nat)
  deriving DecidableEq

def M (α : Type) : Type := RS → Out α

def M.pure {α : Type} (a : α) : M α := fun s => .ok a s
def M.bind {α β : Type} (x : M α) (f : α → M β) : M β := fun s => match x s with
  | .ok a t => f a t
  | .bad e n => .bad e n
instance : Monad M where
  pure := M.pure
  bind := M.bind

structure LitM where
  neg : Bool
  pred : Bytes
  args : List Bytes
  hasValue : Bool
  value : Int
  deriving DecidableEq

structure TermM where
  coef : Int
  pred : Bytes
  args : List Bytes
  value : Int
  deriving DecidableEq

structure GuardM where
  left : List TermM
  op : Nat
  right : List TermM
  deriving DecidableEq

structure PremM where
  kind : Nat
  lit : LitM
  guard : GuardM
  a : Bytes
  b : Bytes
  deriving DecidableEq

structure RuleM where
  name : Bytes
  source : Bytes
  day : Int
  till : Int
  body : List PremM
  arrow : Nat
  head : LitM
  deriving DecidableEq

structure PredM where
  name : Bytes
  sort : Nat
  kinds : List Bytes
  values : List Int
  deriving DecidableEq

structure TotalM where
  name : Bytes
  kind : Bytes
  preds : List Bytes
  hasCap : Bool
  cap : Int
  deriving DecidableEq

structure StatM where
  title : Bytes
  kinds : List Bytes
  members : List (Bytes × Bytes)
  preds : List PredM
  classes : List (List Bytes)
  sources : List (Bytes × Int)
  rules : List RuleM
  excepts : List (Bytes × Bytes)
  totals : List TotalM
  deriving DecidableEq

def StatM.none : StatM := ⟨[], [], [], [], [], [], [], [], []⟩
def litNone : LitM := ⟨false, [], [], false, 0⟩
def guardNone : GuardM := ⟨[], 0, []⟩

/-- What other layers read of a text: a day, an amount (each with an error), a whole number (if it is one). -/
structure Fns where
  day : Bytes → Int × Int
  money : Bytes → Int × Int
  int : Bytes → Option Int
  point : Bytes → Bool
  neg : Int → Int

def wordsL : List Bytes := [[115, 116, 97, 116, 117, 116, 101], [107, 105, 110, 100], [109, 101, 109, 98, 101, 114], [112, 114, 101, 100], [110, 117, 109, 98, 101, 114], [97, 109, 111, 117, 110, 116], [99, 108, 97, 115, 115], [115, 111, 117, 114, 99, 101], [114, 97, 110, 107], [114, 117, 108, 101], [111, 102], [97, 116], [117, 110, 116, 105, 108], [101, 120, 99, 101, 112, 116, 105, 111, 110], [116, 111], [116, 111, 116, 97, 108], [99, 97, 112]]

section
variable (F : Fns) (K : Toks)

def kd (i : Nat) : Nat := (K[i]?.getD (0, [])).1
def tx (i : Nat) : Bytes := (K[i]?.getD (0, [])).2
def markAt (i : Nat) (t : Bytes) : Bool := decide (kd K i = 6) && decide (tx K i = t)
def wordAt (i : Nat) (t : Bytes) : Bool := decide (kd K i = 1) && decide (tx K i = t)

def failM {α : Type} (e : Int) : M α := fun s => .bad e s.n
def takeM : M Bytes := fun s => if s.full = true then .bad 3 s.n else .ok (tx K s.n) { s with n := s.n + 1 }
/-- Something is asked of the state, which stays. -/
def askM {α : Type} (q : RS → α) : M α := fun s => .ok (q s) s
def setM (q : RS → RS) : M Unit := fun s => .ok () (q s)

def hasMark (t : Bytes) : M Bool := do
  if (← askM fun s => markAt K s.n t) = true then
    let _ ← takeM K
    pure true
  else pure false
def hasWord (t : Bytes) : M Bool := do
  if (← askM fun s => wordAt K s.n t) = true then
    let _ ← takeM K
    pure true
  else pure false
def wantMark (t : Bytes) : M Unit := do if (← hasMark K t) = true then pure () else failM 51
def wantWord (t : Bytes) : M Unit := do if (← hasWord K t) = true then pure () else failM 51
def commaM : M Bool := hasMark K [44]

/-- A list's next thing: full, if there is no room. -/
def addM {α : Type} (k : Nat) (most : Int) (read : M α) : M α := do
  setM fun s => { s with full := s.full || decide (most ≤ (k : Int)) }
  read

def loopM {α : Type} (most : Int) (read : M α) (more : M Bool) : Nat → List α → M (List α)
  | 0, _ => fun _ => .bad 1 0
  | f + 1, acc => do
    if (← more) = true then
      let x ← addM acc.length most read
      loopM most read more f (acc ++ [x])
    else pure acc

def listM {α : Type} (most : Int) (read : M α) (more : M Bool) : M (List α) := do
  let x ← addM 0 most read
  loopM most read more (K.length + 1) [x]

def nameM : M Bytes := do
  if (← askM fun s => decide (kd K s.n = 1) && !decide (tx K s.n ∈ wordsL)) = true then takeM K else failM 51
def argM : M Bytes := do
  if (← askM fun s => decide (kd K s.n = 2)) = true then takeM K else nameM K
def quoteM : M Bytes := do
  if (← askM fun s => decide (kd K s.n = 5)) = true then takeM K else failM 51
def dateM : M Int := do
  if (← askM fun s => decide (kd K s.n = 4) && decide ((F.day (tx K s.n)).2 = 0)) = true then
    let d ← askM fun s => (F.day (tx K s.n)).1
    let _ ← takeM K
    pure d
  else failM 51
/-- A whole number from least to most. -/
def okInt (least most : Int) (t : Bytes) : Bool := match F.int t with
  | some x => decide (least ≤ x) && decide (x ≤ most)
  | none => false
def intM (least most : Int) : M Int := do
  if (← askM fun s => decide (kd K s.n = 3) && !F.point (tx K s.n)) = true then
    if (← askM fun s => okInt F least most (tx K s.n)) = true then
      let d ← askM fun s => (F.int (tx K s.n)).getD 0
      let _ ← takeM K
      pure d
    else failM 4
  else failM 51
def amountM (sign : Bytes) : M Int := do
  if (← askM fun s => decide (kd K s.n = 3)) = true then
    let m ← askM fun s => F.money (sign ++ tx K s.n)
    if decide (m.2 = 0) = true then
      let _ ← takeM K
      pure m.1
    else failM m.2
  else failM 51
def moneyM : M Int := do
  if (← hasMark K [45]) = true then amountM F K [45] else amountM F K []

def bracketsM (read : M Bytes) : M (List Bytes) := do
  if (← hasMark K [40]) = true then
    let l ← listM K 4 read (commaM K)
    wantMark K [41]
    pure l
  else pure []

def literalM : M LitM := do
  let neg ← hasMark K [45]
  let pred ← nameM K
  let args ← bracketsM K (argM K)
  if (← hasMark K [61]) = true then
    let v ← moneyM F K
    pure ⟨neg, pred, args, true, v⟩
  else pure ⟨neg, pred, args, false, 0⟩

def plainTermM : M TermM := do
  if (← askM fun s => decide (kd K s.n = 3)) = true then
    if (← askM fun s => markAt K (s.n + 1) [42]) = true then
      let c ← intM F K 1 1000
      wantMark K [42]
      let pred ← nameM K
      let args ← bracketsM K (argM K)
      pure ⟨c, pred, args, 0⟩
    else
      let v ← moneyM F K
      pure ⟨0, [], [], v⟩
  else if (← askM fun s => markAt K s.n [45]) = true then
    let v ← moneyM F K
    pure ⟨0, [], [], v⟩
  else
    let pred ← nameM K
    let args ← bracketsM K (argM K)
    pure ⟨1, pred, args, 0⟩
def termM : M TermM := do
  let t ← plainTermM F K
  if (← askM fun s => s.minus) = true then pure ⟨F.neg t.coef, t.pred, t.args, F.neg t.value⟩ else pure t
def signM : M Bool := do
  let m ← hasMark K [45]
  setM fun s => { s with minus := m }
  if m = true then pure true else hasMark K [43]
def sideM : M (List TermM) := do
  setM fun s => { s with minus := false }
  listM K 8 (termM F K) (signM K)
def opAt (i : Nat) : Nat :=
  if markAt K i [60] = true then 1 else if markAt K i [60, 61] = true then 2 else if markAt K i [61, 61] = true then 3
  else if markAt K i [60, 62] = true then 4 else if markAt K i [62, 61] = true then 5 else if markAt K i [62] = true then 6 else 0
def opM : M Nat := do
  let o ← askM fun s => opAt K s.n
  if decide (o = 0) = true then failM 51 else
    let _ ← takeM K
    pure o
def guardM : M GuardM := do
  wantMark K [123]
  let l ← sideM F K
  let o ← opM K
  let r ← sideM F K
  wantMark K [125]
  pure ⟨l, o, r⟩
def unlikeM : M PremM := do
  let a ← argM K
  wantMark K [33, 61]
  let b ← argM K
  pure ⟨3, litNone, guardNone, a, b⟩
def premiseM : M PremM := do
  if (← askM fun s => (decide (kd K s.n = 1) || decide (kd K s.n = 2)) && markAt K (s.n + 1) [33, 61]) = true then unlikeM K
  else if (← askM fun s => markAt K s.n [123]) = true then
    let g ← guardM F K
    pure ⟨2, litNone, g, [], []⟩
  else
    let l ← literalM F K
    pure ⟨1, l, guardNone, [], []⟩
def arrowAt (i : Nat) : Nat :=
  if markAt K i [45, 62] = true then 1 else if markAt K i [61, 62] = true then 2 else if markAt K i [126, 62] = true then 3 else 0
def arrowM : M Nat := do
  let o ← askM fun s => arrowAt K s.n
  if decide (o = 0) = true then failM 51 else
    let _ ← takeM K
    pure o
def bodyM : M (List PremM) := do
  if (← askM fun s => decide (arrowAt K s.n = 0)) = true then listM K 16 (premiseM F K) (commaM K) else pure []
def untilM : M Int := do
  if (← hasWord K [117, 110, 116, 105, 108]) = true then dateM F K else pure 0
def ruleM : M RuleM := do
  let name ← nameM K
  wantWord K [111, 102]
  let source ← nameM K
  wantWord K [97, 116]
  let day ← dateM F K
  let till ← untilM F K
  wantMark K [58]
  let body ← bodyM F K
  let arrow ← arrowM K
  let head ← literalM F K
  pure ⟨name, source, day, till, body, arrow, head⟩

def membersM (most : Int) : M (List (Bytes × Bytes)) := do
  let names ← listM K most (nameM K) (commaM K)
  wantMark K [58]
  let kind ← nameM K
  pure (names.map fun x => (x, kind))
def predM (sort : Nat) : M PredM := do
  let name ← nameM K
  let kinds ← bracketsM K (nameM K)
  pure ⟨name, sort, kinds, []⟩
def amountPredM : M PredM := do
  let p ← predM K 3
  wantMark K [58]
  let v ← listM K 64 (moneyM F K) (commaM K)
  pure { p with values := v }
def classM : M (List Bytes) := do
  let names ← listM K 16 (nameM K) (commaM K)
  if decide (names.length = 1) = true then failM 51 else pure names
def sourceM : M (Bytes × Int) := do
  let name ← nameM K
  wantWord K [114, 97, 110, 107]
  let r ← intM F K 0 1000
  pure (name, r)
def exceptionM : M (Bytes × Bytes) := do
  let o ← nameM K
  wantWord K [116, 111]
  let u ← nameM K
  pure (o, u)
def totalM : M TotalM := do
  let name ← nameM K
  wantMark K [40]
  let kind ← nameM K
  wantMark K [41]
  wantMark K [58]
  let preds ← listM K 16 (nameM K) (commaM K)
  if (← hasWord K [99, 97, 112]) = true then
    let c ← moneyM F K
    pure ⟨name, kind, preds, true, c⟩
  else pure ⟨name, kind, preds, false, 0⟩

def itemM (S : StatM) : M StatM := do
  if (← hasWord K [107, 105, 110, 100]) = true then
    let x ← addM S.kinds.length 16 (nameM K)
    pure { S with kinds := S.kinds ++ [x] }
  else if (← hasWord K [109, 101, 109, 98, 101, 114]) = true then
    let x ← membersM K (64 - S.members.length)
    pure { S with members := S.members ++ x }
  else if (← hasWord K [112, 114, 101, 100]) = true then
    let x ← addM S.preds.length 256 (predM K 1)
    pure { S with preds := S.preds ++ [x] }
  else if (← hasWord K [110, 117, 109, 98, 101, 114]) = true then
    let x ← addM S.preds.length 256 (predM K 2)
    pure { S with preds := S.preds ++ [x] }
  else if (← hasWord K [97, 109, 111, 117, 110, 116]) = true then
    let x ← addM S.preds.length 256 (amountPredM F K)
    pure { S with preds := S.preds ++ [x] }
  else if (← hasWord K [99, 108, 97, 115, 115]) = true then
    let x ← addM S.classes.length 64 (classM K)
    pure { S with classes := S.classes ++ [x] }
  else if (← hasWord K [115, 111, 117, 114, 99, 101]) = true then
    let x ← addM S.sources.length 64 (sourceM F K)
    pure { S with sources := S.sources ++ [x] }
  else if (← hasWord K [114, 117, 108, 101]) = true then
    let x ← addM S.rules.length 512 (ruleM F K)
    pure { S with rules := S.rules ++ [x] }
  else if (← hasWord K [101, 120, 99, 101, 112, 116, 105, 111, 110]) = true then
    let x ← addM S.excepts.length 512 (exceptionM K)
    pure { S with excepts := S.excepts ++ [x] }
  else if (← hasWord K [116, 111, 116, 97, 108]) = true then
    let x ← addM S.totals.length 64 (totalM F K)
    pure { S with totals := S.totals ++ [x] }
  else failM 51

def itemsM : Nat → StatM → M StatM
  | 0, _ => fun _ => .bad 1 0
  | f + 1, S => do
    if (← askM fun s => decide (s.n < K.length)) = true then
      let S' ← itemM F K S
      wantMark K [46]
      itemsM f S'
    else pure S
def titleM : M Bytes := do
  if (← hasWord K [115, 116, 97, 116, 117, 116, 101]) = true then
    let t ← quoteM K
    wantMark K [46]
    pure t
  else pure []
def textM : M StatM := do
  let t ← titleM K
  itemsM F K (K.length + 1) { StatM.none with title := t }
end
end Go.Proofs.YthnjmfkiohgkkaaGreatDoor.Sy
