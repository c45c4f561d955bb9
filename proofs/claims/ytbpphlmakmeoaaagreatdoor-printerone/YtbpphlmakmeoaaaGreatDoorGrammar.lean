namespace Go.Proofs.YtbpphlmakmeoaaaGreatDoor.Sy
abbrev ee := List UInt8
abbrev fQ := List (Nat × ee)
structure RS where
 n : Nat
 full : Bool
 minus : Bool
 deriving DecidableEq
inductive Out (α : Type) where
 | ok (a : α) (s : RS)
 | bad (e : Int) (n : Nat)
 deriving DecidableEq
def M (α : Type) : Type := RS → Out α
def M.pure {α : Type} (a : α) : M α := fun s => .ok a s
def M.bind {α β : Type} (x : M α) (f : α → M β) : M β := fun s => match x s with
 | .ok a t => f a t
 | .bad e n => .bad e n
instance : Monad M where
 pure := M.pure
 bind := M.bind
structure jQ where
 neg : Bool
 pred : ee
 args : List ee
 hasValue : Bool
 value : Int
 deriving DecidableEq
structure ft where
 coef : Int
 pred : ee
 args : List ee
 value : Int
 deriving DecidableEq
structure jf where
 left : List ft
 op : Int
 right : List ft
 deriving DecidableEq
structure f9 where
 kind : Int
 lit : jQ
 guard : jf
 a : ee
 b : ee
 deriving DecidableEq
structure gI where
 name : ee
 source : ee
 day : Int
 till : Int
 body : List f9
 arrow : Int
 head : jQ
 deriving DecidableEq
structure fZ where
 name : ee
 sort : Int
 kinds : List ee
 values : List Int
 deriving DecidableEq
structure gx where
 name : ee
 kind : ee
 preds : List ee
 hasCap : Bool
 cap : Int
 deriving DecidableEq
structure StatM where
 title : ee
 kinds : List ee
 members : List (ee × ee)
 preds : List fZ
 classes : List (List ee)
 sources : List (ee × Int)
 rules : List gI
 excepts : List (ee × ee)
 totals : List gx
 deriving DecidableEq
def StatM.none : StatM := ⟨[], [], [], [], [], [], [], [], []⟩
def j2 : jQ := ⟨false, [], [], false, 0⟩
def guardNone : jf := ⟨[], 0, []⟩
structure j5 where
 day : ee → Int × Int
 money : ee → Int × Int
 int : ee → Option Int
 point : ee → Bool
 neg : Int → Int
def pu : List ee := [[115, 116, 97, 116, 117, 116, 101], [107, 105, 110, 100], [109, 101, 109, 98, 101, 114], [112, 114, 101, 100], [110, 117, 109, 98, 101, 114], [97, 109, 111, 117, 110, 116], [99, 108, 97, 115, 115], [115, 111, 117, 114, 99, 101], [114, 97, 110, 107], [114, 117, 108, 101], [111, 102], [97, 116], [117, 110, 116, 105, 108], [101, 120, 99, 101, 112, 116, 105, 111, 110], [116, 111], [116, 111, 116, 97, 108], [99, 97, 112]]
section
variable (F : j5) (K : fQ)
def kd (i : Nat) : Nat := (K[i]?.getD (0, [])).1
def tx (i : Nat) : ee := (K[i]?.getD (0, [])).2
def eT (i : Nat) (t : ee) : Bool := decide (kd K i = 6) && decide (tx K i = t)
def nn (i : Nat) (t : ee) : Bool := decide (kd K i = 1) && decide (tx K i = t)
def failM {α : Type} (e : Int) : M α := fun s => .bad e s.n
def gZ : M ee := fun s => if s.full = true then .bad 3 s.n else .ok (tx K s.n) { s with n := s.n + 1 }
def gB {α : Type} (q : RS → α) : M α := fun s => .ok (q s) s
def mV (q : RS → RS) : M Unit := fun s => .ok () (q s)
def iu (t : ee) : M Bool := do
 if (← gB fun s => eT K s.n t) = true then
  let _ ← gZ K
  pure true
 else pure false
def hH (t : ee) : M Bool := do
 if (← gB fun s => nn K s.n t) = true then
  let _ ← gZ K
  pure true
 else pure false
def gp (t : ee) : M Unit := do if (← iu K t) = true then pure () else failM 51
def kq (t : ee) : M Unit := do if (← hH K t) = true then pure () else failM 51
def iz : M Bool := iu K [44]
def gO {α : Type} (k : Nat) (most : Int) (read : M α) : M α := do
 mV fun s => { s with full := s.full || decide (most ≤ (k : Int)) }
 read
def iN {α : Type} (most : Int) (read : M α) (more : M Bool) : Nat → List α → M (List α)
 | 0, _ => fun _ => .bad 1 0
 | f + 1, acc => do
  if (← more) = true then
   let x ← gO acc.length most read
   iN most read more f (acc ++ [x])
  else pure acc
def iP {α : Type} (most : Int) (read : M α) (more : M Bool) : M (List α) := do
 let x ← gO 0 most read
 iN most read more (K.length + 1) [x]
def gw : M ee := do
 if (← gB fun s => decide (kd K s.n = 1) && !decide (tx K s.n ∈ pu)) = true then gZ K else failM 51
def la : M ee := do
 if (← gB fun s => decide (kd K s.n = 2)) = true then gZ K else gw K
def sP : M ee := do
 if (← gB fun s => decide (kd K s.n = 5)) = true then gZ K else failM 51
def sz : M Int := do
 if (← gB fun s => decide (kd K s.n = 4) && decide ((F.day (tx K s.n)).2 = 0)) = true then
  let d ← gB fun s => (F.day (tx K s.n)).1
  let _ ← gZ K
  pure d
 else failM 51
def lY (least most : Int) (t : ee) : Bool := match F.int t with
 | some x => decide (least ≤ x) && decide (x ≤ most)
 | none => false
def m9 (least most : Int) : M Int := do
 if (← gB fun s => decide (kd K s.n = 3) && !F.point (tx K s.n)) = true then
  if (← gB fun s => lY F least most (tx K s.n)) = true then
   let d ← gB fun s => (F.int (tx K s.n)).getD 0
   let _ ← gZ K
   pure d
  else failM 4
 else failM 51
def km (sign : ee) : M Int := do
 if (← gB fun s => decide (kd K s.n = 3)) = true then
  let m ← gB fun s => F.money (sign ++ tx K s.n)
  if decide (m.2 = 0) = true then
   let _ ← gZ K
   pure m.1
  else failM m.2
 else failM 51
def jy : M Int := do
 if (← iu K [45]) = true then km F K [45] else km F K []
def iW (read : M ee) : M (List ee) := do
 if (← iu K [40]) = true then
  let l ← iP K 4 read (iz K)
  gp K [41]
  pure l
 else pure []
def jB : M jQ := do
 let neg ← iu K [45]
 let pred ← gw K
 let args ← iW K (la K)
 if (← iu K [61]) = true then
  let v ← jy F K
  pure ⟨neg, pred, args, true, v⟩
 else pure ⟨neg, pred, args, false, 0⟩
def jp : M ft := do
 if (← gB fun s => decide (kd K s.n = 3)) = true then
  if (← gB fun s => eT K (s.n + 1) [42]) = true then
   let c ← m9 F K 1 1000
   gp K [42]
   let pred ← gw K
   let args ← iW K (la K)
   pure ⟨c, pred, args, 0⟩
  else
   let v ← jy F K
   pure ⟨0, [], [], v⟩
 else if (← gB fun s => eT K s.n [45]) = true then
  let v ← jy F K
  pure ⟨0, [], [], v⟩
 else
  let pred ← gw K
  let args ← iW K (la K)
  pure ⟨1, pred, args, 0⟩
def lW : M ft := do
 let t ← jp F K
 if (← gB fun s => s.minus) = true then pure ⟨F.neg t.coef, t.pred, t.args, F.neg t.value⟩ else pure t
def oZ : M Bool := do
 let m ← iu K [45]
 mV fun s => { s with minus := m }
 if m = true then pure true else iu K [43]
def nT : M (List ft) := do
 mV fun s => { s with minus := false }
 iP K 8 (lW F K) (oZ K)
def opAt (i : Nat) : Nat :=
 if eT K i [60] = true then 1 else if eT K i [60, 61] = true then 2 else if eT K i [61, 61] = true then 3
 else if eT K i [60, 62] = true then 4 else if eT K i [62, 61] = true then 5 else if eT K i [62] = true then 6 else 0
def xI : M Nat := do
 let o ← gB fun s => opAt K s.n
 if decide (o = 0) = true then failM 51 else
  let _ ← gZ K
  pure o
def lz : M jf := do
 gp K [123]
 let l ← nT F K
 let o ← xI K
 let r ← nT F K
 gp K [125]
 pure ⟨l, o, r⟩
def mt : M f9 := do
 let a ← la K
 gp K [33, 61]
 let b ← la K
 pure ⟨3, j2, guardNone, a, b⟩
def jo : M f9 := do
 if (← gB fun s => (decide (kd K s.n = 1) || decide (kd K s.n = 2)) && eT K (s.n + 1) [33, 61]) = true then mt K
 else if (← gB fun s => eT K s.n [123]) = true then
  let g ← lz F K
  pure ⟨2, j2, g, [], []⟩
 else
  let l ← jB F K
  pure ⟨1, l, guardNone, [], []⟩
def arrowAt (i : Nat) : Nat :=
 if eT K i [45, 62] = true then 1 else if eT K i [61, 62] = true then 2 else if eT K i [126, 62] = true then 3 else 0
def nE : M Nat := do
 let o ← gB fun s => arrowAt K s.n
 if decide (o = 0) = true then failM 51 else
  let _ ← gZ K
  pure o
def sy : M (List f9) := do
 if (← gB fun s => decide (arrowAt K s.n = 0)) = true then iP K 16 (jo F K) (iz K) else pure []
def wm : M Int := do
 if (← hH K [117, 110, 116, 105, 108]) = true then sz F K else pure 0
def lX : M gI := do
 let name ← gw K
 kq K [111, 102]
 let source ← gw K
 kq K [97, 116]
 let day ← sz F K
 let till ← wm F K
 gp K [58]
 let body ← sy F K
 let arrow ← nE K
 let head ← jB F K
 pure ⟨name, source, day, till, body, arrow, head⟩
def kl (most : Int) : M (List (ee × ee)) := do
 let names ← iP K most (gw K) (iz K)
 gp K [58]
 let kind ← gw K
 pure (names.map fun x => (x, kind))
def jJ (sort : Nat) : M fZ := do
 let name ← gw K
 let kinds ← iW K (gw K)
 pure ⟨name, sort, kinds, []⟩
def iE : M fZ := do
 let p ← jJ K 3
 gp K [58]
 let v ← iP K 64 (jy F K) (iz K)
 pure { p with values := v }
def kS : M (List ee) := do
 let names ← iP K 16 (gw K) (iz K)
 if decide (names.length = 1) = true then failM 51 else pure names
def ky : M (ee × Int) := do
 let name ← gw K
 kq K [114, 97, 110, 107]
 let r ← m9 F K 0 1000
 pure (name, r)
def jm : M (ee × ee) := do
 let o ← gw K
 kq K [116, 111]
 let u ← gw K
 pure (o, u)
def kW : M gx := do
 let name ← gw K
 gp K [40]
 let kind ← gw K
 gp K [41]
 gp K [58]
 let preds ← iP K 16 (gw K) (iz K)
 if (← hH K [99, 97, 112]) = true then
  let c ← jy F K
  pure ⟨name, kind, preds, true, c⟩
 else pure ⟨name, kind, preds, false, 0⟩
def lN (S : StatM) : M StatM := do
 if (← hH K [107, 105, 110, 100]) = true then
  let x ← gO S.kinds.length 16 (gw K)
  pure { S with kinds := S.kinds ++ [x] }
 else if (← hH K [109, 101, 109, 98, 101, 114]) = true then
  let x ← kl K (64 - S.members.length)
  pure { S with members := S.members ++ x }
 else if (← hH K [112, 114, 101, 100]) = true then
  let x ← gO S.preds.length 256 (jJ K 1)
  pure { S with preds := S.preds ++ [x] }
 else if (← hH K [110, 117, 109, 98, 101, 114]) = true then
  let x ← gO S.preds.length 256 (jJ K 2)
  pure { S with preds := S.preds ++ [x] }
 else if (← hH K [97, 109, 111, 117, 110, 116]) = true then
  let x ← gO S.preds.length 256 (iE F K)
  pure { S with preds := S.preds ++ [x] }
 else if (← hH K [99, 108, 97, 115, 115]) = true then
  let x ← gO S.classes.length 64 (kS K)
  pure { S with classes := S.classes ++ [x] }
 else if (← hH K [115, 111, 117, 114, 99, 101]) = true then
  let x ← gO S.sources.length 64 (ky F K)
  pure { S with sources := S.sources ++ [x] }
 else if (← hH K [114, 117, 108, 101]) = true then
  let x ← gO S.rules.length 512 (lX F K)
  pure { S with rules := S.rules ++ [x] }
 else if (← hH K [101, 120, 99, 101, 112, 116, 105, 111, 110]) = true then
  let x ← gO S.excepts.length 512 (jm K)
  pure { S with excepts := S.excepts ++ [x] }
 else if (← hH K [116, 111, 116, 97, 108]) = true then
  let x ← gO S.totals.length 64 (kW F K)
  pure { S with totals := S.totals ++ [x] }
 else failM 51
def kN : Nat → StatM → M StatM
 | 0, _ => fun _ => .bad 1 0
 | f + 1, S => do
  if (← gB fun s => decide (s.n < K.length)) = true then
   let S' ← lN F K S
   gp K [46]
   kN f S'
  else pure S
def J0 : M ee := do
 if (← hH K [115, 116, 97, 116, 117, 116, 101]) = true then
  let t ← sP K
  gp K [46]
  pure t
 else pure []
def textM : M StatM := do
 let t ← J0 K
 kN F K (K.length + 1) { StatM.none with title := t }
end
end Go.Proofs.YtbpphlmakmeoaaaGreatDoor.Sy
