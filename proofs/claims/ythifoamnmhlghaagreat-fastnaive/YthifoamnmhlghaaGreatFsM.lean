/- The fast engine, plainly: what it keeps, what each of its parts makes of it. No Go in sight. -/
import Derived.Test.YthifoamnmhlghaaGreatNvT
namespace Go.Proofs.YthifoamnmhlghaaGreat.Fa
open Go.RowKit

def upd {α : Type} (f : Int → α) (x : Int) (v : α) : Int → α := fun y => if y = x then v else f y
def updB {α : Type} (f : Bool → α) (b : Bool) (v : α) : Bool → α := fun c => if c = b then v else f c
theorem upd_at {α : Type} {f : Int → α} {x : Int} {v : α} : upd f x v x = v := if_pos rfl
theorem upd_off {α : Type} {f : Int → α} {x y : Int} {v : α} (h : y ≠ x) : upd f x v y = f y := if_neg h
theorem updB_at {α : Type} {f : Bool → α} {b : Bool} {v : α} : updB f b v b = v := if_pos rfl
theorem updB_off {α : Type} {f : Bool → α} {b c : Bool} {v : α} (h : c ≠ b) : updB f b v c = f c := if_neg h
def inc (u : Int) : Int := IntKind.i64.wrap (u + 1)
def dec (u : Int) : Int := IntKind.i64.wrap (u - 1)
/-- What a run keeps: counters of strict rules (false) and of all (true), clashes, obstacles, marks, what is told, how much of it is taken, how many updates. -/
structure Es where
  ms : Bool → Int → Int
  rf : Bool → Int → Bool
  op : Bool → Int → Int
  cd : Int → Int → Int
  cb : Int → Int → Bool
  ob : Int → Int
  mq : Int → Int
  td : List (Int × Int)
  tk : Nat
  up : Int

def has (e : Es) (q t : Int) : Bool := hb (e.mq q) t
def used (e : Es) (r : Int) : Bool := decide (e.ms true r = 0)
def dropped (e : Es) (r : Int) : Bool := e.rf true r
def kW (b : Bool) : RuleM → Bool := if b then kA else kS
def kL (b : Bool) : RuleM → Bool := if b then kT else kS
def teamB (T : Th) (r : Int) : Bool := ((T.rules[r.toNat]?).map kT).getD false
/-- The rules of a kind that have a literal in their bodies. -/
def isUse (T : Th) (p : RuleM → Bool) (z : Int) (a : Nat) : Bool := match T.rules[a]? with
  | some x => p x && decide (z ∈ x.body)
  | none => false
def useK (T : Th) (p : RuleM → Bool) (k : Nat) (z : Int) : List Int := ((List.range k).filter (isUse T p z)).map Int.ofNat
def usersL (T : Th) (b : Bool) (z : Int) : List Int := useK T (kW b) T.rules.length z
def rivalsL (T : Th) (q : Int) : List Int := (row T.foes q).filter fun p => !(rulesL T kT p).isEmpty
def firmB (T : Th) (F : List Int) (q : Int) : Bool := decide (q ∈ F) || !(rulesL T kS q).isEmpty

def tell (e : Es) (q t : Int) : Es := if has e q t then e else { e with mq := upd e.mq q (orB (e.mq q) t), td := e.td ++ [(q, t)], up := inc (inc e.up) }
def metE (e : Es) (b : Bool) (r : Int) : Es := { e with ms := updB e.ms b (upd (e.ms b) r (dec (e.ms b r))), up := inc e.up }
def refE (e : Es) (b : Bool) (r : Int) : Es := if e.rf b r then e else { e with rf := updB e.rf b (upd (e.rf b) r true), up := inc e.up }
def clsE (e : Es) (b : Bool) (h : Int) : Es := if 1 < e.op b h then { e with op := updB e.op b (upd (e.op b) h (dec (e.op b h))), up := inc e.up } else e
def clsB (e : Es) (b : Bool) (h : Int) : Bool := decide (e.op b h = 1)
def clearE (e : Es) (q : Int) : Es := { e with ob := upd e.ob q (dec (e.ob q)), up := inc e.up }
def proveE (T : Th) (e : Es) (q : Int) : Es := if decide (e.ob q = 0) && (rulesL T kT q).any (used e) then tell e q 3 else e
def loseE (e : Es) (q : Int) : Es := if has e q 2 then tell e q 4 else e
def forsB (T : Th) (e : Es) (q : Int) : Bool := !(rulesL T kT q).any fun r => !dropped e r
def refuB (T : Th) (e : Es) (q : Int) : Bool := (row T.foes q).any fun f => has e f 1
def overB (T : Th) (e : Es) (q : Int) : Bool := (row T.foes q).any fun f => (rulesL T kA f).any fun s => used e s && decide (e.cd s q = 0)
def disproveE (T : Th) (e : Es) (q : Int) : Es := if forsB T e q || refuB T e q || overB T e q then loseE e q else e
/-- What one that a used rule for h beats comes to. -/
def beat1 (h : Int) (e : Es) (s : Int) : Es := if e.cb s h then e else
  let e1 : Es := { e with cb := upd e.cb s (upd (e.cb s) h true), up := inc e.up }
  if dropped e1 s then e1 else clearE e1 h
def defendE (T : Th) (e : Es) (r : Int) : Es := (row T.beats r).foldl (beat1 (headOf T r)) e
def with1 (h : Int) (e : Es) (s : Int) : Es :=
  let e1 : Es := { e with cd := upd e.cd s (upd (e.cd s) h (dec (e.cd s h))), up := inc e.up }
  if decide (e1.cd s h = 0) && used e1 s then loseE e1 h else e1
def withE (T : Th) (e : Es) (r : Int) : Es := (row T.beats r).foldl (with1 (headOf T r)) e
def use1 (r : Int) (e : Es) (p : Int) : Es := if e.cd r p = 0 then loseE e p else e
def useE (T : Th) (e : Es) (r : Int) : Es :=
  let e1 := (rivalsL T (headOf T r)).foldl (use1 r) e
  if teamB T r then
    let e2 := defendE T e1 r
    if e2.ob (headOf T r) = 0 then tell e2 (headOf T r) 3 else e2
  else e1
def drop1 (T : Th) (r : Int) (e : Es) (p : Int) : Es := if e.cb r p then e else proveE T (clearE e p) p
def dropE (T : Th) (e : Es) (r : Int) : Es :=
  let e1 := (rivalsL T (headOf T r)).foldl (drop1 T r) e
  if teamB T r then
    let e2 := withE T e1 r
    if clsB e2 true (headOf T r) then loseE (clsE e2 true (headOf T r)) (headOf T r) else clsE e2 true (headOf T r)
  else e1
def plusS1 (T : Th) (e : Es) (r : Int) : Es := let e1 := metE e false r; if e1.ms false r = 0 then tell e1 (headOf T r) 1 else e1
def plusSE (T : Th) (e : Es) (q : Int) : Es := (row T.foes q).foldl loseE ((usersL T false q).foldl (plusS1 T) (tell e q 3))
def minusS1 (T : Th) (e : Es) (r : Int) : Es := if e.rf false r then e else
  let e1 := refE e false r
  if clsB e1 false (headOf T r) then tell (clsE e1 false (headOf T r)) (headOf T r) 2 else clsE e1 false (headOf T r)
def clr1 (T : Th) (e : Es) (p : Int) : Es := proveE T (clearE e p) p
def minusSE (T : Th) (F : List Int) (e : Es) (q : Int) : Es :=
  let e1 := (usersL T false q).foldl (minusS1 T) e
  disproveE T (if firmB T F q then (rivalsL T q).foldl (clr1 T) e1 else e1) q
def plusD1 (T : Th) (e : Es) (r : Int) : Es := let e1 := metE e true r; if e1.ms true r = 0 then useE T e1 r else e1
def plusDE (T : Th) (e : Es) (q : Int) : Es := (usersL T true q).foldl (plusD1 T) e
def minusD1 (T : Th) (e : Es) (r : Int) : Es := if e.rf true r then e else dropE T (refE e true r) r
def minusDE (T : Th) (e : Es) (q : Int) : Es := (usersL T true q).foldl (minusD1 T) e
def doesE (T : Th) (F : List Int) (e : Es) (q t : Int) : Es := if t = 1 then plusSE T e q else if t = 2 then minusSE T F e q else if t = 3 then plusDE T e q else minusDE T e q
def takeE (e : Es) : Es := { e with tk := e.tk + 1, up := inc e.up }
/-- The next that is told does its own. -/
def stepE (T : Th) (F : List Int) (e : Es) : Es := doesE T F (takeE e) (e.td.getD e.tk (0, 0)).1 (e.td.getD e.tk (0, 0)).2

/-! The beginning. -/
def zeroL (l : List Int) : Bool := l.isEmpty
/-- Has a literal a rule that leads to it with nothing in its body, among the first? -/
def bareB (T : Th) (p : RuleM → Bool) (q : Int) : Bool := (rulesL T p q).any fun r => (bodyM T r).isEmpty
def openZ (T : Th) (F : List Int) (b : Bool) (q : Int) : Bool := bareB T (kL b) q || (!b && decide (q ∈ F))
def kindB (T : Th) (p : RuleM → Bool) (r : Int) : Bool := ((T.rules[r.toNat]?).map p).getD false
def cnt (l : List Int) (P : Int → Bool) : Int := ((l.filter P).length : Nat)
/-- The rules whose heads are foes of a literal. -/
def agL (T : Th) (p : Int) : List Int := ((List.range T.rules.length).filter fun a : Nat => decide (headOf T (a : Int) ∈ row T.foes p)).map Int.ofNat
def startE (T : Th) (F : List Int) : Es where
  ms := fun b r => if kindB T (kW b) r then ((bodyM T r).length : Nat) else 0
  rf := fun _ _ => false
  op := fun b q => if openZ T F b q then 0 else ((rulesL T (kL b) q).length : Nat)
  cd := fun s p => cnt (rulesL T kT p) fun t => beatB T t s
  cb := fun _ _ => false
  ob := fun p => if (rulesL T kT p).isEmpty then 0 else cnt (row T.foes p) (firmB T F) + ((agL T p).length : Nat)
  mq := fun _ => 0
  td := []
  tk := 0
  up := 0
def bare1 (T : Th) (e : Es) (r : Nat) : Es := if teamB T r && (bodyM T r).isEmpty then defendE T e r else e
def bareE (T : Th) (k : Nat) (e : Es) : Es := (List.range k).foldl (bare1 T) e
def beg1 (T : Th) (F : List Int) (e : Es) (q : Nat) : Es := if !firmB T F q then tell e q 2 else if e.op false q = 0 then tell e q 1 else e
def beg2 (T : Th) (e : Es) (q : Nat) : Es := disproveE T (proveE T (if has e q 1 then tell e q 3 else e) q) q
def beginE (T : Th) (F : List Int) (n : Nat) (e : Es) : Es := (List.range n).foldl (beg2 T) ((List.range n).foldl (beg1 T F) e)
def layE (T : Th) (F : List Int) (n : Nat) : Es := { beginE T F n (bareE T T.rules.length (startE T F)) with up := 0 }
end Go.Proofs.YthifoamnmhlghaaGreat.Fa
