/- What the walks say of a slice of bytes: where its cells lie, what they hold; small laws about that. -/
import Derived.Test.YtcobmbclhhimjaaGreatProg
import Derived.WalkKit
import Derived.WalkSpells
import Derived.WalkLawsBesides
import Derived.Laws.BitsAllLaws
import Derived.RowKit
import Derived.KernelRfl
namespace Go.Proofs.YtcobmbclhhimjaaGreat
open Go.RowKit

theorem hide {p : Prop} (h : p) : Hid p := h

/-- The cells from an address on hold these bytes. -/
structure Row (w : World) (a : Option Addr) (zs : List Int) : Prop where
  cells : zs ≠ [] → ∃ b off, a = some ⟨b, off, none⟩ ∧ ∀ i, i < zs.length → w.cell? ⟨b, off + i, none⟩ = some (.int .u8 (zs.getD i 0))
  byte : ∀ i : Nat, 0 ≤ zs[i]?.getD 0 ∧ zs[i]?.getD 0 ≤ 255

theorem Row.lt {w : World} {b off : Nat} {zs : List Int} (h : ∀ i, i < zs.length → w.cell? ⟨b, off + i, none⟩ = some (.int .u8 (zs.getD i 0))) (hz : zs ≠ []) : b < w.heap.size := by
  have h0 := h 0 (by cases zs with | nil => exact absurd rfl hz | cons _ _ => simp)
  exact World.block_lt_of_cell? w ⟨b, off + 0, none⟩ h0

theorem Row.below {B : Nat} {w w' : World} {a : Option Addr} {zs : List Int} (h : Row w a zs) (hb : Below B w w') (hB : w.heap.size ≤ B) : Row w' a zs := by
  refine ⟨fun hz => ?_, h.byte⟩
  obtain ⟨b, off, rfl, hc⟩ := h.cells hz
  have hlt := Row.lt hc hz
  exact ⟨b, off, rfl, fun i hi => (hb.cell (p := ⟨b, off + i, none⟩) (by simp; omega)).trans (hc i hi)⟩

theorem take_succ_getD (zs : List Int) (k : Nat) (h : k < zs.length) : zs.take (k + 1) = zs.take k ++ [zs[k]?.getD 0] := by
  rw [List.take_succ_eq_append_getElem h]; simp [h]

/-- One byte of a row, by a name of its own. -/
theorem Row.get {B : Nat} {w wr : World} {a : Option Addr} {zs : List Int} {len k : Nat} (h : Row w a zs) (hl : zs.length = len) (hb : Below B w wr) (hk : k < len) (hB : w.heap.size ≤ B := by omega) :
    ∃ b off c, a = some ⟨b, off, none⟩ ∧ wr.cell? ⟨b, off + k, none⟩ = some (.int .u8 c) ∧ Hid (zs.take (k + 1) = zs.take k ++ [c]) := by
  have hne : zs ≠ [] := by intro e; subst e; simp at hl; omega
  obtain ⟨b, off, rfl, hc⟩ := h.cells hne
  have hlt := Row.lt hc hne
  refine ⟨b, off, zs[k]?.getD 0, rfl, (hb.cell (p := ⟨b, off + k, none⟩) (by simp; omega)).trans ?_, take_succ_getD zs k (by omega)⟩
  simpa using hc k (by omega)

end Go.Proofs.YtcobmbclhhimjaaGreat
/- The plain mathematics of numbers as bytes: seven bits a byte, how such bytes are read, how they are laid. No Go in sight. -/
namespace Go.Proofs.YtcobmbclhhimjaaGreat
open Go.RowKit

/-- Reading from a place on: k bytes are read, they make acc. -/
def rd (len p : Int) : Nat → Int → List Int → Int × Int × Int
  | _, _, [] => (0, len, 8)
  | k, acc, c :: r =>
    if k = 9 ∧ 1 < c then (0, p, 11)
    else if 128 ≤ c then rd len p (k + 1) (acc + c % 128 * 2 ^ (7 * k)) r
    else if c = 0 ∧ 0 < k then (0, p, 11)
    else (acc + c % 128 * 2 ^ (7 * k), p + k + 1, 0)

def readU (zs : List Int) (p : Int) : Int × Int × Int :=
  if p < 0 ∨ (zs.length : Int) < p then (0, p, 1) else rd zs.length p 0 0 (zs.drop p.toNat)

end Go.Proofs.YtcobmbclhhimjaaGreat
/- Numbers as bytes: laid, read, there and back. No Go in sight. -/
namespace Go.Proofs.YtcobmbclhhimjaaGreat
open Go.RowKit

/-- A number's bytes: seven bits a byte, the lowest first. -/
def uintB : Nat → Int → List Int
  | 0, n => [n]
  | f + 1, n => if n < 128 then [n] else (n % 128 + 128) :: uintB f (n / 128)

end Go.Proofs.YtcobmbclhhimjaaGreat
/- Theories, plainly: whether one may be, its bytes, how bytes are read. No Go in sight. -/
namespace Go.Proofs.YtcobmbclhhimjaaGreat

structure RuleM where
  kind : Int
  head : Int
  body : List Int
  deriving DecidableEq
structure Th where
  lits : Int
  foes : List (List Int)
  rules : List RuleM
  beats : List (List Int)
  deriving DecidableEq
def noTh : Th := ⟨0, [], [], []⟩

/-- Do numbers rise, above last and below that one? -/
def risesF (below : Int) : Int → List Int → Bool
  | _, [] => true
  | last, n :: r => if n ≤ last ∨ below ≤ n then false else risesF below n r
def risesM (l : List Int) (below : Int) : Bool := risesF below (-1) l
/-- The first place with a fault. -/
def firstB {α : Type} (p : Nat → α → Bool) : Nat → List α → Option Nat
  | _, [] => none
  | i, x :: r => if p i x then some i else firstB p (i + 1) r
def row (F : List (List Int)) (z : Int) : List Int := F.getD z.toNat []
def returnedM (F : List (List Int)) (i : Nat) (l : List Int) : Bool := l.all fun f => decide ((i : Int) ∈ row F f)
def badFoe (T : Th) (i : Nat) (l : List Int) : Bool := decide (64 < l.length) || !risesM l T.lits || decide ((i : Int) ∈ l) || !returnedM T.foes i l
def atM (c : Int) : Option Nat → Int × Int
  | none => (0, 0)
  | some i => (c, i)
def foeM (T : Th) : Int × Int := if (T.foes.length : Int) ≠ T.lits then (121, 0) else atM 121 (firstB (badFoe T) 0 T.foes)
def inM (z below : Int) : Bool := decide (0 ≤ z) && decide (z < below)
def okRule (lits : Int) (r : RuleM) : Bool := (decide (r.kind = 1) || decide (r.kind = 2) || decide (r.kind = 3)) && inM r.head lits && decide (r.body.length ≤ 16) && risesM r.body lits
def ruleM (T : Th) : Int × Int := if 4096 < T.rules.length then (111, 0) else atM 122 (firstB (fun _ r => !okRule T.lits r) 0 T.rules)
/-- How many rules each literal has. -/
def cntM (T : Th) (z : Int) : Nat := (T.rules.filter fun r => decide (r.head = z)).length
def pairsRow (T : Th) (i : Nat) : List Int → Nat
  | [] => 0
  | f :: r => cntM T i * cntM T f + pairsRow T i r
def pairsFrom (T : Th) : Nat → List (List Int) → Nat
  | _, [] => 0
  | i, l :: r => pairsRow T i l + pairsFrom T (i + 1) r
def pairsM (T : Th) : Nat := pairsFrom T 0 T.foes
def pairM (T : Th) : Int × Int := if 65536 < pairsM T then (113, 0) else (0, 0)
def headOf (T : Th) (z : Int) : Int := ((T.rules[z.toNat]?).map RuleM.head).getD 0
def badBeat (T : Th) (i : Nat) (l : List Int) : Bool := !risesM l T.rules.length || !(l.all fun b => decide (headOf T b ∈ row T.foes (headOf T i)))
def beatM (T : Th) : Int × Int := if T.beats.length ≠ T.rules.length then (123, 0) else atM 123 (firstB (badBeat T) 0 T.beats)

/-! A walk, deep first. -/
structure Wk where
  came : List Int
  back : List Int
  clock : Int
  opn : List Int
  shut : List Bool
  knots : List (List Int)
/-- What is taken off the open ones, the last first, up to that one; what is left. -/
def popM (first : Int) : List Int → List Int × List Int
  | [] => ([], [])
  | x :: r => if x = first then ([x], r) else (x :: (popM first r).1, (popM first r).2)
def shutAll (sh : List Bool) : List Int → List Bool
  | [] => sh
  | x :: r => shutAll (sh.set x.toNat true) r
def shutM (first : Int) (s : Wk) : Wk :=
  { s with opn := (popM first s.opn.reverse).2.reverse, shut := shutAll s.shut (popM first s.opn.reverse).1, knots := s.knots ++ [(popM first s.opn.reverse).1] }
def comeM (p : Int) (s : Wk) : Wk := { s with clock := s.clock + 1, came := s.came.set p.toNat (s.clock + 1), back := s.back.set p.toNat (s.clock + 1), opn := s.opn ++ [p] }
def lowerM (p o : Int) (s : Wk) : Wk := if s.shut.getD o.toNat false then s else { s with back := s.back.set p.toNat (min (s.back.getD p.toNat 0) (s.back.getD o.toNat 0)) }
def endM (p : Int) (s : Wk) : Wk := if s.back.getD p.toNat 0 = s.came.getD p.toNat 0 then shutM p s else s
def othersM (vis : Int → Wk → Wk) (p : Int) : List Int → Wk → Wk
  | [], s => s
  | o :: r, s => othersM vis p r (lowerM p o (if s.came.getD o.toNat 0 = 0 then vis o s else s))
def visitM (next : List (List Int)) : Nat → Int → Wk → Wk
  | 0, _, s => s
  | f + 1, p, s => endM p (othersM (visitM next f) p (row next p) (comeM p s))
def eachM (next : List (List Int)) (f : Nat) : Nat → Nat → Wk → Wk
  | 0, _, s => s
  | k + 1, i, s => eachM next f k (i + 1) (if s.came.getD i 0 = 0 then visitM next f i s else s)
def startM (n : Nat) : Wk := ⟨List.replicate n 0, List.replicate n 0, 0, [], List.replicate n false, []⟩
def knotsM (next : List (List Int)) : List (List Int) := (eachM next next.length next.length 0 (startM next.length)).knots
def minM : List Int → Int
  | [] => 0
  | x :: r => r.foldl min x
def lowM (low : Int) (k : List Int) : Int := if 1 < k.length then min low (minM k) else low
def lowestM (T : Th) : Int := (knotsM T.beats).foldl lowM T.rules.length
def circleM (T : Th) : Int × Int := if lowestM T < T.rules.length then (131, lowestM T) else (0, 0)
def orM (a b : Int × Int) : Int × Int := if a.1 = 0 then b else a
def checkM (T : Th) : Int × Int := if T.lits < 0 ∨ 4096 < T.lits then (112, 0) else orM (foeM T) (orM (ruleM T) (orM (pairM T) (orM (beatM T) (circleM T))))

/-! Bytes. -/
def numB (z : Int) : List Int := uintB 9 z
def numsB (l : List Int) : List Int := l.flatMap numB
def listB (l : List Int) : List Int := numB l.length ++ numsB l
def aboveM (i : Int) (l : List Int) : List Int := l.dropWhile fun f => decide (f ≤ i)
def foesB : Nat → List (List Int) → List Int
  | _, [] => []
  | i, l :: r => listB (aboveM i l) ++ foesB (i + 1) r
def ruleB (r : RuleM) : List Int := numB r.kind ++ numB r.head ++ listB r.body
def markB : List Int := [116, 104, 121, 1]
def encM (T : Th) : List Int := markB ++ numB T.lits ++ foesB 0 T.foes ++ numB T.rules.length ++ T.rules.flatMap ruleB ++ T.beats.flatMap listB

abbrev Er (α : Type) := Except (Int × Int) α
def markM (zs : List Int) : Nat → Nat → Er Unit
  | 0, _ => .ok ()
  | k + 1, i => if zs.length ≤ i then .error (8, i) else if zs.getD i 0 ≠ markB.getD i 0 then .error (1, i) else markM zs k (i + 1)
def numM (zs : List Int) (least below other : Int) (p : Nat) : Er (Int × Nat) :=
  if (readU zs p).2.2 ≠ 0 then .error ((readU zs p).2.2, (readU zs p).2.1)
  else if (readU zs p).1 < least ∨ below ≤ (readU zs p).1 then .error (other, p) else .ok ((readU zs p).1, (readU zs p).2.1.toNat)
def countM (zs : List Int) (most : Int) (p : Nat) : Er (Int × Nat) := numM zs 0 (most + 1) 3 p
def numsM (zs : List Int) (below other : Int) : Nat → Int → List Int → Nat → Er (List Int × Nat)
  | 0, _, acc, p => .ok (acc, p)
  | k + 1, least, acc, p => numM zs least below other p >>= fun x => numsM zs below other k (x.1 + 1) (acc ++ [x.1]) x.2
def listM (zs : List Int) (most least below other : Int) (p : Nat) : Er (List Int × Nat) := countM zs most p >>= fun x => numsM zs below other x.1.toNat least [] x.2
def giveM (i : Nat) : List (List Int) → List Int → List (List Int)
  | F, [] => F
  | F, f :: r => giveM i ((F.modify i (· ++ [f])).modify f.toNat (· ++ [(i : Int)])) r
def foesM (zs : List Int) (lits : Int) : Nat → Nat → List (List Int) → Nat → Er (List (List Int) × Nat)
  | 0, _, F, p => .ok (F, p)
  | k + 1, i, F, p => listM zs 64 (i + 1) lits 121 p >>= fun x => foesM zs lits k (i + 1) (giveM i F x.1) x.2
def oneRuleM (zs : List Int) (lits : Int) (p : Nat) : Er (RuleM × Nat) :=
  numM zs 1 4 122 p >>= fun k => numM zs 0 lits 122 k.2 >>= fun h => listM zs 16 0 lits 122 h.2 >>= fun b => .ok (⟨k.1, h.1, b.1⟩, b.2)
def rulesM (zs : List Int) (lits : Int) : Nat → List RuleM → Nat → Er (List RuleM × Nat)
  | 0, R, p => .ok (R, p)
  | k + 1, R, p => oneRuleM zs lits p >>= fun x => rulesM zs lits k (R ++ [x.1]) x.2
def beatsM (zs : List Int) (rules : Int) : Nat → List (List Int) → Nat → Er (List (List Int) × Nat)
  | 0, R, p => .ok (R, p)
  | k + 1, R, p => listM zs 4096 0 rules 123 p >>= fun x => beatsM zs rules k (R ++ [x.1]) x.2
def tailM (zs : List Int) (T : Th) (p : Nat) : Er Th :=
  if p < zs.length then .error (9, p) else if (checkM T).1 ≠ 0 then .error ((checkM T).1, 0) else .ok T
def allRulesM (zs : List Int) (lits : Int) (p : Nat) : Er (List RuleM × Nat) := countM zs 4096 p >>= fun x => rulesM zs lits x.1.toNat [] x.2
def wholeM (zs : List Int) : Er Th :=
  markM zs 4 0 >>= fun _ => countM zs 4096 4 >>= fun n => foesM zs n.1 n.1.toNat 0 (List.replicate n.1.toNat []) n.2 >>= fun F =>
  allRulesM zs n.1 F.2 >>= fun R => beatsM zs R.1.length R.1.length [] R.2 >>= fun b => tailM zs ⟨n.1, F.1, R.1, b.1⟩ b.2

def two : Th := ⟨2, [[1], [0]], [⟨2, 0, []⟩, ⟨2, 1, []⟩], [[1], []]⟩
def twoBad : Th := ⟨2, [[1], [0]], [⟨2, 0, []⟩, ⟨2, 1, []⟩], [[1], [0]]⟩
end Go.Proofs.YtcobmbclhhimjaaGreat
