import Derived.Test.YtmlhcncagdfjfaaGreatProg
import Derived.WalkKit
import Derived.WalkSpells
import Derived.WalkLawsBesides
import Derived.Laws.BitsAllLaws
import Derived.RowKit
import Derived.KernelRfl
namespace Go.Proofs.YtmlhcncagdfjfaaGreat
open Go.RowKit
theorem hide {p : Prop} (h : p) : Hid p := h
structure E4 (w : World) (a : Option Addr) (zs : List Int) : Prop where
 cells : zs ≠ [] → ∃ b off, a = some ⟨b, off, none⟩ ∧ ∀ i, i < zs.length → w.cell? ⟨b, off + i, none⟩ = some (.int .u8 (zs.getD i 0))
 byte : ∀ i : Nat, 0 ≤ zs[i]?.getD 0 ∧ zs[i]?.getD 0 ≤ 255
def rd (len p : Int) : Nat → Int → List Int → Int × Int × Int
 | _, _, [] => (0, len, 8)
 | k, acc, c :: r =>
  if k = 9 ∧ 1 < c then (0, p, 11)
  else if 128 ≤ c then rd len p (k + 1) (acc + c % 128 * 2 ^ (7 * k)) r
  else if c = 0 ∧ 0 < k then (0, p, 11)
  else (acc + c % 128 * 2 ^ (7 * k), p + k + 1, 0)
def jR (zs : List Int) (p : Int) : Int × Int × Int :=
 if p < 0 ∨ (zs.length : Int) < p then (0, p, 1) else rd zs.length p 0 0 (zs.drop p.toNat)
def wZ : Nat → Int → List Int
 | 0, n => [n]
 | f + 1, n => if n < 128 then [n] else (n % 128 + 128) :: wZ f (n / 128)
end Go.Proofs.YtmlhcncagdfjfaaGreat
namespace Go.Proofs.YtmlhcncagdfjfaaGreat
structure RuleM where
 kind : Int
 head : Int
 body : List Int
 deriving DecidableEq
structure Th where
 lits : Int
 foes : List (List Int)
 rules : List RuleM
 beats : List (List Int)
 deriving DecidableEq
def D9 : Th := ⟨0, [], [], []⟩
def ce (below : Int) : Int → List Int → Bool
 | _, [] => true
 | last, n :: r => if n ≤ last ∨ below ≤ n then false else ce below n r
def bP (l : List Int) (below : Int) : Bool := ce below (-1) l
def bQ {α : Type} (p : Nat → α → Bool) : Nat → List α → Option Nat
 | _, [] => none
 | i, x :: r => if p i x then some i else bQ p (i + 1) r
def row (F : List (List Int)) (z : Int) : List Int := F.getD z.toNat []
def gF (F : List (List Int)) (i : Nat) (l : List Int) : Bool := l.all fun f => decide ((i : Int) ∈ row F f)
def ee (T : Th) (i : Nat) (l : List Int) : Bool := decide (64 < l.length) || !bP l T.lits || decide ((i : Int) ∈ l) || !gF T.foes i l
def iY (c : Int) : Option Nat → Int × Int
 | none => (0, 0)
 | some i => (c, i)
def gh (T : Th) : Int × Int := if (T.foes.length : Int) ≠ T.lits then (121, 0) else iY 121 (bQ (ee T) 0 T.foes)
def bU (z below : Int) : Bool := decide (0 ≤ z) && decide (z < below)
def ed (lits : Int) (r : RuleM) : Bool := (decide (r.kind = 1) || decide (r.kind = 2) || decide (r.kind = 3)) && bU r.head lits && decide (r.body.length ≤ 16) && bP r.body lits
def dL (T : Th) : Int × Int := if 4096 < T.rules.length then (111, 0) else iY 122 (bQ (fun _ r => !ed T.lits r) 0 T.rules)
def cntM (T : Th) (z : Int) : Nat := (T.rules.filter fun r => decide (r.head = z)).length
def dH (T : Th) (i : Nat) : List Int → Nat
 | [] => 0
 | f :: r => cntM T i * cntM T f + dH T i r
def cj (T : Th) : Nat → List (List Int) → Nat
 | _, [] => 0
 | i, l :: r => dH T i l + cj T (i + 1) r
def pairsM (T : Th) : Nat := cj T 0 T.foes
def gC (T : Th) : Int × Int := if 65536 < pairsM T then (113, 0) else (0, 0)
def aj (T : Th) (z : Int) : Int := ((T.rules[z.toNat]?).map RuleM.head).getD 0
def em (T : Th) (i : Nat) (l : List Int) : Bool := !bP l T.rules.length || !(l.all fun b => decide (aj T b ∈ row T.foes (aj T i)))
def dY (T : Th) : Int × Int := if T.beats.length ≠ T.rules.length then (123, 0) else iY 123 (bQ (em T) 0 T.beats)
structure Wk where
 came : List Int
 back : List Int
 clock : Int
 opn : List Int
 shut : List Bool
 knots : List (List Int)
def cF (first : Int) : List Int → List Int × List Int
 | [] => ([], [])
 | x :: r => if x = first then ([x], r) else (x :: (cF first r).1, (cF first r).2)
def da (sh : List Bool) : List Int → List Bool
 | [] => sh
 | x :: r => da (sh.set x.toNat true) r
def i4 (first : Int) (s : Wk) : Wk :=
 { s with opn := (cF first s.opn.reverse).2.reverse, shut := da s.shut (cF first s.opn.reverse).1, knots := s.knots ++ [(cF first s.opn.reverse).1] }
def fX (p : Int) (s : Wk) : Wk := { s with clock := s.clock + 1, came := s.came.set p.toNat (s.clock + 1), back := s.back.set p.toNat (s.clock + 1), opn := s.opn ++ [p] }
def dR (p o : Int) (s : Wk) : Wk := if s.shut.getD o.toNat false then s else { s with back := s.back.set p.toNat (min (s.back.getD p.toNat 0) (s.back.getD o.toNat 0)) }
def mh (p : Int) (s : Wk) : Wk := if s.back.getD p.toNat 0 = s.came.getD p.toNat 0 then i4 p s else s
def bL (vis : Int → Wk → Wk) (p : Int) : List Int → Wk → Wk
 | [], s => s
 | o :: r, s => bL vis p r (dR p o (if s.came.getD o.toNat 0 = 0 then vis o s else s))
def aN (next : List (List Int)) : Nat → Int → Wk → Wk
 | 0, _, s => s
 | f + 1, p, s => mh p (bL (aN next f) p (row next p) (fX p s))
def eachM (next : List (List Int)) (f : Nat) : Nat → Nat → Wk → Wk
 | 0, _, s => s
 | k + 1, i, s => eachM next f k (i + 1) (if s.came.getD i 0 = 0 then aN next f i s else s)
def dk (n : Nat) : Wk := ⟨List.replicate n 0, List.replicate n 0, 0, [], List.replicate n false, []⟩
def io (next : List (List Int)) : List (List Int) := (eachM next next.length next.length 0 (dk next.length)).knots
def minM : List Int → Int
 | [] => 0
 | x :: r => r.foldl min x
def jf (low : Int) (k : List Int) : Int := if 1 < k.length then min low (minM k) else low
def lA (T : Th) : Int := (io T.beats).foldl jf T.rules.length
def bM (T : Th) : Int × Int := if lA T < T.rules.length then (131, lA T) else (0, 0)
def eP (a b : Int × Int) : Int × Int := if a.1 = 0 then b else a
def cO (T : Th) : Int × Int := if T.lits < 0 ∨ 4096 < T.lits then (112, 0) else eP (gh T) (eP (dL T) (eP (gC T) (eP (dY T) (bM T))))
def nZ (z : Int) : List Int := wZ 9 z
def zt (l : List Int) : List Int := l.flatMap nZ
def sA (l : List Int) : List Int := nZ l.length ++ zt l
def ua (i : Int) (l : List Int) : List Int := l.dropWhile fun f => decide (f ≤ i)
def wU : Nat → List (List Int) → List Int
 | _, [] => []
 | i, l :: r => sA (ua i l) ++ wU (i + 1) r
def zO (r : RuleM) : List Int := nZ r.kind ++ nZ r.head ++ sA r.body
def markB : List Int := [116, 104, 121, 1]
def D6 (T : Th) : List Int := markB ++ nZ T.lits ++ wU 0 T.foes ++ nZ T.rules.length ++ T.rules.flatMap zO ++ T.beats.flatMap sA
abbrev Er (α : Type) := Except (Int × Int) α
def wQ (zs : List Int) : Nat → Nat → Er Unit
 | 0, _ => .ok ()
 | k + 1, i => if zs.length ≤ i then .error (8, i) else if zs.getD i 0 ≠ markB.getD i 0 then .error (1, i) else wQ zs k (i + 1)
def sB (zs : List Int) (least below other : Int) (p : Nat) : Er (Int × Nat) :=
 if (jR zs p).2.2 ≠ 0 then .error ((jR zs p).2.2, (jR zs p).2.1)
 else if (jR zs p).1 < least ∨ below ≤ (jR zs p).1 then .error (other, p) else .ok ((jR zs p).1, (jR zs p).2.1.toNat)
def pM (zs : List Int) (most : Int) (p : Nat) : Er (Int × Nat) := sB zs 0 (most + 1) 3 p
def wK (zs : List Int) (below other : Int) : Nat → Int → List Int → Nat → Er (List Int × Nat)
 | 0, _, acc, p => .ok (acc, p)
 | k + 1, least, acc, p => sB zs least below other p >>= fun x => wK zs below other k (x.1 + 1) (acc ++ [x.1]) x.2
def sM (zs : List Int) (most least below other : Int) (p : Nat) : Er (List Int × Nat) := pM zs most p >>= fun x => wK zs below other x.1.toNat least [] x.2
def sO (i : Nat) : List (List Int) → List Int → List (List Int)
 | F, [] => F
 | F, f :: r => sO i ((F.modify i (· ++ [f])).modify f.toNat (· ++ [(i : Int)])) r
def wV (zs : List Int) (lits : Int) : Nat → Nat → List (List Int) → Nat → Er (List (List Int) × Nat)
 | 0, _, F, p => .ok (F, p)
 | k + 1, i, F, p => sM zs 64 (i + 1) lits 121 p >>= fun x => wV zs lits k (i + 1) (sO i F x.1) x.2
def vZ (zs : List Int) (lits : Int) (p : Nat) : Er (RuleM × Nat) :=
 sB zs 1 4 122 p >>= fun k => sB zs 0 lits 122 k.2 >>= fun h => sM zs 16 0 lits 122 h.2 >>= fun b => .ok (⟨k.1, h.1, b.1⟩, b.2)
def uz (zs : List Int) (lits : Int) : Nat → List RuleM → Nat → Er (List RuleM × Nat)
 | 0, R, p => .ok (R, p)
 | k + 1, R, p => vZ zs lits p >>= fun x => uz zs lits k (R ++ [x.1]) x.2
def uj (zs : List Int) (rules : Int) : Nat → List (List Int) → Nat → Er (List (List Int) × Nat)
 | 0, R, p => .ok (R, p)
 | k + 1, R, p => sM zs 4096 0 rules 123 p >>= fun x => uj zs rules k (R ++ [x.1]) x.2
def zE (zs : List Int) (T : Th) (p : Nat) : Er Th :=
 if p < zs.length then .error (9, p) else if (cO T).1 ≠ 0 then .error ((cO T).1, 0) else .ok T
def tK (zs : List Int) (lits : Int) (p : Nat) : Er (List RuleM × Nat) := pM zs 4096 p >>= fun x => uz zs lits x.1.toNat [] x.2
def wholeM (zs : List Int) : Er Th :=
 wQ zs 4 0 >>= fun _ => pM zs 4096 4 >>= fun n => wV zs n.1 n.1.toNat 0 (List.replicate n.1.toNat []) n.2 >>= fun F =>
 tK zs n.1 F.2 >>= fun R => uj zs R.1.length R.1.length [] R.2 >>= fun b => zE zs ⟨n.1, F.1, R.1, b.1⟩ b.2
def uw : Th := ⟨2, [[1], [0]], [⟨2, 0, []⟩, ⟨2, 1, []⟩], [[1], []]⟩
def A9 : Th := ⟨2, [[1], [0]], [⟨2, 0, []⟩, ⟨2, 1, []⟩], [[1], [0]]⟩
end Go.Proofs.YtmlhcncagdfjfaaGreat
