import Derived.Test.YtmlhcncagdfjfaaGreatProg
import Derived.WalkKit
import Derived.WalkSpells
import Derived.WalkLawsBesides
import Derived.Laws.BitsAllLaws
import Derived.RowKit
import Derived.KernelRfl
namespace Go.Proofs.YtmlhcncagdfjfaaGreat
open Go.RowKit
theorem hide {p : Prop} (h : p) : Hid p := h
structure Gs (w : World) (a : Option Addr) (zs : List Int) : Prop where
 cells : zs ≠ [] → ∃ b off, a = some ⟨b, off, none⟩ ∧ ∀ i, i < zs.length → w.cell? ⟨b, off + i, none⟩ = some (.int .u8 (zs.getD i 0))
 byte : ∀ i : Nat, 0 ≤ zs[i]?.getD 0 ∧ zs[i]?.getD 0 ≤ 255
def rd (len p : Int) : Nat → Int → List Int → Int × Int × Int
 | _, _, [] => (0, len, 8)
 | k, acc, c :: r =>
  if k = 9 ∧ 1 < c then (0, p, 11)
  else if 128 ≤ c then rd len p (k + 1) (acc + c % 128 * 2 ^ (7 * k)) r
  else if c = 0 ∧ 0 < k then (0, p, 11)
  else (acc + c % 128 * 2 ^ (7 * k), p + k + 1, 0)
def lS (zs : List Int) (p : Int) : Int × Int × Int :=
 if p < 0 ∨ (zs.length : Int) < p then (0, p, 1) else rd zs.length p 0 0 (zs.drop p.toNat)
def zk : Nat → Int → List Int
 | 0, n => [n]
 | f + 1, n => if n < 128 then [n] else (n % 128 + 128) :: zk f (n / 128)
end Go.Proofs.YtmlhcncagdfjfaaGreat
namespace Go.Proofs.YtmlhcncagdfjfaaGreat
structure RuleM where
 kind : Int
 head : Int
 body : List Int
 deriving DecidableEq
structure Th where
 lits : Int
 foes : List (List Int)
 rules : List RuleM
 beats : List (List Int)
 deriving DecidableEq
def Gn : Th := ⟨0, [], [], []⟩
def cT (below : Int) : Int → List Int → Bool
 | _, [] => true
 | last, n :: r => if n ≤ last ∨ below ≤ n then false else cT below n r
def cK (l : List Int) (below : Int) : Bool := cT below (-1) l
def cG {α : Type} (p : Nat → α → Bool) : Nat → List α → Option Nat
 | _, [] => none
 | i, x :: r => if p i x then some i else cG p (i + 1) r
def row (F : List (List Int)) (z : Int) : List Int := F.getD z.toNat []
def iX (F : List (List Int)) (i : Nat) (l : List Int) : Bool := l.all fun f => decide ((i : Int) ∈ row F f)
def fe (T : Th) (i : Nat) (l : List Int) : Bool := decide (64 < l.length) || !cK l T.lits || decide ((i : Int) ∈ l) || !iX T.foes i l
def jX (c : Int) : Option Nat → Int × Int
 | none => (0, 0)
 | some i => (c, i)
def gX (T : Th) : Int × Int := if (T.foes.length : Int) ≠ T.lits then (121, 0) else jX 121 (cG (fe T) 0 T.foes)
def cN (z below : Int) : Bool := decide (0 ≤ z) && decide (z < below)
def eY (lits : Int) (r : RuleM) : Bool := (decide (r.kind = 1) || decide (r.kind = 2) || decide (r.kind = 3)) && cN r.head lits && decide (r.body.length ≤ 16) && cK r.body lits
def eF (T : Th) : Int × Int := if 4096 < T.rules.length then (111, 0) else jX 122 (cG (fun _ r => !eY T.lits r) 0 T.rules)
def cntM (T : Th) (z : Int) : Nat := (T.rules.filter fun r => decide (r.head = z)).length
def ep (T : Th) (i : Nat) : List Int → Nat
 | [] => 0
 | f :: r => cntM T i * cntM T f + ep T i r
def da (T : Th) : Nat → List (List Int) → Nat
 | _, [] => 0
 | i, l :: r => ep T i l + da T (i + 1) r
def pairsM (T : Th) : Nat := da T 0 T.foes
def iJ (T : Th) : Int × Int := if 65536 < pairsM T then (113, 0) else (0, 0)
def aj (T : Th) (z : Int) : Int := ((T.rules[z.toNat]?).map RuleM.head).getD 0
def fh (T : Th) (i : Nat) (l : List Int) : Bool := !cK l T.rules.length || !(l.all fun b => decide (aj T b ∈ row T.foes (aj T i)))
def eX (T : Th) : Int × Int := if T.beats.length ≠ T.rules.length then (123, 0) else jX 123 (cG (fh T) 0 T.beats)
structure Wk where
 came : List Int
 back : List Int
 clock : Int
 opn : List Int
 shut : List Bool
 knots : List (List Int)
def dp (first : Int) : List Int → List Int × List Int
 | [] => ([], [])
 | x :: r => if x = first then ([x], r) else (x :: (dp first r).1, (dp first r).2)
def dO (sh : List Bool) : List Int → List Bool
 | [] => sh
 | x :: r => dO (sh.set x.toNat true) r
def j6 (first : Int) (s : Wk) : Wk :=
 { s with opn := (dp first s.opn.reverse).2.reverse, shut := dO s.shut (dp first s.opn.reverse).1, knots := s.knots ++ [(dp first s.opn.reverse).1] }
def gJ (p : Int) (s : Wk) : Wk := { s with clock := s.clock + 1, came := s.came.set p.toNat (s.clock + 1), back := s.back.set p.toNat (s.clock + 1), opn := s.opn ++ [p] }
def eH (p o : Int) (s : Wk) : Wk := if s.shut.getD o.toNat false then s else { s with back := s.back.set p.toNat (min (s.back.getD p.toNat 0) (s.back.getD o.toNat 0)) }
def nY (p : Int) (s : Wk) : Wk := if s.back.getD p.toNat 0 = s.came.getD p.toNat 0 then j6 p s else s
def cu (vis : Int → Wk → Wk) (p : Int) : List Int → Wk → Wk
 | [], s => s
 | o :: r, s => cu vis p r (eH p o (if s.came.getD o.toNat 0 = 0 then vis o s else s))
def bn (next : List (List Int)) : Nat → Int → Wk → Wk
 | 0, _, s => s
 | f + 1, p, s => nY p (cu (bn next f) p (row next p) (gJ p s))
def eachM (next : List (List Int)) (f : Nat) : Nat → Nat → Wk → Wk
 | 0, _, s => s
 | k + 1, i, s => eachM next f k (i + 1) (if s.came.getD i 0 = 0 then bn next f i s else s)
def dR (n : Nat) : Wk := ⟨List.replicate n 0, List.replicate n 0, 0, [], List.replicate n false, []⟩
def jO (next : List (List Int)) : List (List Int) := (eachM next next.length next.length 0 (dR next.length)).knots
def minM : List Int → Int
 | [] => 0
 | x :: r => r.foldl min x
def kw (low : Int) (k : List Int) : Int := if 1 < k.length then min low (minM k) else low
def mZ (T : Th) : Int := (jO T.beats).foldl kw T.rules.length
def cD (T : Th) : Int × Int := if mZ T < T.rules.length then (131, mZ T) else (0, 0)
def fM (a b : Int × Int) : Int × Int := if a.1 = 0 then b else a
def dC (T : Th) : Int × Int := if T.lits < 0 ∨ 4096 < T.lits then (112, 0) else fM (gX T) (fM (eF T) (fM (iJ T) (fM (eX T) (cD T))))
def pp (z : Int) : List Int := zk 9 z
def FM (l : List Int) : List Int := l.flatMap pp
def uu (l : List Int) : List Int := pp l.length ++ FM l
def vR (i : Int) (l : List Int) : List Int := l.dropWhile fun f => decide (f ≤ i)
def yY : Nat → List (List Int) → List Int
 | _, [] => []
 | i, l :: r => uu (vR i l) ++ yY (i + 1) r
def FW (r : RuleM) : List Int := pp r.kind ++ pp r.head ++ uu r.body
def markB : List Int := [116, 104, 121, 1]
def Gp (T : Th) : List Int := markB ++ pp T.lits ++ yY 0 T.foes ++ pp T.rules.length ++ T.rules.flatMap FW ++ T.beats.flatMap uu
abbrev Er (α : Type) := Except (Int × Int) α
def yT (zs : List Int) : Nat → Nat → Er Unit
 | 0, _ => .ok ()
 | k + 1, i => if zs.length ≤ i then .error (8, i) else if zs.getD i 0 ≠ markB.getD i 0 then .error (1, i) else yT zs k (i + 1)
def tV (zs : List Int) (least below other : Int) (p : Nat) : Er (Int × Nat) :=
 if (lS zs p).2.2 ≠ 0 then .error ((lS zs p).2.2, (lS zs p).2.1)
 else if (lS zs p).1 < least ∨ below ≤ (lS zs p).1 then .error (other, p) else .ok ((lS zs p).1, (lS zs p).2.1.toNat)
def ss (zs : List Int) (most : Int) (p : Nat) : Er (Int × Nat) := tV zs 0 (most + 1) 3 p
def yZ (zs : List Int) (below other : Int) : Nat → Int → List Int → Nat → Er (List Int × Nat)
 | 0, _, acc, p => .ok (acc, p)
 | k + 1, least, acc, p => tV zs least below other p >>= fun x => yZ zs below other k (x.1 + 1) (acc ++ [x.1]) x.2
def ux (zs : List Int) (most least below other : Int) (p : Nat) : Er (List Int × Nat) := ss zs most p >>= fun x => yZ zs below other x.1.toNat least [] x.2
def uj (i : Nat) : List (List Int) → List Int → List (List Int)
 | F, [] => F
 | F, f :: r => uj i ((F.modify i (· ++ [f])).modify f.toNat (· ++ [(i : Int)])) r
def yX (zs : List Int) (lits : Int) : Nat → Nat → List (List Int) → Nat → Er (List (List Int) × Nat)
 | 0, _, F, p => .ok (F, p)
 | k + 1, i, F, p => ux zs 64 (i + 1) lits 121 p >>= fun x => yX zs lits k (i + 1) (uj i F x.1) x.2
def yE (zs : List Int) (lits : Int) (p : Nat) : Er (RuleM × Nat) :=
 tV zs 1 4 122 p >>= fun k => tV zs 0 lits 122 k.2 >>= fun h => ux zs 16 0 lits 122 h.2 >>= fun b => .ok (⟨k.1, h.1, b.1⟩, b.2)
def vA (zs : List Int) (lits : Int) : Nat → List RuleM → Nat → Er (List RuleM × Nat)
 | 0, R, p => .ok (R, p)
 | k + 1, R, p => yE zs lits p >>= fun x => vA zs lits k (R ++ [x.1]) x.2
def wg (zs : List Int) (rules : Int) : Nat → List (List Int) → Nat → Er (List (List Int) × Nat)
 | 0, R, p => .ok (R, p)
 | k + 1, R, p => ux zs 4096 0 rules 123 p >>= fun x => wg zs rules k (R ++ [x.1]) x.2
def FQ (zs : List Int) (T : Th) (p : Nat) : Er Th :=
 if p < zs.length then .error (9, p) else if (dC T).1 ≠ 0 then .error ((dC T).1, 0) else .ok T
def vb (zs : List Int) (lits : Int) (p : Nat) : Er (List RuleM × Nat) := ss zs 4096 p >>= fun x => vA zs lits x.1.toNat [] x.2
def wholeM (zs : List Int) : Er Th :=
 yT zs 4 0 >>= fun _ => ss zs 4096 4 >>= fun n => yX zs n.1 n.1.toNat 0 (List.replicate n.1.toNat []) n.2 >>= fun F =>
 vb zs n.1 F.2 >>= fun R => wg zs R.1.length R.1.length [] R.2 >>= fun b => FQ zs ⟨n.1, F.1, R.1, b.1⟩ b.2
def Gw : Th := ⟨2, [[1], [0]], [⟨2, 0, []⟩, ⟨2, 1, []⟩], [[1], []]⟩
def Gh : Th := ⟨2, [[1], [0]], [⟨2, 0, []⟩, ⟨2, 1, []⟩], [[1], [0]]⟩
end Go.Proofs.YtmlhcncagdfjfaaGreat
