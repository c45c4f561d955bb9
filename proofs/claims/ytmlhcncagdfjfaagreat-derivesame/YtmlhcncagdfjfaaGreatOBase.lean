import Derived.Test.YtmlhcncagdfjfaaGreatProg
import Derived.WalkKit
import Derived.WalkSpells
import Derived.WalkLawsBesides
import Derived.Laws.BitsAllLaws
import Derived.RowKit
import Derived.KernelRfl
namespace Go.Proofs.YtmlhcncagdfjfaaGreat
open Go.RowKit
theorem hide {p : Prop} (h : p) : Hid p := h
structure B4 (w : World) (a : Option Addr) (zs : List Int) : Prop where
 cells : zs ≠ [] → ∃ b off, a = some ⟨b, off, none⟩ ∧ ∀ i, i < zs.length → w.cell? ⟨b, off + i, none⟩ = some (.int .u8 (zs.getD i 0))
 byte : ∀ i : Nat, 0 ≤ zs[i]?.getD 0 ∧ zs[i]?.getD 0 ≤ 255
def rd (len p : Int) : Nat → Int → List Int → Int × Int × Int
 | _, _, [] => (0, len, 8)
 | k, acc, c :: r =>
  if k = 9 ∧ 1 < c then (0, p, 11)
  else if 128 ≤ c then rd len p (k + 1) (acc + c % 128 * 2 ^ (7 * k)) r
  else if c = 0 ∧ 0 < k then (0, p, 11)
  else (acc + c % 128 * 2 ^ (7 * k), p + k + 1, 0)
def kI (zs : List Int) (p : Int) : Int × Int × Int :=
 if p < 0 ∨ (zs.length : Int) < p then (0, p, 1) else rd zs.length p 0 0 (zs.drop p.toNat)
def wX : Nat → Int → List Int
 | 0, n => [n]
 | f + 1, n => if n < 128 then [n] else (n % 128 + 128) :: wX f (n / 128)
end Go.Proofs.YtmlhcncagdfjfaaGreat
namespace Go.Proofs.YtmlhcncagdfjfaaGreat
structure RuleM where
 kind : Int
 head : Int
 body : List Int
 deriving DecidableEq
structure Th where
 lits : Int
 foes : List (List Int)
 rules : List RuleM
 beats : List (List Int)
 deriving DecidableEq
def A9 : Th := ⟨0, [], [], []⟩
def ct (below : Int) : Int → List Int → Bool
 | _, [] => true
 | last, n :: r => if n ≤ last ∨ below ≤ n then false else ct below n r
def cM (l : List Int) (below : Int) : Bool := ct below (-1) l
def bX {α : Type} (p : Nat → α → Bool) : Nat → List α → Option Nat
 | _, [] => none
 | i, x :: r => if p i x then some i else bX p (i + 1) r
def row (F : List (List Int)) (z : Int) : List Int := F.getD z.toNat []
def hU (F : List (List Int)) (i : Nat) (l : List Int) : Bool := l.all fun f => decide ((i : Int) ∈ row F f)
def eO (T : Th) (i : Nat) (l : List Int) : Bool := decide (64 < l.length) || !cM l T.lits || decide ((i : Int) ∈ l) || !hU T.foes i l
def jj (c : Int) : Option Nat → Int × Int
 | none => (0, 0)
 | some i => (c, i)
def gn (T : Th) : Int × Int := if (T.foes.length : Int) ≠ T.lits then (121, 0) else jj 121 (bX (eO T) 0 T.foes)
def cJ (z below : Int) : Bool := decide (0 ≤ z) && decide (z < below)
def eM (lits : Int) (r : RuleM) : Bool := (decide (r.kind = 1) || decide (r.kind = 2) || decide (r.kind = 3)) && cJ r.head lits && decide (r.body.length ≤ 16) && cM r.body lits
def ee (T : Th) : Int × Int := if 4096 < T.rules.length then (111, 0) else jj 122 (bX (fun _ r => !eM T.lits r) 0 T.rules)
def cntM (T : Th) (z : Int) : Nat := (T.rules.filter fun r => decide (r.head = z)).length
def d7 (T : Th) (i : Nat) : List Int → Nat
 | [] => 0
 | f :: r => cntM T i * cntM T f + d7 T i r
def cD (T : Th) : Nat → List (List Int) → Nat
 | _, [] => 0
 | i, l :: r => d7 T i l + cD T (i + 1) r
def pairsM (T : Th) : Nat := cD T 0 T.foes
def gZ (T : Th) : Int × Int := if 65536 < pairsM T then (113, 0) else (0, 0)
def ag (T : Th) (z : Int) : Int := ((T.rules[z.toNat]?).map RuleM.head).getD 0
def eS (T : Th) (i : Nat) (l : List Int) : Bool := !cM l T.rules.length || !(l.all fun b => decide (ag T b ∈ row T.foes (ag T i)))
def eH (T : Th) : Int × Int := if T.beats.length ≠ T.rules.length then (123, 0) else jj 123 (bX (eS T) 0 T.beats)
structure Wk where
 came : List Int
 back : List Int
 clock : Int
 opn : List Int
 shut : List Bool
 knots : List (List Int)
def cS (first : Int) : List Int → List Int × List Int
 | [] => ([], [])
 | x :: r => if x = first then ([x], r) else (x :: (cS first r).1, (cS first r).2)
def du (sh : List Bool) : List Int → List Bool
 | [] => sh
 | x :: r => du (sh.set x.toNat true) r
def jr (first : Int) (s : Wk) : Wk :=
 { s with opn := (cS first s.opn.reverse).2.reverse, shut := du s.shut (cS first s.opn.reverse).1, knots := s.knots ++ [(cS first s.opn.reverse).1] }
def gl (p : Int) (s : Wk) : Wk := { s with clock := s.clock + 1, came := s.came.set p.toNat (s.clock + 1), back := s.back.set p.toNat (s.clock + 1), opn := s.opn ++ [p] }
def eo (p o : Int) (s : Wk) : Wk := if s.shut.getD o.toNat false then s else { s with back := s.back.set p.toNat (min (s.back.getD p.toNat 0) (s.back.getD o.toNat 0)) }
def mE (p : Int) (s : Wk) : Wk := if s.back.getD p.toNat 0 = s.came.getD p.toNat 0 then jr p s else s
def bS (vis : Int → Wk → Wk) (p : Int) : List Int → Wk → Wk
 | [], s => s
 | o :: r, s => bS vis p r (eo p o (if s.came.getD o.toNat 0 = 0 then vis o s else s))
def aX (next : List (List Int)) : Nat → Int → Wk → Wk
 | 0, _, s => s
 | f + 1, p, s => mE p (bS (aX next f) p (row next p) (gl p s))
def eachM (next : List (List Int)) (f : Nat) : Nat → Nat → Wk → Wk
 | 0, _, s => s
 | k + 1, i, s => eachM next f k (i + 1) (if s.came.getD i 0 = 0 then aX next f i s else s)
def dC (n : Nat) : Wk := ⟨List.replicate n 0, List.replicate n 0, 0, [], List.replicate n false, []⟩
def iR (next : List (List Int)) : List (List Int) := (eachM next next.length next.length 0 (dC next.length)).knots
def minM : List Int → Int
 | [] => 0
 | x :: r => r.foldl min x
def jw (low : Int) (k : List Int) : Int := if 1 < k.length then min low (minM k) else low
def lF (T : Th) : Int := (iR T.beats).foldl jw T.rules.length
def bU (T : Th) : Int × Int := if lF T < T.rules.length then (131, lF T) else (0, 0)
def eZ (a b : Int × Int) : Int × Int := if a.1 = 0 then b else a
def dT (T : Th) : Int × Int := if T.lits < 0 ∨ 4096 < T.lits then (112, 0) else eZ (gn T) (eZ (ee T) (eZ (gZ T) (eZ (eH T) (bU T))))
def nZ (z : Int) : List Int := wX 9 z
def zw (l : List Int) : List Int := l.flatMap nZ
def sN (l : List Int) : List Int := nZ l.length ++ zw l
def uA (i : Int) (l : List Int) : List Int := l.dropWhile fun f => decide (f ≤ i)
def xa : Nat → List (List Int) → List Int
 | _, [] => []
 | i, l :: r => sN (uA i l) ++ xa (i + 1) r
def zy (r : RuleM) : List Int := nZ r.kind ++ nZ r.head ++ sN r.body
def markB : List Int := [116, 104, 121, 1]
def A8 (T : Th) : List Int := markB ++ nZ T.lits ++ xa 0 T.foes ++ nZ T.rules.length ++ T.rules.flatMap zy ++ T.beats.flatMap sN
abbrev Er (α : Type) := Except (Int × Int) α
def wY (zs : List Int) : Nat → Nat → Er Unit
 | 0, _ => .ok ()
 | k + 1, i => if zs.length ≤ i then .error (8, i) else if zs.getD i 0 ≠ markB.getD i 0 then .error (1, i) else wY zs k (i + 1)
def ss (zs : List Int) (least below other : Int) (p : Nat) : Er (Int × Nat) :=
 if (kI zs p).2.2 ≠ 0 then .error ((kI zs p).2.2, (kI zs p).2.1)
 else if (kI zs p).1 < least ∨ below ≤ (kI zs p).1 then .error (other, p) else .ok ((kI zs p).1, (kI zs p).2.1.toNat)
def qA (zs : List Int) (most : Int) (p : Nat) : Er (Int × Nat) := ss zs 0 (most + 1) 3 p
def wS (zs : List Int) (below other : Int) : Nat → Int → List Int → Nat → Er (List Int × Nat)
 | 0, _, acc, p => .ok (acc, p)
 | k + 1, least, acc, p => ss zs least below other p >>= fun x => wS zs below other k (x.1 + 1) (acc ++ [x.1]) x.2
def sU (zs : List Int) (most least below other : Int) (p : Nat) : Er (List Int × Nat) := qA zs most p >>= fun x => wS zs below other x.1.toNat least [] x.2
def sS (i : Nat) : List (List Int) → List Int → List (List Int)
 | F, [] => F
 | F, f :: r => sS i ((F.modify i (· ++ [f])).modify f.toNat (· ++ [(i : Int)])) r
def wR (zs : List Int) (lits : Int) : Nat → Nat → List (List Int) → Nat → Er (List (List Int) × Nat)
 | 0, _, F, p => .ok (F, p)
 | k + 1, i, F, p => sU zs 64 (i + 1) lits 121 p >>= fun x => wR zs lits k (i + 1) (sS i F x.1) x.2
def vG (zs : List Int) (lits : Int) (p : Nat) : Er (RuleM × Nat) :=
 ss zs 1 4 122 p >>= fun k => ss zs 0 lits 122 k.2 >>= fun h => sU zs 16 0 lits 122 h.2 >>= fun b => .ok (⟨k.1, h.1, b.1⟩, b.2)
def tD (zs : List Int) (lits : Int) : Nat → List RuleM → Nat → Er (List RuleM × Nat)
 | 0, R, p => .ok (R, p)
 | k + 1, R, p => vG zs lits p >>= fun x => tD zs lits k (R ++ [x.1]) x.2
def uC (zs : List Int) (rules : Int) : Nat → List (List Int) → Nat → Er (List (List Int) × Nat)
 | 0, R, p => .ok (R, p)
 | k + 1, R, p => sU zs 4096 0 rules 123 p >>= fun x => uC zs rules k (R ++ [x.1]) x.2
def zB (zs : List Int) (T : Th) (p : Nat) : Er Th :=
 if p < zs.length then .error (9, p) else if (dT T).1 ≠ 0 then .error ((dT T).1, 0) else .ok T
def uw (zs : List Int) (lits : Int) (p : Nat) : Er (List RuleM × Nat) := qA zs 4096 p >>= fun x => tD zs lits x.1.toNat [] x.2
def wholeM (zs : List Int) : Er Th :=
 wY zs 4 0 >>= fun _ => qA zs 4096 4 >>= fun n => wR zs n.1 n.1.toNat 0 (List.replicate n.1.toNat []) n.2 >>= fun F =>
 uw zs n.1 F.2 >>= fun R => uC zs R.1.length R.1.length [] R.2 >>= fun b => zB zs ⟨n.1, F.1, R.1, b.1⟩ b.2
def B1 : Th := ⟨2, [[1], [0]], [⟨2, 0, []⟩, ⟨2, 1, []⟩], [[1], []]⟩
def A0 : Th := ⟨2, [[1], [0]], [⟨2, 0, []⟩, ⟨2, 1, []⟩], [[1], [0]]⟩
end Go.Proofs.YtmlhcncagdfjfaaGreat
