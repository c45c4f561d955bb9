import Derived.Test.YtmlhcncagdfjfaaGreatProg
import Derived.WalkKit
import Derived.WalkSpells
import Derived.WalkLawsBesides
import Derived.Laws.BitsAllLaws
import Derived.RowKit
import Derived.KernelRfl
namespace Go.Proofs.YtmlhcncagdfjfaaGreat
open Go.RowKit
theorem hide {p : Prop} (h : p) : Hid p := h
structure EW (w : World) (a : Option Addr) (zs : List Int) : Prop where
 cells : zs ≠ [] → ∃ b off, a = some ⟨b, off, none⟩ ∧ ∀ i, i < zs.length → w.cell? ⟨b, off + i, none⟩ = some (.int .u8 (zs.getD i 0))
 byte : ∀ i : Nat, 0 ≤ zs[i]?.getD 0 ∧ zs[i]?.getD 0 ≤ 255
def rd (len p : Int) : Nat → Int → List Int → Int × Int × Int
 | _, _, [] => (0, len, 8)
 | k, acc, c :: r =>
  if k = 9 ∧ 1 < c then (0, p, 11)
  else if 128 ≤ c then rd len p (k + 1) (acc + c % 128 * 2 ^ (7 * k)) r
  else if c = 0 ∧ 0 < k then (0, p, 11)
  else (acc + c % 128 * 2 ^ (7 * k), p + k + 1, 0)
def jY (zs : List Int) (p : Int) : Int × Int × Int :=
 if p < 0 ∨ (zs.length : Int) < p then (0, p, 1) else rd zs.length p 0 0 (zs.drop p.toNat)
def xg : Nat → Int → List Int
 | 0, n => [n]
 | f + 1, n => if n < 128 then [n] else (n % 128 + 128) :: xg f (n / 128)
end Go.Proofs.YtmlhcncagdfjfaaGreat
namespace Go.Proofs.YtmlhcncagdfjfaaGreat
structure RuleM where
 kind : Int
 head : Int
 body : List Int
 deriving DecidableEq
structure Th where
 lits : Int
 foes : List (List Int)
 rules : List RuleM
 beats : List (List Int)
 deriving DecidableEq
def D5 : Th := ⟨0, [], [], []⟩
def cg (below : Int) : Int → List Int → Bool
 | _, [] => true
 | last, n :: r => if n ≤ last ∨ below ≤ n then false else cg below n r
def bQ (l : List Int) (below : Int) : Bool := cg below (-1) l
def bP {α : Type} (p : Nat → α → Bool) : Nat → List α → Option Nat
 | _, [] => none
 | i, x :: r => if p i x then some i else bP p (i + 1) r
def row (F : List (List Int)) (z : Int) : List Int := F.getD z.toNat []
def gL (F : List (List Int)) (i : Nat) (l : List Int) : Bool := l.all fun f => decide ((i : Int) ∈ row F f)
def d8 (T : Th) (i : Nat) (l : List Int) : Bool := decide (64 < l.length) || !bQ l T.lits || decide ((i : Int) ∈ l) || !gL T.foes i l
def i9 (c : Int) : Option Nat → Int × Int
 | none => (0, 0)
 | some i => (c, i)
def fX (T : Th) : Int × Int := if (T.foes.length : Int) ≠ T.lits then (121, 0) else i9 121 (bP (d8 T) 0 T.foes)
def bU (z below : Int) : Bool := decide (0 ≤ z) && decide (z < below)
def ee (lits : Int) (r : RuleM) : Bool := (decide (r.kind = 1) || decide (r.kind = 2) || decide (r.kind = 3)) && bU r.head lits && decide (r.body.length ≤ 16) && bQ r.body lits
def dK (T : Th) : Int × Int := if 4096 < T.rules.length then (111, 0) else i9 122 (bP (fun _ r => !ee T.lits r) 0 T.rules)
def cntM (T : Th) (z : Int) : Nat := (T.rules.filter fun r => decide (r.head = z)).length
def dG (T : Th) (i : Nat) : List Int → Nat
 | [] => 0
 | f :: r => cntM T i * cntM T f + dG T i r
def cj (T : Th) : Nat → List (List Int) → Nat
 | _, [] => 0
 | i, l :: r => dG T i l + cj T (i + 1) r
def pairsM (T : Th) : Nat := cj T 0 T.foes
def gD (T : Th) : Int × Int := if 65536 < pairsM T then (113, 0) else (0, 0)
def aj (T : Th) (z : Int) : Int := ((T.rules[z.toNat]?).map RuleM.head).getD 0
def eo (T : Th) (i : Nat) (l : List Int) : Bool := !bQ l T.rules.length || !(l.all fun b => decide (aj T b ∈ row T.foes (aj T i)))
def dY (T : Th) : Int × Int := if T.beats.length ≠ T.rules.length then (123, 0) else i9 123 (bP (eo T) 0 T.beats)
structure Wk where
 came : List Int
 back : List Int
 clock : Int
 opn : List Int
 shut : List Bool
 knots : List (List Int)
def cG (first : Int) : List Int → List Int × List Int
 | [] => ([], [])
 | x :: r => if x = first then ([x], r) else (x :: (cG first r).1, (cG first r).2)
def cY (sh : List Bool) : List Int → List Bool
 | [] => sh
 | x :: r => cY (sh.set x.toNat true) r
def iV (first : Int) (s : Wk) : Wk :=
 { s with opn := (cG first s.opn.reverse).2.reverse, shut := cY s.shut (cG first s.opn.reverse).1, knots := s.knots ++ [(cG first s.opn.reverse).1] }
def fQ (p : Int) (s : Wk) : Wk := { s with clock := s.clock + 1, came := s.came.set p.toNat (s.clock + 1), back := s.back.set p.toNat (s.clock + 1), opn := s.opn ++ [p] }
def dM (p o : Int) (s : Wk) : Wk := if s.shut.getD o.toNat false then s else { s with back := s.back.set p.toNat (min (s.back.getD p.toNat 0) (s.back.getD o.toNat 0)) }
def me (p : Int) (s : Wk) : Wk := if s.back.getD p.toNat 0 = s.came.getD p.toNat 0 then iV p s else s
def bM (vis : Int → Wk → Wk) (p : Int) : List Int → Wk → Wk
 | [], s => s
 | o :: r, s => bM vis p r (dM p o (if s.came.getD o.toNat 0 = 0 then vis o s else s))
def aO (next : List (List Int)) : Nat → Int → Wk → Wk
 | 0, _, s => s
 | f + 1, p, s => me p (bM (aO next f) p (row next p) (fQ p s))
def eachM (next : List (List Int)) (f : Nat) : Nat → Nat → Wk → Wk
 | 0, _, s => s
 | k + 1, i, s => eachM next f k (i + 1) (if s.came.getD i 0 = 0 then aO next f i s else s)
def dr (n : Nat) : Wk := ⟨List.replicate n 0, List.replicate n 0, 0, [], List.replicate n false, []⟩
def iz (next : List (List Int)) : List (List Int) := (eachM next next.length next.length 0 (dr next.length)).knots
def minM : List Int → Int
 | [] => 0
 | x :: r => r.foldl min x
def jh (low : Int) (k : List Int) : Int := if 1 < k.length then min low (minM k) else low
def lA (T : Th) : Int := (iz T.beats).foldl jh T.rules.length
def bN (T : Th) : Int × Int := if lA T < T.rules.length then (131, lA T) else (0, 0)
def eO (a b : Int × Int) : Int × Int := if a.1 = 0 then b else a
def cO (T : Th) : Int × Int := if T.lits < 0 ∨ 4096 < T.lits then (112, 0) else eO (fX T) (eO (dK T) (eO (gD T) (eO (dY T) (bN T))))
def oh (z : Int) : List Int := xg 9 z
def zt (l : List Int) : List Int := l.flatMap oh
def s9 (l : List Int) : List Int := oh l.length ++ zt l
def uz (i : Int) (l : List Int) : List Int := l.dropWhile fun f => decide (f ≤ i)
def wI : Nat → List (List Int) → List Int
 | _, [] => []
 | i, l :: r => s9 (uz i l) ++ wI (i + 1) r
def zG (r : RuleM) : List Int := oh r.kind ++ oh r.head ++ s9 r.body
def markB : List Int := [116, 104, 121, 1]
def D3 (T : Th) : List Int := markB ++ oh T.lits ++ wI 0 T.foes ++ oh T.rules.length ++ T.rules.flatMap zG ++ T.beats.flatMap s9
abbrev Er (α : Type) := Except (Int × Int) α
def wW (zs : List Int) : Nat → Nat → Er Unit
 | 0, _ => .ok ()
 | k + 1, i => if zs.length ≤ i then .error (8, i) else if zs.getD i 0 ≠ markB.getD i 0 then .error (1, i) else wW zs k (i + 1)
def sV (zs : List Int) (least below other : Int) (p : Nat) : Er (Int × Nat) :=
 if (jY zs p).2.2 ≠ 0 then .error ((jY zs p).2.2, (jY zs p).2.1)
 else if (jY zs p).1 < least ∨ below ≤ (jY zs p).1 then .error (other, p) else .ok ((jY zs p).1, (jY zs p).2.1.toNat)
def pV (zs : List Int) (most : Int) (p : Nat) : Er (Int × Nat) := sV zs 0 (most + 1) 3 p
def wU (zs : List Int) (below other : Int) : Nat → Int → List Int → Nat → Er (List Int × Nat)
 | 0, _, acc, p => .ok (acc, p)
 | k + 1, least, acc, p => sV zs least below other p >>= fun x => wU zs below other k (x.1 + 1) (acc ++ [x.1]) x.2
def sk (zs : List Int) (most least below other : Int) (p : Nat) : Er (List Int × Nat) := pV zs most p >>= fun x => wU zs below other x.1.toNat least [] x.2
def si (i : Nat) : List (List Int) → List Int → List (List Int)
 | F, [] => F
 | F, f :: r => si i ((F.modify i (· ++ [f])).modify f.toNat (· ++ [(i : Int)])) r
def wK (zs : List Int) (lits : Int) : Nat → Nat → List (List Int) → Nat → Er (List (List Int) × Nat)
 | 0, _, F, p => .ok (F, p)
 | k + 1, i, F, p => sk zs 64 (i + 1) lits 121 p >>= fun x => wK zs lits k (i + 1) (si i F x.1) x.2
def wi (zs : List Int) (lits : Int) (p : Nat) : Er (RuleM × Nat) :=
 sV zs 1 4 122 p >>= fun k => sV zs 0 lits 122 k.2 >>= fun h => sk zs 16 0 lits 122 h.2 >>= fun b => .ok (⟨k.1, h.1, b.1⟩, b.2)
def ul (zs : List Int) (lits : Int) : Nat → List RuleM → Nat → Er (List RuleM × Nat)
 | 0, R, p => .ok (R, p)
 | k + 1, R, p => wi zs lits p >>= fun x => ul zs lits k (R ++ [x.1]) x.2
def tA (zs : List Int) (rules : Int) : Nat → List (List Int) → Nat → Er (List (List Int) × Nat)
 | 0, R, p => .ok (R, p)
 | k + 1, R, p => sk zs 4096 0 rules 123 p >>= fun x => tA zs rules k (R ++ [x.1]) x.2
def zJ (zs : List Int) (T : Th) (p : Nat) : Er Th :=
 if p < zs.length then .error (9, p) else if (cO T).1 ≠ 0 then .error ((cO T).1, 0) else .ok T
def tG (zs : List Int) (lits : Int) (p : Nat) : Er (List RuleM × Nat) := pV zs 4096 p >>= fun x => ul zs lits x.1.toNat [] x.2
def wholeM (zs : List Int) : Er Th :=
 wW zs 4 0 >>= fun _ => pV zs 4096 4 >>= fun n => wK zs n.1 n.1.toNat 0 (List.replicate n.1.toNat []) n.2 >>= fun F =>
 tG zs n.1 F.2 >>= fun R => tA zs R.1.length R.1.length [] R.2 >>= fun b => zJ zs ⟨n.1, F.1, R.1, b.1⟩ b.2
def tL : Th := ⟨2, [[1], [0]], [⟨2, 0, []⟩, ⟨2, 1, []⟩], [[1], []]⟩
def A6 : Th := ⟨2, [[1], [0]], [⟨2, 0, []⟩, ⟨2, 1, []⟩], [[1], [0]]⟩
end Go.Proofs.YtmlhcncagdfjfaaGreat
