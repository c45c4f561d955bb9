import Derived.Test.YtmlhcncagdfjfaaGreatProg
import Derived.WalkKit
import Derived.WalkSpells
import Derived.WalkLawsBesides
import Derived.Laws.BitsAllLaws
import Derived.RowKit
import Derived.KernelRfl
namespace Go.Proofs.YtmlhcncagdfjfaaGreat
open Go.RowKit
theorem hide {p : Prop} (h : p) : Hid p := h
structure B8 (w : World) (a : Option Addr) (zs : List Int) : Prop where
 cells : zs ≠ [] → ∃ b off, a = some ⟨b, off, none⟩ ∧ ∀ i, i < zs.length → w.cell? ⟨b, off + i, none⟩ = some (.int .u8 (zs.getD i 0))
 byte : ∀ i : Nat, 0 ≤ zs[i]?.getD 0 ∧ zs[i]?.getD 0 ≤ 255
def rd (len p : Int) : Nat → Int → List Int → Int × Int × Int
 | _, _, [] => (0, len, 8)
 | k, acc, c :: r =>
  if k = 9 ∧ 1 < c then (0, p, 11)
  else if 128 ≤ c then rd len p (k + 1) (acc + c % 128 * 2 ^ (7 * k)) r
  else if c = 0 ∧ 0 < k then (0, p, 11)
  else (acc + c % 128 * 2 ^ (7 * k), p + k + 1, 0)
def jW (zs : List Int) (p : Int) : Int × Int × Int :=
 if p < 0 ∨ (zs.length : Int) < p then (0, p, 1) else rd zs.length p 0 0 (zs.drop p.toNat)
def wN : Nat → Int → List Int
 | 0, n => [n]
 | f + 1, n => if n < 128 then [n] else (n % 128 + 128) :: wN f (n / 128)
end Go.Proofs.YtmlhcncagdfjfaaGreat
namespace Go.Proofs.YtmlhcncagdfjfaaGreat
structure RuleM where
 kind : Int
 head : Int
 body : List Int
 deriving DecidableEq
structure Th where
 lits : Int
 foes : List (List Int)
 rules : List RuleM
 beats : List (List Int)
 deriving DecidableEq
def A9 : Th := ⟨0, [], [], []⟩
def cg (below : Int) : Int → List Int → Bool
 | _, [] => true
 | last, n :: r => if n ≤ last ∨ below ≤ n then false else cg below n r
def cK (l : List Int) (below : Int) : Bool := cg below (-1) l
def bU {α : Type} (p : Nat → α → Bool) : Nat → List α → Option Nat
 | _, [] => none
 | i, x :: r => if p i x then some i else bU p (i + 1) r
def row (F : List (List Int)) (z : Int) : List Int := F.getD z.toNat []
def gZ (F : List (List Int)) (i : Nat) (l : List Int) : Bool := l.all fun f => decide ((i : Int) ∈ row F f)
def eC (T : Th) (i : Nat) (l : List Int) : Bool := decide (64 < l.length) || !cK l T.lits || decide ((i : Int) ∈ l) || !gZ T.foes i l
def jo (c : Int) : Option Nat → Int × Int
 | none => (0, 0)
 | some i => (c, i)
def gn (T : Th) : Int × Int := if (T.foes.length : Int) ≠ T.lits then (121, 0) else jo 121 (bU (eC T) 0 T.foes)
def cJ (z below : Int) : Bool := decide (0 ≤ z) && decide (z < below)
def eD (lits : Int) (r : RuleM) : Bool := (decide (r.kind = 1) || decide (r.kind = 2) || decide (r.kind = 3)) && cJ r.head lits && decide (r.body.length ≤ 16) && cK r.body lits
def dZ (T : Th) : Int × Int := if 4096 < T.rules.length then (111, 0) else jo 122 (bU (fun _ r => !eD T.lits r) 0 T.rules)
def cntM (T : Th) (z : Int) : Nat := (T.rules.filter fun r => decide (r.head = z)).length
def dX (T : Th) (i : Nat) : List Int → Nat
 | [] => 0
 | f :: r => cntM T i * cntM T f + dX T i r
def cu (T : Th) : Nat → List (List Int) → Nat
 | _, [] => 0
 | i, l :: r => dX T i l + cu T (i + 1) r
def pairsM (T : Th) : Nat := cu T 0 T.foes
def gX (T : Th) : Int × Int := if 65536 < pairsM T then (113, 0) else (0, 0)
def ag (T : Th) (z : Int) : Int := ((T.rules[z.toNat]?).map RuleM.head).getD 0
def eL (T : Th) (i : Nat) (l : List Int) : Bool := !cK l T.rules.length || !(l.all fun b => decide (ag T b ∈ row T.foes (ag T i)))
def ep (T : Th) : Int × Int := if T.beats.length ≠ T.rules.length then (123, 0) else jo 123 (bU (eL T) 0 T.beats)
structure Wk where
 came : List Int
 back : List Int
 clock : Int
 opn : List Int
 shut : List Bool
 knots : List (List Int)
def cP (first : Int) : List Int → List Int × List Int
 | [] => ([], [])
 | x :: r => if x = first then ([x], r) else (x :: (cP first r).1, (cP first r).2)
def dk (sh : List Bool) : List Int → List Bool
 | [] => sh
 | x :: r => dk (sh.set x.toNat true) r
def ji (first : Int) (s : Wk) : Wk :=
 { s with opn := (cP first s.opn.reverse).2.reverse, shut := dk s.shut (cP first s.opn.reverse).1, knots := s.knots ++ [(cP first s.opn.reverse).1] }
def gq (p : Int) (s : Wk) : Wk := { s with clock := s.clock + 1, came := s.came.set p.toNat (s.clock + 1), back := s.back.set p.toNat (s.clock + 1), opn := s.opn ++ [p] }
def em (p o : Int) (s : Wk) : Wk := if s.shut.getD o.toNat false then s else { s with back := s.back.set p.toNat (min (s.back.getD p.toNat 0) (s.back.getD o.toNat 0)) }
def lU (p : Int) (s : Wk) : Wk := if s.back.getD p.toNat 0 = s.came.getD p.toNat 0 then ji p s else s
def bR (vis : Int → Wk → Wk) (p : Int) : List Int → Wk → Wk
 | [], s => s
 | o :: r, s => bR vis p r (em p o (if s.came.getD o.toNat 0 = 0 then vis o s else s))
def aV (next : List (List Int)) : Nat → Int → Wk → Wk
 | 0, _, s => s
 | f + 1, p, s => lU p (bR (aV next f) p (row next p) (gq p s))
def eachM (next : List (List Int)) (f : Nat) : Nat → Nat → Wk → Wk
 | 0, _, s => s
 | k + 1, i, s => eachM next f k (i + 1) (if s.came.getD i 0 = 0 then aV next f i s else s)
def dt (n : Nat) : Wk := ⟨List.replicate n 0, List.replicate n 0, 0, [], List.replicate n false, []⟩
def ja (next : List (List Int)) : List (List Int) := (eachM next next.length next.length 0 (dt next.length)).knots
def minM : List Int → Int
 | [] => 0
 | x :: r => r.foldl min x
def jq (low : Int) (k : List Int) : Int := if 1 < k.length then min low (minM k) else low
def lz (T : Th) : Int := (ja T.beats).foldl jq T.rules.length
def bP (T : Th) : Int × Int := if lz T < T.rules.length then (131, lz T) else (0, 0)
def eX (a b : Int × Int) : Int × Int := if a.1 = 0 then b else a
def dV (T : Th) : Int × Int := if T.lits < 0 ∨ 4096 < T.lits then (112, 0) else eX (gn T) (eX (dZ T) (eX (gX T) (eX (ep T) (bP T))))
def nL (z : Int) : List Int := wN 9 z
def zx (l : List Int) : List Int := l.flatMap nL
def sB (l : List Int) : List Int := nL l.length ++ zx l
def tS (i : Int) (l : List Int) : List Int := l.dropWhile fun f => decide (f ≤ i)
def wY : Nat → List (List Int) → List Int
 | _, [] => []
 | i, l :: r => sB (tS i l) ++ wY (i + 1) r
def zD (r : RuleM) : List Int := nL r.kind ++ nL r.head ++ sB r.body
def markB : List Int := [116, 104, 121, 1]
def B1 (T : Th) : List Int := markB ++ nL T.lits ++ wY 0 T.foes ++ nL T.rules.length ++ T.rules.flatMap zD ++ T.beats.flatMap sB
abbrev Er (α : Type) := Except (Int × Int) α
def wX (zs : List Int) : Nat → Nat → Er Unit
 | 0, _ => .ok ()
 | k + 1, i => if zs.length ≤ i then .error (8, i) else if zs.getD i 0 ≠ markB.getD i 0 then .error (1, i) else wX zs k (i + 1)
def sj (zs : List Int) (least below other : Int) (p : Nat) : Er (Int × Nat) :=
 if (jW zs p).2.2 ≠ 0 then .error ((jW zs p).2.2, (jW zs p).2.1)
 else if (jW zs p).1 < least ∨ below ≤ (jW zs p).1 then .error (other, p) else .ok ((jW zs p).1, (jW zs p).2.1.toNat)
def pO (zs : List Int) (most : Int) (p : Nat) : Er (Int × Nat) := sj zs 0 (most + 1) 3 p
def wS (zs : List Int) (below other : Int) : Nat → Int → List Int → Nat → Er (List Int × Nat)
 | 0, _, acc, p => .ok (acc, p)
 | k + 1, least, acc, p => sj zs least below other p >>= fun x => wS zs below other k (x.1 + 1) (acc ++ [x.1]) x.2
def sR (zs : List Int) (most least below other : Int) (p : Nat) : Er (List Int × Nat) := pO zs most p >>= fun x => wS zs below other x.1.toNat least [] x.2
def sP (i : Nat) : List (List Int) → List Int → List (List Int)
 | F, [] => F
 | F, f :: r => sP i ((F.modify i (· ++ [f])).modify f.toNat (· ++ [(i : Int)])) r
def wR (zs : List Int) (lits : Int) : Nat → Nat → List (List Int) → Nat → Er (List (List Int) × Nat)
 | 0, _, F, p => .ok (F, p)
 | k + 1, i, F, p => sR zs 64 (i + 1) lits 121 p >>= fun x => wR zs lits k (i + 1) (sP i F x.1) x.2
def uK (zs : List Int) (lits : Int) (p : Nat) : Er (RuleM × Nat) :=
 sj zs 1 4 122 p >>= fun k => sj zs 0 lits 122 k.2 >>= fun h => sR zs 16 0 lits 122 h.2 >>= fun b => .ok (⟨k.1, h.1, b.1⟩, b.2)
def tr (zs : List Int) (lits : Int) : Nat → List RuleM → Nat → Er (List RuleM × Nat)
 | 0, R, p => .ok (R, p)
 | k + 1, R, p => uK zs lits p >>= fun x => tr zs lits k (R ++ [x.1]) x.2
def t9 (zs : List Int) (rules : Int) : Nat → List (List Int) → Nat → Er (List (List Int) × Nat)
 | 0, R, p => .ok (R, p)
 | k + 1, R, p => sR zs 4096 0 rules 123 p >>= fun x => t9 zs rules k (R ++ [x.1]) x.2
def zI (zs : List Int) (T : Th) (p : Nat) : Er Th :=
 if p < zs.length then .error (9, p) else if (dV T).1 ≠ 0 then .error ((dV T).1, 0) else .ok T
def uA (zs : List Int) (lits : Int) (p : Nat) : Er (List RuleM × Nat) := pO zs 4096 p >>= fun x => tr zs lits x.1.toNat [] x.2
def wholeM (zs : List Int) : Er Th :=
 wX zs 4 0 >>= fun _ => pO zs 4096 4 >>= fun n => wR zs n.1 n.1.toNat 0 (List.replicate n.1.toNat []) n.2 >>= fun F =>
 uA zs n.1 F.2 >>= fun R => t9 zs R.1.length R.1.length [] R.2 >>= fun b => zI zs ⟨n.1, F.1, R.1, b.1⟩ b.2
def B4 : Th := ⟨2, [[1], [0]], [⟨2, 0, []⟩, ⟨2, 1, []⟩], [[1], []]⟩
def A0 : Th := ⟨2, [[1], [0]], [⟨2, 0, []⟩, ⟨2, 1, []⟩], [[1], [0]]⟩
end Go.Proofs.YtmlhcncagdfjfaaGreat
