import Derived.Test.YthifoamnmhlghaaGreatProg
import Derived.WalkKit
import Derived.WalkSpells
import Derived.WalkLawsBesides
import Derived.Laws.BitsAllLaws
import Derived.RowKit
import Derived.KernelRfl
namespace Go.Proofs.YthifoamnmhlghaaGreat
open Go.RowKit
theorem hide {p : Prop} (h : p) : Hid p := h
structure Row (w : World) (a : Option Addr) (zs : List Int) : Prop where
 cells : zs ≠ [] → ∃ b off, a = some ⟨b, off, none⟩ ∧ ∀ i, i < zs.length → w.cell? ⟨b, off + i, none⟩ = some (.int .u8 (zs.getD i 0))
 byte : ∀ i : Nat, 0 ≤ zs[i]?.getD 0 ∧ zs[i]?.getD 0 ≤ 255
theorem Row.lt {w : World} {b off : Nat} {zs : List Int} (h : ∀ i, i < zs.length → w.cell? ⟨b, off + i, none⟩ = some (.int .u8 (zs.getD i 0))) (hz : zs ≠ []) : b < w.heap.size := by
 have h0 := h 0 (by cases zs with | nil => exact absurd rfl hz | cons _ _ => simp)
 exact World.block_lt_of_cell? w ⟨b, off + 0, none⟩ h0
theorem Row.below {B : Nat} {w w' : World} {a : Option Addr} {zs : List Int} (h : Row w a zs) (hb : Below B w w') (hB : w.heap.size ≤ B) : Row w' a zs := by
 refine ⟨fun hz => ?_, h.byte⟩
 obtain ⟨b, off, rfl, hc⟩ := h.cells hz
 have hlt := Row.lt hc hz
 exact ⟨b, off, rfl, fun i hi => (hb.cell (p := ⟨b, off + i, none⟩) (by simp; omega)).trans (hc i hi)⟩
theorem lQ (zs : List Int) (k : Nat) (h : k < zs.length) : zs.take (k + 1) = zs.take k ++ [zs[k]?.getD 0] := by
 rw [List.take_succ_eq_append_getElem h]; simp [h]
theorem Row.get {B : Nat} {w wr : World} {a : Option Addr} {zs : List Int} {len k : Nat} (h : Row w a zs) (hl : zs.length = len) (hb : Below B w wr) (hk : k < len) (hB : w.heap.size ≤ B := by omega) :
    ∃ b off c, a = some ⟨b, off, none⟩ ∧ wr.cell? ⟨b, off + k, none⟩ = some (.int .u8 c) ∧ Hid (zs.take (k + 1) = zs.take k ++ [c]) := by
 have hne : zs ≠ [] := by intro e; subst e; simp at hl; omega
 obtain ⟨b, off, rfl, hc⟩ := h.cells hne
 have hlt := Row.lt hc hne
 refine ⟨b, off, zs[k]?.getD 0, rfl, (hb.cell (p := ⟨b, off + k, none⟩) (by simp; omega)).trans ?_, lQ zs k (by omega)⟩
 simpa using hc k (by omega)
end Go.Proofs.YthifoamnmhlghaaGreat
namespace Go.Proofs.YthifoamnmhlghaaGreat
open Go.RowKit
def rd (len p : Int) : Nat → Int → List Int → Int × Int × Int
 | _, _, [] => (0, len, 8)
 | k, acc, c :: r =>
  if k = 9 ∧ 1 < c then (0, p, 11)
  else if 128 ≤ c then rd len p (k + 1) (acc + c % 128 * 2 ^ (7 * k)) r
  else if c = 0 ∧ 0 < k then (0, p, 11)
  else (acc + c % 128 * 2 ^ (7 * k), p + k + 1, 0)
def iQ (zs : List Int) (p : Int) : Int × Int × Int :=
 if p < 0 ∨ (zs.length : Int) < p then (0, p, 1) else rd zs.length p 0 0 (zs.drop p.toNat)
end Go.Proofs.YthifoamnmhlghaaGreat
namespace Go.Proofs.YthifoamnmhlghaaGreat
open Go.RowKit
def rY : Nat → Int → List Int
 | 0, n => [n]
 | f + 1, n => if n < 128 then [n] else (n % 128 + 128) :: rY f (n / 128)
end Go.Proofs.YthifoamnmhlghaaGreat
namespace Go.Proofs.YthifoamnmhlghaaGreat
structure RuleM where
 kind : Int
 head : Int
 body : List Int
 deriving DecidableEq
structure Th where
 lits : Int
 foes : List (List Int)
 rules : List RuleM
 beats : List (List Int)
 deriving DecidableEq
def uC : Th := ⟨0, [], [], []⟩
def bW (below : Int) : Int → List Int → Bool
 | _, [] => true
 | last, n :: r => if n ≤ last ∨ below ≤ n then false else bW below n r
def bT (l : List Int) (below : Int) : Bool := bW below (-1) l
def bN {α : Type} (p : Nat → α → Bool) : Nat → List α → Option Nat
 | _, [] => none
 | i, x :: r => if p i x then some i else bN p (i + 1) r
def row (F : List (List Int)) (z : Int) : List Int := F.getD z.toNat []
def fU (F : List (List Int)) (i : Nat) (l : List Int) : Bool := l.all fun f => decide ((i : Int) ∈ row F f)
def dR (T : Th) (i : Nat) (l : List Int) : Bool := decide (64 < l.length) || !bT l T.lits || decide ((i : Int) ∈ l) || !fU T.foes i l
def ig (c : Int) : Option Nat → Int × Int
 | none => (0, 0)
 | some i => (c, i)
def fh (T : Th) : Int × Int := if (T.foes.length : Int) ≠ T.lits then (121, 0) else ig 121 (bN (dR T) 0 T.foes)
def mB (z below : Int) : Bool := decide (0 ≤ z) && decide (z < below)
def dS (lits : Int) (r : RuleM) : Bool := (decide (r.kind = 1) || decide (r.kind = 2) || decide (r.kind = 3)) && mB r.head lits && decide (r.body.length ≤ 16) && bT r.body lits
def dC (T : Th) : Int × Int := if 4096 < T.rules.length then (111, 0) else ig 122 (bN (fun _ r => !dS T.lits r) 0 T.rules)
def cntM (T : Th) (z : Int) : Nat := (T.rules.filter fun r => decide (r.head = z)).length
def dv (T : Th) (i : Nat) : List Int → Nat
 | [] => 0
 | f :: r => cntM T i * cntM T f + dv T i r
def ca (T : Th) : Nat → List (List Int) → Nat
 | _, [] => 0
 | i, l :: r => dv T i l + ca T (i + 1) r
def pairsM (T : Th) : Nat := ca T 0 T.foes
def fS (T : Th) : Int × Int := if 65536 < pairsM T then (113, 0) else (0, 0)
def ag (T : Th) (z : Int) : Int := ((T.rules[z.toNat]?).map RuleM.head).getD 0
def dU (T : Th) (i : Nat) (l : List Int) : Bool := !bT l T.rules.length || !(l.all fun b => decide (ag T b ∈ row T.foes (ag T i)))
def dN (T : Th) : Int × Int := if T.beats.length ≠ T.rules.length then (123, 0) else ig 123 (bN (dU T) 0 T.beats)
structure Wk where
 came : List Int
 back : List Int
 clock : Int
 opn : List Int
 shut : List Bool
 knots : List (List Int)
def cA (first : Int) : List Int → List Int × List Int
 | [] => ([], [])
 | x :: r => if x = first then ([x], r) else (x :: (cA first r).1, (cA first r).2)
def cZ (sh : List Bool) : List Int → List Bool
 | [] => sh
 | x :: r => cZ (sh.set x.toNat true) r
def gY (first : Int) (s : Wk) : Wk :=
 { s with opn := (cA first s.opn.reverse).2.reverse, shut := cZ s.shut (cA first s.opn.reverse).1, knots := s.knots ++ [(cA first s.opn.reverse).1] }
def eZ (p : Int) (s : Wk) : Wk := { s with clock := s.clock + 1, came := s.came.set p.toNat (s.clock + 1), back := s.back.set p.toNat (s.clock + 1), opn := s.opn ++ [p] }
def dD (p o : Int) (s : Wk) : Wk := if s.shut.getD o.toNat false then s else { s with back := s.back.set p.toNat (min (s.back.getD p.toNat 0) (s.back.getD o.toNat 0)) }
def kk (p : Int) (s : Wk) : Wk := if s.back.getD p.toNat 0 = s.came.getD p.toNat 0 then gY p s else s
def bJ (vis : Int → Wk → Wk) (p : Int) : List Int → Wk → Wk
 | [], s => s
 | o :: r, s => bJ vis p r (dD p o (if s.came.getD o.toNat 0 = 0 then vis o s else s))
def aW (next : List (List Int)) : Nat → Int → Wk → Wk
 | 0, _, s => s
 | f + 1, p, s => kk p (bJ (aW next f) p (row next p) (eZ p s))
def gv (next : List (List Int)) (f : Nat) : Nat → Nat → Wk → Wk
 | 0, _, s => s
 | k + 1, i, s => gv next f k (i + 1) (if s.came.getD i 0 = 0 then aW next f i s else s)
def dk (n : Nat) : Wk := ⟨List.replicate n 0, List.replicate n 0, 0, [], List.replicate n false, []⟩
def gP (next : List (List Int)) : List (List Int) := (gv next next.length next.length 0 (dk next.length)).knots
def minM : List Int → Int
 | [] => 0
 | x :: r => r.foldl min x
def ip (low : Int) (k : List Int) : Int := if 1 < k.length then min low (minM k) else low
def jP (T : Th) : Int := (gP T.beats).foldl ip T.rules.length
def bL (T : Th) : Int × Int := if jP T < T.rules.length then (131, jP T) else (0, 0)
def eh (a b : Int × Int) : Int × Int := if a.1 = 0 then b else a
def dt (T : Th) : Int × Int := if T.lits < 0 ∨ 4096 < T.lits then (112, 0) else eh (fh T) (eh (dC T) (eh (fS T) (eh (dN T) (bL T))))
def lO (z : Int) : List Int := rY 9 z
def tZ (l : List Int) : List Int := l.flatMap lO
def oQ (l : List Int) : List Int := lO l.length ++ tZ l
def pP (i : Int) (l : List Int) : List Int := l.dropWhile fun f => decide (f ≤ i)
def sj : Nat → List (List Int) → List Int
 | _, [] => []
 | i, l :: r => oQ (pP i l) ++ sj (i + 1) r
def t9 (r : RuleM) : List Int := lO r.kind ++ lO r.head ++ oQ r.body
def markB : List Int := [116, 104, 121, 1]
def uE (T : Th) : List Int := markB ++ lO T.lits ++ sj 0 T.foes ++ lO T.rules.length ++ T.rules.flatMap t9 ++ T.beats.flatMap oQ
abbrev Er (α : Type) := Except (Int × Int) α
def se (zs : List Int) : Nat → Nat → Er Unit
 | 0, _ => .ok ()
 | k + 1, i => if zs.length ≤ i then .error (8, i) else if zs.getD i 0 ≠ markB.getD i 0 then .error (1, i) else se zs k (i + 1)
def ph (zs : List Int) (least below other : Int) (p : Nat) : Er (Int × Nat) :=
 if (iQ zs p).2.2 ≠ 0 then .error ((iQ zs p).2.2, (iQ zs p).2.1)
 else if (iQ zs p).1 < least ∨ below ≤ (iQ zs p).1 then .error (other, p) else .ok ((iQ zs p).1, (iQ zs p).2.1.toNat)
def mZ (zs : List Int) (most : Int) (p : Nat) : Er (Int × Nat) := ph zs 0 (most + 1) 3 p
def rU (zs : List Int) (below other : Int) : Nat → Int → List Int → Nat → Er (List Int × Nat)
 | 0, _, acc, p => .ok (acc, p)
 | k + 1, least, acc, p => ph zs least below other p >>= fun x => rU zs below other k (x.1 + 1) (acc ++ [x.1]) x.2
def pc (zs : List Int) (most least below other : Int) (p : Nat) : Er (List Int × Nat) := mZ zs most p >>= fun x => rU zs below other x.1.toNat least [] x.2
def pb (i : Nat) : List (List Int) → List Int → List (List Int)
 | F, [] => F
 | F, f :: r => pb i ((F.modify i (· ++ [f])).modify f.toNat (· ++ [(i : Int)])) r
def rW (zs : List Int) (lits : Int) : Nat → Nat → List (List Int) → Nat → Er (List (List Int) × Nat)
 | 0, _, F, p => .ok (F, p)
 | k + 1, i, F, p => pc zs 64 (i + 1) lits 121 p >>= fun x => rW zs lits k (i + 1) (pb i F x.1) x.2
def qW (zs : List Int) (lits : Int) (p : Nat) : Er (RuleM × Nat) :=
 ph zs 1 4 122 p >>= fun k => ph zs 0 lits 122 k.2 >>= fun h => pc zs 16 0 lits 122 h.2 >>= fun b => .ok (⟨k.1, h.1, b.1⟩, b.2)
def pw (zs : List Int) (lits : Int) : Nat → List RuleM → Nat → Er (List RuleM × Nat)
 | 0, R, p => .ok (R, p)
 | k + 1, R, p => qW zs lits p >>= fun x => pw zs lits k (R ++ [x.1]) x.2
def pZ (zs : List Int) (rules : Int) : Nat → List (List Int) → Nat → Er (List (List Int) × Nat)
 | 0, R, p => .ok (R, p)
 | k + 1, R, p => pc zs 4096 0 rules 123 p >>= fun x => pZ zs rules k (R ++ [x.1]) x.2
def t8 (zs : List Int) (T : Th) (p : Nat) : Er Th :=
 if p < zs.length then .error (9, p) else if (dt T).1 ≠ 0 then .error ((dt T).1, 0) else .ok T
def pY (zs : List Int) (lits : Int) (p : Nat) : Er (List RuleM × Nat) := mZ zs 4096 p >>= fun x => pw zs lits x.1.toNat [] x.2
def uz (zs : List Int) : Er Th :=
 se zs 4 0 >>= fun _ => mZ zs 4096 4 >>= fun n => rW zs n.1 n.1.toNat 0 (List.replicate n.1.toNat []) n.2 >>= fun F =>
 pY zs n.1 F.2 >>= fun R => pZ zs R.1.length R.1.length [] R.2 >>= fun b => t8 zs ⟨n.1, F.1, R.1, b.1⟩ b.2
def uH : Th := ⟨2, [[1], [0]], [⟨2, 0, []⟩, ⟨2, 1, []⟩], [[1], []]⟩
def uv : Th := ⟨2, [[1], [0]], [⟨2, 0, []⟩, ⟨2, 1, []⟩], [[1], [0]]⟩
end Go.Proofs.YthifoamnmhlghaaGreat
