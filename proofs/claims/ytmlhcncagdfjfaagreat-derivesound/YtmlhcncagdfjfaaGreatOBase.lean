import Derived.Test.YtmlhcncagdfjfaaGreatProg
import Derived.WalkKit
import Derived.WalkSpells
import Derived.WalkLawsBesides
import Derived.Laws.BitsAllLaws
import Derived.RowKit
import Derived.KernelRfl
namespace Go.Proofs.YtmlhcncagdfjfaaGreat
open Go.RowKit
theorem hide {p : Prop} (h : p) : Hid p := h
structure Gx (w : World) (a : Option Addr) (zs : List Int) : Prop where
 cells : zs ≠ [] → ∃ b off, a = some ⟨b, off, none⟩ ∧ ∀ i, i < zs.length → w.cell? ⟨b, off + i, none⟩ = some (.int .u8 (zs.getD i 0))
 byte : ∀ i : Nat, 0 ≤ zs[i]?.getD 0 ∧ zs[i]?.getD 0 ≤ 255
def rd (len p : Int) : Nat → Int → List Int → Int × Int × Int
 | _, _, [] => (0, len, 8)
 | k, acc, c :: r =>
  if k = 9 ∧ 1 < c then (0, p, 11)
  else if 128 ≤ c then rd len p (k + 1) (acc + c % 128 * 2 ^ (7 * k)) r
  else if c = 0 ∧ 0 < k then (0, p, 11)
  else (acc + c % 128 * 2 ^ (7 * k), p + k + 1, 0)
def lO (zs : List Int) (p : Int) : Int × Int × Int :=
 if p < 0 ∨ (zs.length : Int) < p then (0, p, 1) else rd zs.length p 0 0 (zs.drop p.toNat)
def yN : Nat → Int → List Int
 | 0, n => [n]
 | f + 1, n => if n < 128 then [n] else (n % 128 + 128) :: yN f (n / 128)
end Go.Proofs.YtmlhcncagdfjfaaGreat
namespace Go.Proofs.YtmlhcncagdfjfaaGreat
structure RuleM where
 kind : Int
 head : Int
 body : List Int
 deriving DecidableEq
structure Th where
 lits : Int
 foes : List (List Int)
 rules : List RuleM
 beats : List (List Int)
 deriving DecidableEq
def Gs : Th := ⟨0, [], [], []⟩
def cS (below : Int) : Int → List Int → Bool
 | _, [] => true
 | last, n :: r => if n ≤ last ∨ below ≤ n then false else cS below n r
def cE (l : List Int) (below : Int) : Bool := cS below (-1) l
def cD {α : Type} (p : Nat → α → Bool) : Nat → List α → Option Nat
 | _, [] => none
 | i, x :: r => if p i x then some i else cD p (i + 1) r
def row (F : List (List Int)) (z : Int) : List Int := F.getD z.toNat []
def iT (F : List (List Int)) (i : Nat) (l : List Int) : Bool := l.all fun f => decide ((i : Int) ∈ row F f)
def eR (T : Th) (i : Nat) (l : List Int) : Bool := decide (64 < l.length) || !cE l T.lits || decide ((i : Int) ∈ l) || !iT T.foes i l
def jM (c : Int) : Option Nat → Int × Int
 | none => (0, 0)
 | some i => (c, i)
def gM (T : Th) : Int × Int := if (T.foes.length : Int) ≠ T.lits then (121, 0) else jM 121 (cD (eR T) 0 T.foes)
def cG (z below : Int) : Bool := decide (0 ≤ z) && decide (z < below)
def eO (lits : Int) (r : RuleM) : Bool := (decide (r.kind = 1) || decide (r.kind = 2) || decide (r.kind = 3)) && cG r.head lits && decide (r.body.length ≤ 16) && cE r.body lits
def ey (T : Th) : Int × Int := if 4096 < T.rules.length then (111, 0) else jM 122 (cD (fun _ r => !eO T.lits r) 0 T.rules)
def cntM (T : Th) (z : Int) : Nat := (T.rules.filter fun r => decide (r.head = z)).length
def eo (T : Th) (i : Nat) : List Int → Nat
 | [] => 0
 | f :: r => cntM T i * cntM T f + eo T i r
def cX (T : Th) : Nat → List (List Int) → Nat
 | _, [] => 0
 | i, l :: r => eo T i l + cX T (i + 1) r
def pairsM (T : Th) : Nat := cX T 0 T.foes
def iF (T : Th) : Int × Int := if 65536 < pairsM T then (113, 0) else (0, 0)
def ah (T : Th) (z : Int) : Int := ((T.rules[z.toNat]?).map RuleM.head).getD 0
def eW (T : Th) (i : Nat) (l : List Int) : Bool := !cE l T.rules.length || !(l.all fun b => decide (ah T b ∈ row T.foes (ah T i)))
def eM (T : Th) : Int × Int := if T.beats.length ≠ T.rules.length then (123, 0) else jM 123 (cD (eW T) 0 T.beats)
structure Wk where
 came : List Int
 back : List Int
 clock : Int
 opn : List Int
 shut : List Bool
 knots : List (List Int)
def dl (first : Int) : List Int → List Int × List Int
 | [] => ([], [])
 | x :: r => if x = first then ([x], r) else (x :: (dl first r).1, (dl first r).2)
def dJ (sh : List Bool) : List Int → List Bool
 | [] => sh
 | x :: r => dJ (sh.set x.toNat true) r
def jQ (first : Int) (s : Wk) : Wk :=
 { s with opn := (dl first s.opn.reverse).2.reverse, shut := dJ s.shut (dl first s.opn.reverse).1, knots := s.knots ++ [(dl first s.opn.reverse).1] }
def gG (p : Int) (s : Wk) : Wk := { s with clock := s.clock + 1, came := s.came.set p.toNat (s.clock + 1), back := s.back.set p.toNat (s.clock + 1), opn := s.opn ++ [p] }
def eD (p o : Int) (s : Wk) : Wk := if s.shut.getD o.toNat false then s else { s with back := s.back.set p.toNat (min (s.back.getD p.toNat 0) (s.back.getD o.toNat 0)) }
def nO (p : Int) (s : Wk) : Wk := if s.back.getD p.toNat 0 = s.came.getD p.toNat 0 then jQ p s else s
def ct (vis : Int → Wk → Wk) (p : Int) : List Int → Wk → Wk
 | [], s => s
 | o :: r, s => ct vis p r (eD p o (if s.came.getD o.toNat 0 = 0 then vis o s else s))
def bh (next : List (List Int)) : Nat → Int → Wk → Wk
 | 0, _, s => s
 | f + 1, p, s => nO p (ct (bh next f) p (row next p) (gG p s))
def eachM (next : List (List Int)) (f : Nat) : Nat → Nat → Wk → Wk
 | 0, _, s => s
 | k + 1, i, s => eachM next f k (i + 1) (if s.came.getD i 0 = 0 then bh next f i s else s)
def dU (n : Nat) : Wk := ⟨List.replicate n 0, List.replicate n 0, 0, [], List.replicate n false, []⟩
def jB (next : List (List Int)) : List (List Int) := (eachM next next.length next.length 0 (dU next.length)).knots
def minM : List Int → Int
 | [] => 0
 | x :: r => r.foldl min x
def kj (low : Int) (k : List Int) : Int := if 1 < k.length then min low (minM k) else low
def mR (T : Th) : Int := (jB T.beats).foldl kj T.rules.length
def ci (T : Th) : Int × Int := if mR T < T.rules.length then (131, mR T) else (0, 0)
def fJ (a b : Int × Int) : Int × Int := if a.1 = 0 then b else a
def dA (T : Th) : Int × Int := if T.lits < 0 ∨ 4096 < T.lits then (112, 0) else fJ (gM T) (fJ (ey T) (fJ (iF T) (fJ (eM T) (ci T))))
def pM (z : Int) : List Int := yN 9 z
def FX (l : List Int) : List Int := l.flatMap pM
def uf (l : List Int) : List Int := pM l.length ++ FX l
def vi (i : Int) (l : List Int) : List Int := l.dropWhile fun f => decide (f ≤ i)
def yS : Nat → List (List Int) → List Int
 | _, [] => []
 | i, l :: r => uf (vi i l) ++ yS (i + 1) r
def FR (r : RuleM) : List Int := pM r.kind ++ pM r.head ++ uf r.body
def markB : List Int := [116, 104, 121, 1]
def Gt (T : Th) : List Int := markB ++ pM T.lits ++ yS 0 T.foes ++ pM T.rules.length ++ T.rules.flatMap FR ++ T.beats.flatMap uf
abbrev Er (α : Type) := Except (Int × Int) α
def yV (zs : List Int) : Nat → Nat → Er Unit
 | 0, _ => .ok ()
 | k + 1, i => if zs.length ≤ i then .error (8, i) else if zs.getD i 0 ≠ markB.getD i 0 then .error (1, i) else yV zs k (i + 1)
def uF (zs : List Int) (least below other : Int) (p : Nat) : Er (Int × Nat) :=
 if (lO zs p).2.2 ≠ 0 then .error ((lO zs p).2.2, (lO zs p).2.1)
 else if (lO zs p).1 < least ∨ below ≤ (lO zs p).1 then .error (other, p) else .ok ((lO zs p).1, (lO zs p).2.1.toNat)
def rY (zs : List Int) (most : Int) (p : Nat) : Er (Int × Nat) := uF zs 0 (most + 1) 3 p
def yL (zs : List Int) (below other : Int) : Nat → Int → List Int → Nat → Er (List Int × Nat)
 | 0, _, acc, p => .ok (acc, p)
 | k + 1, least, acc, p => uF zs least below other p >>= fun x => yL zs below other k (x.1 + 1) (acc ++ [x.1]) x.2
def uv (zs : List Int) (most least below other : Int) (p : Nat) : Er (List Int × Nat) := rY zs most p >>= fun x => yL zs below other x.1.toNat least [] x.2
def ui (i : Nat) : List (List Int) → List Int → List (List Int)
 | F, [] => F
 | F, f :: r => ui i ((F.modify i (· ++ [f])).modify f.toNat (· ++ [(i : Int)])) r
def zc (zs : List Int) (lits : Int) : Nat → Nat → List (List Int) → Nat → Er (List (List Int) × Nat)
 | 0, _, F, p => .ok (F, p)
 | k + 1, i, F, p => uv zs 64 (i + 1) lits 121 p >>= fun x => zc zs lits k (i + 1) (ui i F x.1) x.2
def yk (zs : List Int) (lits : Int) (p : Nat) : Er (RuleM × Nat) :=
 uF zs 1 4 122 p >>= fun k => uF zs 0 lits 122 k.2 >>= fun h => uv zs 16 0 lits 122 h.2 >>= fun b => .ok (⟨k.1, h.1, b.1⟩, b.2)
def vS (zs : List Int) (lits : Int) : Nat → List RuleM → Nat → Er (List RuleM × Nat)
 | 0, R, p => .ok (R, p)
 | k + 1, R, p => yk zs lits p >>= fun x => vS zs lits k (R ++ [x.1]) x.2
def ve (zs : List Int) (rules : Int) : Nat → List (List Int) → Nat → Er (List (List Int) × Nat)
 | 0, R, p => .ok (R, p)
 | k + 1, R, p => uv zs 4096 0 rules 123 p >>= fun x => ve zs rules k (R ++ [x.1]) x.2
def FV (zs : List Int) (T : Th) (p : Nat) : Er Th :=
 if p < zs.length then .error (9, p) else if (dA T).1 ≠ 0 then .error ((dA T).1, 0) else .ok T
def vA (zs : List Int) (lits : Int) (p : Nat) : Er (List RuleM × Nat) := rY zs 4096 p >>= fun x => vS zs lits x.1.toNat [] x.2
def wholeM (zs : List Int) : Er Th :=
 yV zs 4 0 >>= fun _ => rY zs 4096 4 >>= fun n => zc zs n.1 n.1.toNat 0 (List.replicate n.1.toNat []) n.2 >>= fun F =>
 vA zs n.1 F.2 >>= fun R => ve zs R.1.length R.1.length [] R.2 >>= fun b => FV zs ⟨n.1, F.1, R.1, b.1⟩ b.2
def GC : Th := ⟨2, [[1], [0]], [⟨2, 0, []⟩, ⟨2, 1, []⟩], [[1], []]⟩
def Gn : Th := ⟨2, [[1], [0]], [⟨2, 0, []⟩, ⟨2, 1, []⟩], [[1], [0]]⟩
end Go.Proofs.YtmlhcncagdfjfaaGreat
