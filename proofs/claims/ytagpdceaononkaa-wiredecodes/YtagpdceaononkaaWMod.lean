/- Steps as bytes, plainly: whether they may be, their bytes, how bytes are read. No Go in sight. -/
import Derived.Test.YtagpdceaononkaaOPlain
import Derived.Test.YtagpdceaononkaaCrc
namespace Go.Proofs.Ytagpdceaononkaa

structure StM where
  tag : Int
  lit : Int
  how : Int
  rule : Int
  ch : List (Int × Int)
  deriving DecidableEq
def wiM (n a b : Int) : Bool := decide (a ≤ n) && decide (n ≤ b)
theorem wi_iff {n a b : Int} : wiM n a b = true ↔ a ≤ n ∧ n ≤ b := by unfold wiM; simp
def chM (x : Int × Int) : Bool := wiM x.1 (-1) 15 && wiM x.2 (-1) 4095
def mayM (s : StM) : Bool := wiM s.tag 1 4 && wiM s.how 1 5 && (wiM s.lit 0 4095 && wiM s.rule (-1) 4095 && decide (s.ch.length ≤ 4096)) && s.ch.all chM
structure May (s : StM) : Prop where
  t0 : 1 ≤ s.tag
  t1 : s.tag ≤ 4
  h0 : 1 ≤ s.how
  h1 : s.how ≤ 5
  l0 : 0 ≤ s.lit
  l1 : s.lit ≤ 4095
  r0 : -1 ≤ s.rule
  r1 : s.rule ≤ 4095
  cl : s.ch.length ≤ 4096
  ch : ∀ x ∈ s.ch, (-1 ≤ x.1 ∧ x.1 ≤ 15) ∧ -1 ≤ x.2 ∧ x.2 ≤ 4095
theorem may_iff {s : StM} : mayM s = true ↔ May s := by
  unfold mayM
  simp only [Bool.and_eq_true, wi_iff, decide_eq_true_eq, List.all_eq_true, chM]
  constructor
  · rintro ⟨⟨⟨⟨a, b⟩, c, d⟩, ⟨⟨e, f⟩, g, h⟩, i⟩, j⟩
    exact ⟨a, b, c, d, e, f, g, h, i, j⟩
  · rintro ⟨a, b, c, d, e, f, g, h, i, j⟩
    exact ⟨⟨⟨⟨a, b⟩, c, d⟩, ⟨⟨e, f⟩, g, h⟩, i⟩, j⟩
def chkF : Nat → List StM → Int × Int
  | i, [] => (0, i)
  | i, s :: r => if mayM s then chkF (i + 1) r else (201, i)
def chkM (l : List StM) : Int × Int := if 65536 < l.length then (3, 0) else chkF 0 l
structure Okl (l : List StM) : Prop where
  len : l.length ≤ 65536
  may : ∀ s ∈ l, May s
theorem chkF_ok : ∀ {l : List StM} {i : Nat}, (chkF i l).1 = 0 → ∀ s ∈ l, May s
  | [], _, _, s, hs => by simp at hs
  | x :: r, i, h, s, hs => by
    unfold chkF at h
    split at h
    · rename_i hm
      rcases List.mem_cons.1 hs with rfl | hs
      · exact may_iff.1 hm
      · exact chkF_ok h s hs
    · cases h
theorem chkF_all : ∀ {l : List StM} {i : Nat}, (∀ s ∈ l, May s) → chkF i l = (0, ((i + l.length : Nat) : Int))
  | [], i, _ => by simp [chkF]
  | x :: r, i, h => by
    unfold chkF
    rw [if_pos (may_iff.2 (h x (by simp))), chkF_all fun s hs => h s (by simp [hs])]
    simp; omega
theorem chk_okl {l : List StM} (h : (chkM l).1 = 0) : Okl l := by
  unfold chkM at h
  split at h
  · cases h
  · exact ⟨by omega, chkF_ok h⟩
theorem okl_chk {l : List StM} (h : Okl l) : chkM l = (0, (l.length : Int)) := by
  unfold chkM
  rw [if_neg (by have := h.len; omega), chkF_all h.may]
  simp

/-! Bytes. -/
def numB (z : Int) : List Int := uintB 9 z
def choB (x : Int × Int) : List Int := numB (x.1 + 1) ++ numB (x.2 + 1)
def stB (s : StM) : List Int := [s.tag] ++ numB s.lit ++ [s.how] ++ numB (s.rule + 1) ++ numB s.ch.length ++ s.ch.flatMap choB
def markB : List Int := [108, 120, 100, 1]
def bodyB (l : List StM) : List Int := markB ++ numB l.length ++ l.flatMap stB
def fourB (n : Int) : List Int := [n % 256, n / 256 % 256, n / 65536 % 256, n / 16777216 % 256]
def encB (l : List StM) : List Int := bodyB l ++ fourB (crc (bodyB l))
abbrev Er (α : Type) := Except (Int × Int) α
def octM (zs : List Int) (a b : Int) (p : Nat) : Er (Int × Nat) := if zs.length ≤ p then .error (8, p) else if wiM (zs.getD p 0) a b then .ok (zs.getD p 0, p + 1) else .error (211, p)
def numM (zs : List Int) (most : Int) (p : Nat) : Er (Int × Nat) :=
  if (readU zs p).2.2 ≠ 0 then .error ((readU zs p).2.2, (readU zs p).2.1)
  else if most < (readU zs p).1 then .error (211, p) else .ok ((readU zs p).1, (readU zs p).2.1.toNat)
def raiM (zs : List Int) (most : Int) (p : Nat) : Er (Int × Nat) := numM zs (most + 1) p >>= fun x => .ok (x.1 - 1, x.2)
def chsM (zs : List Int) : Nat → List (Int × Int) → Nat → Er (List (Int × Int) × Nat)
  | 0, acc, p => .ok (acc, p)
  | k + 1, acc, p => raiM zs 15 p >>= fun x => raiM zs 4095 x.2 >>= fun y => chsM zs k (acc ++ [(x.1, y.1)]) y.2
def stpM (zs : List Int) (p : Nat) : Er (StM × Nat) := octM zs 1 4 p >>= fun t => numM zs 4095 t.2 >>= fun l => octM zs 1 5 l.2 >>= fun h => raiM zs 4095 h.2 >>= fun r => numM zs 4096 r.2 >>= fun n => chsM zs n.1.toNat [] n.2 >>= fun c => .ok (⟨t.1, l.1, h.1, r.1, c.1⟩, c.2)
def lstM (zs : List Int) : Nat → List StM → Nat → Er (List StM × Nat)
  | 0, acc, p => .ok (acc, p)
  | k + 1, acc, p => stpM zs p >>= fun s => lstM zs k (acc ++ [s.1]) s.2
def allM (zs : List Int) (p : Nat) : Er (List StM × Nat) := numM zs 65536 p >>= fun n => lstM zs n.1.toNat [] n.2
def markM (zs : List Int) : Nat → Nat → Er Unit
  | 0, _ => .ok ()
  | k + 1, i => octM zs (markB.getD i 0) (markB.getD i 0) i >>= fun _ => markM zs k (i + 1)
def sumM (zs : List Int) (p : Nat) : Er Nat := if zs.length < p + 4 then .error (8, zs.length) else if (zs.drop p).take 4 ≠ fourB (crc (zs.take p)) then .error (13, p) else .ok (p + 4)
def wholeM (zs : List Int) : Er (List StM) := markM zs 4 0 >>= fun _ => allM zs 4 >>= fun L => sumM zs L.2 >>= fun q => if q < zs.length then .error (9, q) else .ok L.1
end Go.Proofs.Ytagpdceaononkaa
