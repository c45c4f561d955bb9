/- What the walks say of a slice of bytes: where its cells lie, what they hold; small laws about that. -/
import Derived.Test.YtdmnoeooljofcaaProg
import Derived.WalkKit
import Derived.WalkSpells
import Derived.WalkLawsBesides
import Derived.Laws.BitsAllLaws
import Derived.RowKit
import Derived.KernelRfl
namespace Go.Proofs.Ytdmnoeooljofcaa
open Go.RowKit

theorem hide {p : Prop} (h : p) : Hid p := h

/-- The cells from an address on hold these bytes. -/
structure Row (w : World) (a : Option Addr) (zs : List Int) : Prop where
  cells : zs ≠ [] → ∃ b off, a = some ⟨b, off, none⟩ ∧ ∀ i, i < zs.length → w.cell? ⟨b, off + i, none⟩ = some (.int .u8 (zs.getD i 0))
  byte : ∀ i : Nat, 0 ≤ zs[i]?.getD 0 ∧ zs[i]?.getD 0 ≤ 255

theorem infoB : (Try.prog.info? 5).map (fun i => (i.zero, i.size, i.bytes)) = some (some (.int .u8 0), 1, 1) := by kernel_rfl

theorem Row.lt {w : World} {b off : Nat} {zs : List Int} (h : ∀ i, i < zs.length → w.cell? ⟨b, off + i, none⟩ = some (.int .u8 (zs.getD i 0))) (hz : zs ≠ []) : b < w.heap.size := by
  have h0 := h 0 (by cases zs with | nil => exact absurd rfl hz | cons _ _ => simp)
  exact World.block_lt_of_cell? w ⟨b, off + 0, none⟩ h0

theorem Row.below {B : Nat} {w w' : World} {a : Option Addr} {zs : List Int} (h : Row w a zs) (hb : Below B w w') (hB : w.heap.size ≤ B) : Row w' a zs := by
  refine ⟨fun hz => ?_, h.byte⟩
  obtain ⟨b, off, rfl, hc⟩ := h.cells hz
  have hlt := Row.lt hc hz
  exact ⟨b, off, rfl, fun i hi => (hb.cell (p := ⟨b, off + i, none⟩) (by simp; omega)).trans (hc i hi)⟩

/-- The cells that a slice of its own has, as an append asks for them. -/
theorem own_news {w : World} {base : Nat} {a : Option Addr} {n cap : Nat} {zs : List Int} (h : w.ownsRow base 5 1 (.slice a n cap) n (zs.map (Value.int .u8))) (hn : n ≠ 0) :
    ∃ g, a = some ⟨g, 0, none⟩ ∧ base ≤ g ∧ g < w.heap.size ∧ ∀ j u, (zs.map (Value.int .u8))[j]? = some u → w.cell? ((⟨g, 0, none⟩ : Addr).add j) = some u := by
  rcases h.2 with ⟨_, h0⟩ | ⟨g, cap', cur, e, hbg, hgg, _⟩
  · exact absurd h0 hn
  · simp only [Value.slice.injEq, true_and] at e
    obtain ⟨rfl, rfl⟩ := e
    exact ⟨g, rfl, hbg, (Array.getElem?_eq_some_iff.1 hgg).1, h.cells (by simp [Value.ownBlock])⟩

theorem one_cell (c : Int) : ∀ u ∈ [Value.int .u8 c], u.oneCell' = true := by intro u hu; simp at hu; subst hu; rfl

theorem take_succ_getD (zs : List Int) (k : Nat) (h : k < zs.length) : zs.take (k + 1) = zs.take k ++ [zs[k]?.getD 0] := by
  rw [List.take_succ_eq_append_getElem h]; simp [h]

/-- One byte of a row, by a name of its own. -/
theorem Row.get {B : Nat} {w wr : World} {a : Option Addr} {zs : List Int} {len k : Nat} (h : Row w a zs) (hl : zs.length = len) (hb : Below B w wr) (hk : k < len) (hB : w.heap.size ≤ B := by omega) :
    ∃ b off c, a = some ⟨b, off, none⟩ ∧ wr.cell? ⟨b, off + k, none⟩ = some (.int .u8 c) ∧ Hid (zs.take (k + 1) = zs.take k ++ [c]) := by
  have hne : zs ≠ [] := by intro e; subst e; simp at hl; omega
  obtain ⟨b, off, rfl, hc⟩ := h.cells hne
  have hlt := Row.lt hc hne
  refine ⟨b, off, zs[k]?.getD 0, rfl, (hb.cell (p := ⟨b, off + k, none⟩) (by simp; omega)).trans ?_, take_succ_getD zs k (by omega)⟩
  simpa using hc k (by omega)

end Go.Proofs.Ytdmnoeooljofcaa
/- The plain mathematics of numbers as bytes: seven bits a byte, how such bytes are read, how they are laid. No Go in sight. -/
namespace Go.Proofs.Ytdmnoeooljofcaa
open Go.RowKit

theorem and127 (c : Int) (h0 : 0 ≤ c) (h1 : c ≤ 255) : bits .and .u8 c 127 = c % 128 := by
  rw [u8_and c 127 h0 (by omega) (by omega) (by omega)]
  have : (127 : Int).toNat = 127 := rfl
  rw [this, nat_mask7]
  omega

theorem or128 (c : Int) (h0 : 0 ≤ c) (h1 : c ≤ 255) : bits .or .u8 c 128 = c % 128 + 128 := by
  obtain ⟨n, rfl⟩ := Int.eq_ofNat_of_zero_le h0
  have h : ∀ m, m < 256 → m ||| 128 = m % 128 + 128 := by decide +kernel
  rw [u8_or _ 128 h0 (by omega) (by omega) (by omega)]
  have : (128 : Int).toNat = 128 := rfl
  rw [this, Int.toNat_natCast, h n (by omega)]
  omega

theorem acc_step (acc d : Int) (k : Nat) (h0 : 0 ≤ acc) (h1 : acc < 2 ^ (7 * k)) (hd0 : 0 ≤ d) (hd1 : d ≤ 127) (hk : k < 9 ∨ (k = 9 ∧ d ≤ 1)) :
    bits .or .u64 acc (IntKind.u64.wrap (IntKind.u64.wrap d * 2 ^ (7 * k))) = acc + d * 2 ^ (7 * k) := by
  obtain ⟨a, rfl⟩ := Int.eq_ofNat_of_zero_le h0
  obtain ⟨x, rfl⟩ := Int.eq_ofNat_of_zero_le hd0
  have hx : x ≤ 127 := by omega
  have e1 : IntKind.u64.wrap (x : Int) = x := by rw [IntKind.wrap_u64]; omega
  have hlt : x * 2 ^ (7 * k) < 18446744073709551616 := by
    rcases hk with h | ⟨rfl, h⟩
    · have : 2 ^ (7 * k) ≤ 2 ^ 56 := Nat.pow_le_pow_right (by decide) (by omega)
      have : x * 2 ^ (7 * k) ≤ 127 * 2 ^ 56 := Nat.mul_le_mul hx this
      omega
    · have : x ≤ 1 := by omega
      have : x * 2 ^ (7 * 9) ≤ 1 * 2 ^ 63 := Nat.mul_le_mul this (by decide)
      omega
  have e2 : ((x : Int) * 2 ^ (7 * k)) = ((x * 2 ^ (7 * k) : Nat) : Int) := by simp
  have e3 : IntKind.u64.wrap ((x * 2 ^ (7 * k) : Nat) : Int) = ((x * 2 ^ (7 * k) : Nat) : Int) := by rw [IntKind.wrap_u64]; omega
  have ha : a < 2 ^ (7 * k) := by
    have : ((a : Nat) : Int) < ((2 ^ (7 * k) : Nat) : Int) := by simpa using h1
    omega
  have ha2 : a < 18446744073709551616 := by
    have : 2 ^ (7 * k) ≤ 2 ^ 63 := Nat.pow_le_pow_right (by decide) (by omega)
    omega
  rw [e1, e2, e3, u64_or_nat a _ ha2 hlt, Nat.or_comm, nat_join (7 * k) _ a (by simp) ha]
  omega

/-- Reading from a place on: k bytes are read, they make acc. -/
def rd (len p : Int) : Nat → Int → List Int → Int × Int × Int
  | _, _, [] => (0, len, 8)
  | k, acc, c :: r =>
    if k = 9 ∧ 1 < c then (0, p, 11)
    else if 128 ≤ c then rd len p (k + 1) (acc + c % 128 * 2 ^ (7 * k)) r
    else if c = 0 ∧ 0 < k then (0, p, 11)
    else (acc + c % 128 * 2 ^ (7 * k), p + k + 1, 0)

def readU (zs : List Int) (p : Int) : Int × Int × Int :=
  if p < 0 ∨ (zs.length : Int) < p then (0, p, 1) else rd zs.length p 0 0 (zs.drop p.toNat)

theorem acc_next (acc d : Int) (k : Nat) (h1 : acc < 2 ^ (7 * k)) (hd1 : d ≤ 127) : acc + d * 2 ^ (7 * k) < 2 ^ (7 * (k + 1)) := by
  have e : (2 : Int) ^ (7 * (k + 1)) = 128 * 2 ^ (7 * k) := by rw [Nat.mul_add, Int.pow_add]; omega
  have hp : (0 : Int) < 2 ^ (7 * k) := Int.pow_pos (by decide)
  have : d * 2 ^ (7 * k) ≤ 127 * 2 ^ (7 * k) := Int.mul_le_mul_of_nonneg_right hd1 (by omega)
  omega

theorem acc_pos (acc d : Int) (k : Nat) (h0 : 0 ≤ acc) (hd0 : 0 ≤ d) : 0 ≤ acc + d * 2 ^ (7 * k) := by
  have hp : (0 : Int) < 2 ^ (7 * k) := Int.pow_pos (by decide)
  have : 0 ≤ d * 2 ^ (7 * k) := Int.mul_nonneg hd0 (by omega)
  omega

theorem drop_cons (zs : List Int) (i : Nat) (h : i < zs.length) : zs.drop i = zs.getD i 0 :: zs.drop (i + 1) := by
  rw [List.drop_eq_getElem_cons h]; simp [List.getD, h]

end Go.Proofs.Ytdmnoeooljofcaa
/- Numbers as bytes: laid, read, there and back. No Go in sight. -/
namespace Go.Proofs.Ytdmnoeooljofcaa
open Go.RowKit

/-- A number's bytes: seven bits a byte, the lowest first. -/
def uintB : Nat → Int → List Int
  | 0, n => [n]
  | f + 1, n => if n < 128 then [n] else (n % 128 + 128) :: uintB f (n / 128)

theorem wrap8 (m : Int) : IntKind.u8.wrap m = m % 256 := IntKind.wrap_u8' m

theorem or_byte (m : Int) : bits .or .u8 (IntKind.u8.wrap m) 128 = m % 128 + 128 := by
  rw [wrap8, or128 _ (by omega) (by omega)]
  omega

theorem uintB_more {f : Nat} {n m : Int} {fuel : Nat} {pre : List Int} (h : uintB fuel n = pre ++ uintB (f + 1) m) (hm : 128 ≤ m) :
    uintB fuel n = (pre ++ [m % 128 + 128]) ++ uintB f (m / 128) := by
  rw [h, uintB, if_neg (by omega)]; simp

theorem uintB_last {f : Nat} {n m : Int} {fuel : Nat} {pre : List Int} (h : uintB fuel n = pre ++ uintB f m) (hm : m < 128) :
    uintB fuel n = pre ++ [m] := by
  rw [h]; cases f with
  | zero => rw [uintB]
  | succ f => rw [uintB, if_pos hm]

theorem fuel_more {k : Nat} {m : Int} (hk : k ≤ 9) (hb : m < 128 ^ (10 - k)) (hm : 128 ≤ m) : k < 9 ∧ m / 128 < 128 ^ (10 - (k + 1)) := by
  have h9 : k < 9 := by
    rcases Nat.lt_or_ge k 9 with h | h
    · exact h
    · have : k = 9 := by omega
      subst this
      simp at hb
      omega
  refine ⟨h9, ?_⟩
  have e : 10 - k = (10 - (k + 1)) + 1 := by omega
  rw [e, Int.pow_succ] at hb
  exact Int.ediv_lt_of_lt_mul (by decide) hb

theorem uintB_byte : ∀ (f : Nat) (n : Int), 0 ≤ n → n < 128 ^ (f + 1) → ∀ z ∈ uintB f n, 0 ≤ z ∧ z ≤ 255 := by
  intro f
  induction f with
  | zero => intro n h0 h1 z hz; simp [uintB] at hz; simp at h1; omega
  | succ f ih =>
    intro n h0 h1 z hz
    rw [uintB] at hz
    split at hz
    · simp at hz; omega
    · rcases List.mem_cons.1 hz with h | h
      · omega
      · exact ih (n / 128) (by omega) (by rw [Int.pow_succ] at h1; exact Int.ediv_lt_of_lt_mul (by decide) h1) z h

theorem uintB_pos (f : Nat) (n : Int) : (uintB f n).length ≠ 0 := by
  cases f with
  | zero => simp [uintB]
  | succ f => rw [uintB]; split <;> simp

theorem uintB_len : ∀ (f : Nat) (n : Int), (uintB f n).length ≤ f + 1 := by
  intro f
  induction f with
  | zero => intro n; simp [uintB]
  | succ f ih => intro n; rw [uintB]; split
                 · simp
                 · have := ih (n / 128); simp; omega

theorem pow_next (k : Nat) : (2 : Int) ^ (7 * (k + 1)) = 128 * 2 ^ (7 * k) := by
  rw [Nat.mul_add, Int.pow_add]; omega

theorem pow_pos7 (k : Nat) : (0 : Int) < 2 ^ (7 * k) := Int.pow_pos (by decide)

/-- The last byte of a number. -/
theorem rd_last (len p : Int) (k : Nat) (acc m : Int) (rest : List Int) (h0 : 0 ≤ m) (h1 : m < 128) (hk : 0 < k → 0 < m) (h9 : k = 9 → m ≤ 1) : rd len p k acc (m :: rest) = (acc + m * 2 ^ (7 * k), p + k + 1, 0) := by
  rw [rd, if_neg (by omega), if_neg (by omega), if_neg (by omega), show m % 128 = m by omega]

/-- A number that was laid is read. -/
theorem rd_uint : ∀ (f : Nat) (len p : Int) (k : Nat) (acc m : Int) (rest : List Int), k + f = 9 → 0 ≤ m → m * 2 ^ (7 * k) < 18446744073709551616 → (0 < k → 0 < m) →
    rd len p k acc (uintB f m ++ rest) = (acc + m * 2 ^ (7 * k), p + k + (uintB f m).length, 0) := by
  intro f
  induction f with
  | zero =>
    intro len p k acc m rest hkf h0 hb hk
    have hk9 : k = 9 := by omega
    subst hk9
    have hm : m ≤ 1 := by
      have e : (2 : Int) ^ (7 * 9) = 9223372036854775808 := by decide
      rw [e] at hb
      omega
    have h := rd_last len p 9 acc m rest h0 (by omega) hk (fun _ => hm)
    rw [uintB]
    exact h
  | succ f ih =>
    intro len p k acc m rest hkf h0 hb hk
    rw [uintB]
    by_cases hm : m < 128
    · rw [if_pos hm]
      exact rd_last len p k acc m rest h0 hm hk (by omega)
    · rw [if_neg hm, List.cons_append, rd, if_neg (by omega), if_pos (by omega)]
      have hp := pow_pos7 k
      have hb2 : m / 128 * 2 ^ (7 * (k + 1)) < 18446744073709551616 := by
        rw [pow_next]
        have e : m / 128 * (128 * 2 ^ (7 * k)) = (m / 128 * 128) * 2 ^ (7 * k) := by rw [Int.mul_assoc]
        have le : (m / 128 * 128) * 2 ^ (7 * k) ≤ m * 2 ^ (7 * k) := Int.mul_le_mul_of_nonneg_right (by omega) (by omega)
        rw [e]; omega
      rw [ih len p (k + 1) _ (m / 128) rest (by omega) (by omega) hb2 (fun _ => by omega)]
      have e1 : (m % 128 + 128) % 128 = m % 128 := by omega
      have e2 : acc + m % 128 * 2 ^ (7 * k) + m / 128 * 2 ^ (7 * (k + 1)) = acc + m * 2 ^ (7 * k) := by
        rw [pow_next, show m / 128 * (128 * 2 ^ (7 * k)) = (m / 128 * 128) * 2 ^ (7 * k) by rw [Int.mul_assoc], Int.add_assoc, ← Int.add_mul]
        congr 2
        omega
      rw [e1, e2, List.length_cons]
      congr 2
      omega

theorem readU_uint (ahead rest : List Int) (n : Int) (h0 : 0 ≤ n) (h1 : n < 18446744073709551616) : readU (ahead ++ (uintB 9 n ++ rest)) ahead.length = (n, (ahead.length : Int) + (uintB 9 n).length, 0) := by
  unfold readU
  rw [if_neg (by simp; omega)]
  have e : ((ahead.length : Int)).toNat = ahead.length := by omega
  rw [e, List.drop_left, rd_uint 9 _ _ 0 0 n rest rfl h0 (by simpa using h1) (by omega)]
  simp

/-- What is read is laid so. -/
theorem rd_laid : ∀ (l : List Int) (len p : Int) (k : Nat) (acc n to : Int), rd len p k acc l = (n, to, 0) → k ≤ 9 → (∀ z ∈ l, 0 ≤ z ∧ z ≤ 255) →
    ∃ (m : Int) (j : Nat), 0 ≤ m ∧ (0 < k → 0 < m) ∧ n = acc + m * 2 ^ (7 * k) ∧ to = p + k + j ∧ uintB (9 - k) m = l.take j := by
  intro l
  induction l with
  | nil => intro len p k acc n to h; simp [rd] at h
  | cons c r ih =>
    intro len p k acc n to h hk hb
    have hc := hb c (by simp)
    rw [rd] at h
    by_cases c1 : k = 9 ∧ 1 < c
    · rw [if_pos c1] at h; simp at h
    · rw [if_neg c1] at h
      by_cases c2 : 128 ≤ c
      · rw [if_pos c2] at h
        have hk9 : k < 9 := by omega
        obtain ⟨m, j, hm0, hmk, hn, ht, hu⟩ := ih len p (k + 1) _ n to h (by omega) (fun z hz => hb z (by simp [hz]))
        have hm := hmk (by omega)
        refine ⟨c % 128 + 128 * m, j + 1, by omega, fun _ => by omega, ?_, by omega, ?_⟩
        · rw [hn, pow_next, show m * (128 * 2 ^ (7 * k)) = (128 * m) * 2 ^ (7 * k) by rw [← Int.mul_assoc, Int.mul_comm m], Int.add_assoc, ← Int.add_mul]
        · rw [show 9 - k = (9 - (k + 1)) + 1 by omega, uintB, if_neg (by omega), show (c % 128 + 128 * m) / 128 = m by omega, hu, List.take_succ_cons]
          congr 1
          omega
      · rw [if_neg c2] at h
        by_cases c3 : c = 0 ∧ 0 < k
        · rw [if_pos c3] at h; simp at h
        · rw [if_neg c3] at h
          simp only [Prod.mk.injEq] at h
          obtain ⟨hn, ht, _⟩ := h
          refine ⟨c, 1, hc.1, fun _ => by omega, ?_, by omega, ?_⟩
          · rw [← hn, show c % 128 = c by omega]
          · simp only [List.take_succ_cons, List.take_zero]
            cases h9 : 9 - k with
            | zero => rw [uintB]
            | succ f => rw [uintB, if_pos (by omega)]

end Go.Proofs.Ytdmnoeooljofcaa
/- Theories, plainly: whether one may be, its bytes, how bytes are read. No Go in sight. -/
namespace Go.Proofs.Ytdmnoeooljofcaa

structure RuleM where
  kind : Int
  head : Int
  body : List Int
  deriving DecidableEq
structure Th where
  lits : Int
  foes : List (List Int)
  rules : List RuleM
  beats : List (List Int)
  deriving DecidableEq
def noTh : Th := ⟨0, [], [], []⟩

/-- Do numbers rise, above last and below that one? -/
def risesF (below : Int) : Int → List Int → Bool
  | _, [] => true
  | last, n :: r => if n ≤ last ∨ below ≤ n then false else risesF below n r
def risesM (l : List Int) (below : Int) : Bool := risesF below (-1) l
/-- The first place with a fault. -/
def firstB {α : Type} (p : Nat → α → Bool) : Nat → List α → Option Nat
  | _, [] => none
  | i, x :: r => if p i x then some i else firstB p (i + 1) r
def row (F : List (List Int)) (z : Int) : List Int := F.getD z.toNat []
def returnedM (F : List (List Int)) (i : Nat) (l : List Int) : Bool := l.all fun f => decide ((i : Int) ∈ row F f)
def badFoe (T : Th) (i : Nat) (l : List Int) : Bool := decide (64 < l.length) || !risesM l T.lits || decide ((i : Int) ∈ l) || !returnedM T.foes i l
def atM (c : Int) : Option Nat → Int × Int
  | none => (0, 0)
  | some i => (c, i)
def foeM (T : Th) : Int × Int := if (T.foes.length : Int) ≠ T.lits then (121, 0) else atM 121 (firstB (badFoe T) 0 T.foes)
def inM (z below : Int) : Bool := decide (0 ≤ z) && decide (z < below)
def okRule (lits : Int) (r : RuleM) : Bool := (decide (r.kind = 1) || decide (r.kind = 2) || decide (r.kind = 3)) && inM r.head lits && decide (r.body.length ≤ 16) && risesM r.body lits
def ruleM (T : Th) : Int × Int := if 4096 < T.rules.length then (111, 0) else atM 122 (firstB (fun _ r => !okRule T.lits r) 0 T.rules)
/-- How many rules each literal has. -/
def cntM (T : Th) (z : Int) : Nat := (T.rules.filter fun r => decide (r.head = z)).length
def pairsRow (T : Th) (i : Nat) : List Int → Nat
  | [] => 0
  | f :: r => cntM T i * cntM T f + pairsRow T i r
def pairsFrom (T : Th) : Nat → List (List Int) → Nat
  | _, [] => 0
  | i, l :: r => pairsRow T i l + pairsFrom T (i + 1) r
def pairsM (T : Th) : Nat := pairsFrom T 0 T.foes
def pairM (T : Th) : Int × Int := if 65536 < pairsM T then (113, 0) else (0, 0)
def headOf (T : Th) (z : Int) : Int := ((T.rules[z.toNat]?).map RuleM.head).getD 0
def badBeat (T : Th) (i : Nat) (l : List Int) : Bool := !risesM l T.rules.length || !(l.all fun b => decide (headOf T b ∈ row T.foes (headOf T i)))
def beatM (T : Th) : Int × Int := if T.beats.length ≠ T.rules.length then (123, 0) else atM 123 (firstB (badBeat T) 0 T.beats)

/-! A walk, deep first. -/
structure Wk where
  came : List Int
  back : List Int
  clock : Int
  opn : List Int
  shut : List Bool
  knots : List (List Int)
/-- What is taken off the open ones, the last first, up to that one; what is left. -/
def popM (first : Int) : List Int → List Int × List Int
  | [] => ([], [])
  | x :: r => if x = first then ([x], r) else (x :: (popM first r).1, (popM first r).2)
def shutAll (sh : List Bool) : List Int → List Bool
  | [] => sh
  | x :: r => shutAll (sh.set x.toNat true) r
def shutM (first : Int) (s : Wk) : Wk :=
  { s with opn := (popM first s.opn.reverse).2.reverse, shut := shutAll s.shut (popM first s.opn.reverse).1, knots := s.knots ++ [(popM first s.opn.reverse).1] }
def comeM (p : Int) (s : Wk) : Wk := { s with clock := s.clock + 1, came := s.came.set p.toNat (s.clock + 1), back := s.back.set p.toNat (s.clock + 1), opn := s.opn ++ [p] }
def lowerM (p o : Int) (s : Wk) : Wk := if s.shut.getD o.toNat false then s else { s with back := s.back.set p.toNat (min (s.back.getD p.toNat 0) (s.back.getD o.toNat 0)) }
def endM (p : Int) (s : Wk) : Wk := if s.back.getD p.toNat 0 = s.came.getD p.toNat 0 then shutM p s else s
def othersM (vis : Int → Wk → Wk) (p : Int) : List Int → Wk → Wk
  | [], s => s
  | o :: r, s => othersM vis p r (lowerM p o (if s.came.getD o.toNat 0 = 0 then vis o s else s))
def visitM (next : List (List Int)) : Nat → Int → Wk → Wk
  | 0, _, s => s
  | f + 1, p, s => endM p (othersM (visitM next f) p (row next p) (comeM p s))
def eachM (next : List (List Int)) (f : Nat) : Nat → Nat → Wk → Wk
  | 0, _, s => s
  | k + 1, i, s => eachM next f k (i + 1) (if s.came.getD i 0 = 0 then visitM next f i s else s)
def startM (n : Nat) : Wk := ⟨List.replicate n 0, List.replicate n 0, 0, [], List.replicate n false, []⟩
def knotsM (next : List (List Int)) : List (List Int) := (eachM next next.length next.length 0 (startM next.length)).knots
def minM : List Int → Int
  | [] => 0
  | x :: r => r.foldl min x
def lowM (low : Int) (k : List Int) : Int := if 1 < k.length then min low (minM k) else low
def lowestM (T : Th) : Int := (knotsM T.beats).foldl lowM T.rules.length
def circleM (T : Th) : Int × Int := if lowestM T < T.rules.length then (131, lowestM T) else (0, 0)
def orM (a b : Int × Int) : Int × Int := if a.1 = 0 then b else a
def checkM (T : Th) : Int × Int := if T.lits < 0 ∨ 4096 < T.lits then (112, 0) else orM (foeM T) (orM (ruleM T) (orM (pairM T) (orM (beatM T) (circleM T))))

/-! Bytes. -/
def numB (z : Int) : List Int := uintB 9 z
def numsB (l : List Int) : List Int := l.flatMap numB
def listB (l : List Int) : List Int := numB l.length ++ numsB l
def aboveM (i : Int) (l : List Int) : List Int := l.dropWhile fun f => decide (f ≤ i)
def foesB : Nat → List (List Int) → List Int
  | _, [] => []
  | i, l :: r => listB (aboveM i l) ++ foesB (i + 1) r
def ruleB (r : RuleM) : List Int := numB r.kind ++ numB r.head ++ listB r.body
def markB : List Int := [116, 104, 121, 1]
def encM (T : Th) : List Int := markB ++ numB T.lits ++ foesB 0 T.foes ++ numB T.rules.length ++ T.rules.flatMap ruleB ++ T.beats.flatMap listB

abbrev Er (α : Type) := Except (Int × Int) α
def markM (zs : List Int) : Nat → Nat → Er Unit
  | 0, _ => .ok ()
  | k + 1, i => if zs.length ≤ i then .error (8, i) else if zs.getD i 0 ≠ markB.getD i 0 then .error (1, i) else markM zs k (i + 1)
def numM (zs : List Int) (least below other : Int) (p : Nat) : Er (Int × Nat) :=
  if (readU zs p).2.2 ≠ 0 then .error ((readU zs p).2.2, (readU zs p).2.1)
  else if (readU zs p).1 < least ∨ below ≤ (readU zs p).1 then .error (other, p) else .ok ((readU zs p).1, (readU zs p).2.1.toNat)
def countM (zs : List Int) (most : Int) (p : Nat) : Er (Int × Nat) := numM zs 0 (most + 1) 3 p
def numsM (zs : List Int) (below other : Int) : Nat → Int → List Int → Nat → Er (List Int × Nat)
  | 0, _, acc, p => .ok (acc, p)
  | k + 1, least, acc, p => numM zs least below other p >>= fun x => numsM zs below other k (x.1 + 1) (acc ++ [x.1]) x.2
def listM (zs : List Int) (most least below other : Int) (p : Nat) : Er (List Int × Nat) := countM zs most p >>= fun x => numsM zs below other x.1.toNat least [] x.2
def giveM (i : Nat) : List (List Int) → List Int → List (List Int)
  | F, [] => F
  | F, f :: r => giveM i ((F.modify i (· ++ [f])).modify f.toNat (· ++ [(i : Int)])) r
def foesM (zs : List Int) (lits : Int) : Nat → Nat → List (List Int) → Nat → Er (List (List Int) × Nat)
  | 0, _, F, p => .ok (F, p)
  | k + 1, i, F, p => listM zs 64 (i + 1) lits 121 p >>= fun x => foesM zs lits k (i + 1) (giveM i F x.1) x.2
def oneRuleM (zs : List Int) (lits : Int) (p : Nat) : Er (RuleM × Nat) :=
  numM zs 1 4 122 p >>= fun k => numM zs 0 lits 122 k.2 >>= fun h => listM zs 16 0 lits 122 h.2 >>= fun b => .ok (⟨k.1, h.1, b.1⟩, b.2)
def rulesM (zs : List Int) (lits : Int) : Nat → List RuleM → Nat → Er (List RuleM × Nat)
  | 0, R, p => .ok (R, p)
  | k + 1, R, p => oneRuleM zs lits p >>= fun x => rulesM zs lits k (R ++ [x.1]) x.2
def beatsM (zs : List Int) (rules : Int) : Nat → List (List Int) → Nat → Er (List (List Int) × Nat)
  | 0, R, p => .ok (R, p)
  | k + 1, R, p => listM zs 4096 0 rules 123 p >>= fun x => beatsM zs rules k (R ++ [x.1]) x.2
def tailM (zs : List Int) (T : Th) (p : Nat) : Er Th :=
  if p < zs.length then .error (9, p) else if (checkM T).1 ≠ 0 then .error ((checkM T).1, 0) else .ok T
def allRulesM (zs : List Int) (lits : Int) (p : Nat) : Er (List RuleM × Nat) := countM zs 4096 p >>= fun x => rulesM zs lits x.1.toNat [] x.2
def wholeM (zs : List Int) : Er Th :=
  markM zs 4 0 >>= fun _ => countM zs 4096 4 >>= fun n => foesM zs n.1 n.1.toNat 0 (List.replicate n.1.toNat []) n.2 >>= fun F =>
  allRulesM zs n.1 F.2 >>= fun R => beatsM zs R.1.length R.1.length [] R.2 >>= fun b => tailM zs ⟨n.1, F.1, R.1, b.1⟩ b.2

def two : Th := ⟨2, [[1], [0]], [⟨2, 0, []⟩, ⟨2, 1, []⟩], [[1], []]⟩
def twoBad : Th := ⟨2, [[1], [0]], [⟨2, 0, []⟩, ⟨2, 1, []⟩], [[1], [0]]⟩
theorem two_ok : checkM two = (0, 0) := by decide +kernel
theorem two_bad : checkM twoBad = (131, 0) := by decide +kernel
theorem two_back : wholeM (encM two) = .ok two := by kernel_rfl
theorem two_pairs : pairsM two = 2 := by decide +kernel
end Go.Proofs.Ytdmnoeooljofcaa
