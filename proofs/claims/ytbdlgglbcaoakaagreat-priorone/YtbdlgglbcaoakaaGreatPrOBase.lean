/- What the walks say of a slice of bytes: where its cells lie, what they hold; small laws about that. -/
import Derived.Test.YtbdlgglbcaoakaaGreatProg
import Derived.WalkKit
import Derived.WalkSpells
import Derived.WalkLawsBesides
import Derived.Laws.BitsAllLaws
import Derived.RowKit
namespace Go.Proofs.YtbdlgglbcaoakaaGreat.Pr
open Go.RowKit

theorem hide {p : Prop} (h : p) : Hid p := h

/-- The cells from an address on hold these bytes. -/
structure Row (w : World) (a : Option Addr) (zs : List Int) : Prop where
  cells : zs ≠ [] → ∃ b off, a = some ⟨b, off, none⟩ ∧ ∀ i, i < zs.length → w.cell? ⟨b, off + i, none⟩ = some (.int .u8 (zs.getD i 0))
  byte : ∀ i : Nat, 0 ≤ zs[i]?.getD 0 ∧ zs[i]?.getD 0 ≤ 255

theorem infoB : (Tryz.prog.info? 5).map (fun i => (i.zero, i.size, i.bytes)) = some (some (.int .u8 0), 1, 1) := by kernel_rfl

theorem Row.lt {w : World} {b off : Nat} {zs : List Int} (h : ∀ i, i < zs.length → w.cell? ⟨b, off + i, none⟩ = some (.int .u8 (zs.getD i 0))) (hz : zs ≠ []) : b < w.heap.size := by
  have h0 := h 0 (by cases zs with | nil => exact absurd rfl hz | cons _ _ => simp)
  exact World.block_lt_of_cell? w ⟨b, off + 0, none⟩ h0

theorem Row.below {B : Nat} {w w' : World} {a : Option Addr} {zs : List Int} (h : Row w a zs) (hb : Below B w w') (hB : w.heap.size ≤ B) : Row w' a zs := by
  refine ⟨fun hz => ?_, h.byte⟩
  obtain ⟨b, off, rfl, hc⟩ := h.cells hz
  have hlt := Row.lt hc hz
  exact ⟨b, off, rfl, fun i hi => (hb.cell (p := ⟨b, off + i, none⟩) (by simp; omega)).trans (hc i hi)⟩

/-- What the call itself owns: its shape, and where its cells lie. -/
theorem own_row {w : World} {base : Nat} {v : Value} {n : Nat} {zs : List Int} (h : w.ownsRow base 5 1 v n (zs.map (Value.int .u8))) (hb : ∀ i : Nat, 0 ≤ zs[i]?.getD 0 ∧ zs[i]?.getD 0 ≤ 255) :
    ∃ a cap, v = .slice a n cap ∧ zs.length = n ∧ n ≤ cap ∧ cap ≤ maxLen ∧ Row w a zs := by
  have hl : zs.length = n := by simpa using h.1
  rcases h.2 with ⟨rfl, rfl⟩ | ⟨g, cap, cur, rfl, hbg, hg, hnc, hcm, hcs, htake⟩
  · refine ⟨none, 0, rfl, hl, Nat.le_refl _, Nat.zero_le _, fun hz => ?_, hb⟩
    exact absurd (List.eq_nil_of_length_eq_zero hl) hz
  · refine ⟨some ⟨g, 0, none⟩, cap, rfl, hl, hnc, hcm, fun _ => ⟨g, 0, rfl, fun i hi => ?_⟩, hb⟩
    have := h.cellAt i (by omega)
    simp only [Nat.zero_add]
    rw [this]
    simp [List.getD, hi]

theorem own_shape {w : World} {base : Nat} {v : Value} {n : Nat} {xs : List Value} (h : w.ownsRow base 5 1 v n xs) : ∃ a cap, v = .slice a n cap := by
  rcases h.2 with ⟨rfl, rfl⟩ | ⟨g, cap, cur, rfl, _⟩
  · exact ⟨none, 0, rfl⟩
  · exact ⟨_, _, rfl⟩

/-- What is owned stays owned where nothing below is turned. -/
theorem own_below {w w' : World} {base B : Nat} {v : Value} {n : Nat} {xs : List Value} (h : w.ownsRow base 5 1 v n xs) (hb : Below B w w') (hB : w.heap.size ≤ B) : w'.ownsRow base 5 1 v n xs := by
  refine ⟨h.1, ?_⟩
  rcases h.2 with hn | ⟨g, cap, cur, rfl, hbg, hgg, rest⟩
  · exact .inl hn
  · refine .inr ⟨g, cap, cur, rfl, hbg, ?_, rest⟩
    rw [hb.block g (by have := (Array.getElem?_eq_some_iff.1 hgg).1; omega)]
    exact hgg

/-- The cells that a slice of its own has, as an append asks for them. -/
theorem own_news {w : World} {base : Nat} {a : Option Addr} {n cap : Nat} {zs : List Int} (h : w.ownsRow base 5 1 (.slice a n cap) n (zs.map (Value.int .u8))) (hn : n ≠ 0) :
    ∃ g, a = some ⟨g, 0, none⟩ ∧ base ≤ g ∧ g < w.heap.size ∧ ∀ j u, (zs.map (Value.int .u8))[j]? = some u → w.cell? ((⟨g, 0, none⟩ : Addr).add j) = some u := by
  rcases h.2 with ⟨_, h0⟩ | ⟨g, cap', cur, e, hbg, hgg, _⟩
  · exact absurd h0 hn
  · simp only [Value.slice.injEq, true_and] at e
    obtain ⟨rfl, rfl⟩ := e
    exact ⟨g, rfl, hbg, (Array.getElem?_eq_some_iff.1 hgg).1, h.cells (by simp [Value.ownBlock])⟩

theorem own_row' {w : World} {base : Nat} {a : Option Addr} {n cap : Nat} {zs : List Int} (h : w.ownsRow base 5 1 (.slice a n cap) n (zs.map (Value.int .u8))) (hb : ∀ i : Nat, 0 ≤ zs[i]?.getD 0 ∧ zs[i]?.getD 0 ≤ 255) :
    zs.length = n ∧ n ≤ cap ∧ cap ≤ maxLen ∧ (a = none → cap = 0) ∧ Row w a zs := by
  obtain ⟨a', cap', e, h1, h2, h3, h4⟩ := own_row h hb
  simp only [Value.slice.injEq, true_and] at e
  obtain ⟨rfl, rfl⟩ := e
  refine ⟨h1, h2, h3, fun ha => ?_, h4⟩
  rcases h.2 with ⟨e, _⟩ | ⟨g, cap', cur, e, _⟩
  · simp at e; omega
  · simp [ha] at e

theorem bytes_getD {zs : List Int} (h : ∀ z ∈ zs, 0 ≤ z ∧ z ≤ 255) (i : Nat) : 0 ≤ zs[i]?.getD 0 ∧ zs[i]?.getD 0 ≤ 255 := by
  by_cases hi : i < zs.length
  · simpa [hi] using h zs[i] (List.getElem_mem hi)
  · simp [hi]

theorem one_cell (c : Int) : ∀ u ∈ [Value.int .u8 c], u.oneCell' = true := by intro u hu; simp at hu; subst hu; rfl

theorem take_succ_getD (zs : List Int) (k : Nat) (h : k < zs.length) : zs.take (k + 1) = zs.take k ++ [zs[k]?.getD 0] := by
  rw [List.take_succ_eq_append_getElem h]; simp [h]

/-- One byte of a row, by a name of its own. -/
theorem Row.get {B : Nat} {w wr : World} {a : Option Addr} {zs : List Int} {len k : Nat} (h : Row w a zs) (hl : zs.length = len) (hb : Below B w wr) (hk : k < len) (hB : w.heap.size ≤ B := by omega) :
    ∃ b off c, a = some ⟨b, off, none⟩ ∧ wr.cell? ⟨b, off + k, none⟩ = some (.int .u8 c) ∧ Hid (zs.take (k + 1) = zs.take k ++ [c]) := by
  have hne : zs ≠ [] := by intro e; subst e; simp at hl; omega
  obtain ⟨b, off, rfl, hc⟩ := h.cells hne
  have hlt := Row.lt hc hne
  refine ⟨b, off, zs[k]?.getD 0, rfl, (hb.cell (p := ⟨b, off + k, none⟩) (by simp; omega)).trans ?_, take_succ_getD zs k (by omega)⟩
  simpa using hc k (by omega)

theorem Row.get' {B : Nat} {w wr : World} {a : Option Addr} {zs : List Int} {len k : Nat} (h : Row w a zs) (hl : zs.length = len) (hb : Below B w wr) (hk : k < len) (hB : w.heap.size ≤ B := by omega) :
    ∃ b off c, a = some ⟨b, off, none⟩ ∧ wr.cell? ⟨b, off + k, none⟩ = some (.int .u8 c) ∧ 0 ≤ c ∧ c ≤ 255 ∧ Hid (zs.take (k + 1) = zs.take k ++ [c]) := by
  have hne : zs ≠ [] := by intro e; subst e; simp at hl; omega
  obtain ⟨b, off, rfl, hc⟩ := h.cells hne
  have hlt := Row.lt hc hne
  refine ⟨b, off, zs[k]?.getD 0, rfl, (hb.cell (p := ⟨b, off + k, none⟩) (by simp; omega)).trans ?_, (h.byte k).1, (h.byte k).2, take_succ_getD zs k (by omega)⟩
  simpa using hc k (by omega)

end Go.Proofs.YtbdlgglbcaoakaaGreat.Pr
/- The plain mathematics of numbers as bytes: seven bits a byte, how such bytes are read, how they are laid. No Go in sight. -/
namespace Go.Proofs.YtbdlgglbcaoakaaGreat.Pr
open Go.RowKit

theorem and127 (c : Int) (h0 : 0 ≤ c) (h1 : c ≤ 255) : bits .and .u8 c 127 = c % 128 := by
  rw [u8_and c 127 h0 (by omega) (by omega) (by omega)]
  have : (127 : Int).toNat = 127 := rfl
  rw [this, nat_mask7]
  omega

theorem or128 (c : Int) (h0 : 0 ≤ c) (h1 : c ≤ 255) : bits .or .u8 c 128 = c % 128 + 128 := by
  obtain ⟨n, rfl⟩ := Int.eq_ofNat_of_zero_le h0
  have h : ∀ m, m < 256 → m ||| 128 = m % 128 + 128 := by decide +kernel
  rw [u8_or _ 128 h0 (by omega) (by omega) (by omega)]
  have : (128 : Int).toNat = 128 := rfl
  rw [this, Int.toNat_natCast, h n (by omega)]
  omega

theorem acc_step (acc d : Int) (k : Nat) (h0 : 0 ≤ acc) (h1 : acc < 2 ^ (7 * k)) (hd0 : 0 ≤ d) (hd1 : d ≤ 127) (hk : k < 9 ∨ (k = 9 ∧ d ≤ 1)) :
    bits .or .u64 acc (IntKind.u64.wrap (IntKind.u64.wrap d * 2 ^ (7 * k))) = acc + d * 2 ^ (7 * k) := by
  obtain ⟨a, rfl⟩ := Int.eq_ofNat_of_zero_le h0
  obtain ⟨x, rfl⟩ := Int.eq_ofNat_of_zero_le hd0
  have hx : x ≤ 127 := by omega
  have e1 : IntKind.u64.wrap (x : Int) = x := by rw [IntKind.wrap_u64]; omega
  have hlt : x * 2 ^ (7 * k) < 18446744073709551616 := by
    rcases hk with h | ⟨rfl, h⟩
    · have : 2 ^ (7 * k) ≤ 2 ^ 56 := Nat.pow_le_pow_right (by decide) (by omega)
      have : x * 2 ^ (7 * k) ≤ 127 * 2 ^ 56 := Nat.mul_le_mul hx this
      omega
    · have : x ≤ 1 := by omega
      have : x * 2 ^ (7 * 9) ≤ 1 * 2 ^ 63 := Nat.mul_le_mul this (by decide)
      omega
  have e2 : ((x : Int) * 2 ^ (7 * k)) = ((x * 2 ^ (7 * k) : Nat) : Int) := by simp
  have e3 : IntKind.u64.wrap ((x * 2 ^ (7 * k) : Nat) : Int) = ((x * 2 ^ (7 * k) : Nat) : Int) := by rw [IntKind.wrap_u64]; omega
  have ha : a < 2 ^ (7 * k) := by
    have : ((a : Nat) : Int) < ((2 ^ (7 * k) : Nat) : Int) := by simpa using h1
    omega
  have ha2 : a < 18446744073709551616 := by
    have : 2 ^ (7 * k) ≤ 2 ^ 63 := Nat.pow_le_pow_right (by decide) (by omega)
    omega
  rw [e1, e2, e3, u64_or_nat a _ ha2 hlt, Nat.or_comm, nat_join (7 * k) _ a (by simp) ha]
  omega

/-- Reading from a place on: k bytes are read, they make acc. -/
def rd (len p : Int) : Nat → Int → List Int → Int × Int × Int
  | _, _, [] => (0, len, 8)
  | k, acc, c :: r =>
    if k = 9 ∧ 1 < c then (0, p, 11)
    else if 128 ≤ c then rd len p (k + 1) (acc + c % 128 * 2 ^ (7 * k)) r
    else if c = 0 ∧ 0 < k then (0, p, 11)
    else (acc + c % 128 * 2 ^ (7 * k), p + k + 1, 0)

def readU (zs : List Int) (p : Int) : Int × Int × Int :=
  if p < 0 ∨ (zs.length : Int) < p then (0, p, 1) else rd zs.length p 0 0 (zs.drop p.toNat)

theorem acc_next (acc d : Int) (k : Nat) (h1 : acc < 2 ^ (7 * k)) (hd1 : d ≤ 127) : acc + d * 2 ^ (7 * k) < 2 ^ (7 * (k + 1)) := by
  have e : (2 : Int) ^ (7 * (k + 1)) = 128 * 2 ^ (7 * k) := by rw [Nat.mul_add, Int.pow_add]; omega
  have hp : (0 : Int) < 2 ^ (7 * k) := Int.pow_pos (by decide)
  have : d * 2 ^ (7 * k) ≤ 127 * 2 ^ (7 * k) := Int.mul_le_mul_of_nonneg_right hd1 (by omega)
  omega

theorem acc_pos (acc d : Int) (k : Nat) (h0 : 0 ≤ acc) (hd0 : 0 ≤ d) : 0 ≤ acc + d * 2 ^ (7 * k) := by
  have hp : (0 : Int) < 2 ^ (7 * k) := Int.pow_pos (by decide)
  have : 0 ≤ d * 2 ^ (7 * k) := Int.mul_nonneg hd0 (by omega)
  omega

theorem drop_cons (zs : List Int) (i : Nat) (h : i < zs.length) : zs.drop i = zs.getD i 0 :: zs.drop (i + 1) := by
  rw [List.drop_eq_getElem_cons h]; simp [List.getD, h]

end Go.Proofs.YtbdlgglbcaoakaaGreat.Pr
