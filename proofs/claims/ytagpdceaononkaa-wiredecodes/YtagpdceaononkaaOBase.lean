/- What the walks say of a slice of bytes: where its cells lie, what they hold; small laws about that. -/
import Derived.Test.YtagpdceaononkaaProg
import Derived.WalkKit
import Derived.WalkSpells
import Derived.WalkLawsBesides
namespace Go.Proofs.Ytagpdceaononkaa
open Go.RowKit

theorem hide {p : Prop} (h : p) : Hid p := h

/-- The cells from an address on hold these bytes. -/
structure Row (w : World) (a : Option Addr) (zs : List Int) : Prop where
  cells : zs ≠ [] → ∃ b off, a = some ⟨b, off, none⟩ ∧ ∀ i, i < zs.length → w.cell? ⟨b, off + i, none⟩ = some (.int .u8 (zs.getD i 0))
  byte : ∀ i : Nat, 0 ≤ zs[i]?.getD 0 ∧ zs[i]?.getD 0 ≤ 255

theorem infoB : (Try.prog.info? 5).map (fun i => (i.zero, i.size, i.bytes)) = some (some (.int .u8 0), 1, 1) := by kernel_rfl

theorem Row.lt {w : World} {b off : Nat} {zs : List Int} (h : ∀ i, i < zs.length → w.cell? ⟨b, off + i, none⟩ = some (.int .u8 (zs.getD i 0))) (hz : zs ≠ []) : b < w.heap.size := by
  have h0 := h 0 (by cases zs with | nil => exact absurd rfl hz | cons _ _ => simp)
  exact World.block_lt_of_cell? w ⟨b, off + 0, none⟩ h0

theorem Row.below {B : Nat} {w w' : World} {a : Option Addr} {zs : List Int} (h : Row w a zs) (hb : Below B w w') (hB : w.heap.size ≤ B) : Row w' a zs := by
  refine ⟨fun hz => ?_, h.byte⟩
  obtain ⟨b, off, rfl, hc⟩ := h.cells hz
  have hlt := Row.lt hc hz
  exact ⟨b, off, rfl, fun i hi => (hb.cell (p := ⟨b, off + i, none⟩) (by simp; omega)).trans (hc i hi)⟩

/-- What the call itself owns: its shape, and where its cells lie. -/
theorem own_row {w : World} {base : Nat} {v : Value} {n : Nat} {zs : List Int} (h : w.ownsRow base 5 1 v n (zs.map (Value.int .u8))) (hb : ∀ i : Nat, 0 ≤ zs[i]?.getD 0 ∧ zs[i]?.getD 0 ≤ 255) :
    ∃ a cap, v = .slice a n cap ∧ zs.length = n ∧ n ≤ cap ∧ cap ≤ maxLen ∧ Row w a zs := by
  have hl : zs.length = n := by simpa using h.1
  rcases h.2 with ⟨rfl, rfl⟩ | ⟨g, cap, cur, rfl, hbg, hg, hnc, hcm, hcs, htake⟩
  · refine ⟨none, 0, rfl, hl, Nat.le_refl _, Nat.zero_le _, fun hz => ?_, hb⟩
    exact absurd (List.eq_nil_of_length_eq_zero hl) hz
  · refine ⟨some ⟨g, 0, none⟩, cap, rfl, hl, hnc, hcm, fun _ => ⟨g, 0, rfl, fun i hi => ?_⟩, hb⟩
    have := h.cellAt i (by omega)
    simp only [Nat.zero_add]
    rw [this]
    simp [List.getD, hi]

theorem own_shape {w : World} {base : Nat} {v : Value} {n : Nat} {xs : List Value} (h : w.ownsRow base 5 1 v n xs) : ∃ a cap, v = .slice a n cap := by
  rcases h.2 with ⟨rfl, rfl⟩ | ⟨g, cap, cur, rfl, _⟩
  · exact ⟨none, 0, rfl⟩
  · exact ⟨_, _, rfl⟩

/-- What is owned stays owned where nothing below is turned. -/
theorem own_below {w w' : World} {base B : Nat} {v : Value} {n : Nat} {xs : List Value} (h : w.ownsRow base 5 1 v n xs) (hb : Below B w w') (hB : w.heap.size ≤ B) : w'.ownsRow base 5 1 v n xs := by
  refine ⟨h.1, ?_⟩
  rcases h.2 with hn | ⟨g, cap, cur, rfl, hbg, hgg, rest⟩
  · exact .inl hn
  · refine .inr ⟨g, cap, cur, rfl, hbg, ?_, rest⟩
    rw [hb.block g (by have := (Array.getElem?_eq_some_iff.1 hgg).1; omega)]
    exact hgg

/-- The cells that a slice of its own has, as an append asks for them. -/
theorem own_news {w : World} {base : Nat} {a : Option Addr} {n cap : Nat} {zs : List Int} (h : w.ownsRow base 5 1 (.slice a n cap) n (zs.map (Value.int .u8))) (hn : n ≠ 0) :
    ∃ g, a = some ⟨g, 0, none⟩ ∧ base ≤ g ∧ g < w.heap.size ∧ ∀ j u, (zs.map (Value.int .u8))[j]? = some u → w.cell? ((⟨g, 0, none⟩ : Addr).add j) = some u := by
  rcases h.2 with ⟨_, h0⟩ | ⟨g, cap', cur, e, hbg, hgg, _⟩
  · exact absurd h0 hn
  · simp only [Value.slice.injEq, true_and] at e
    obtain ⟨rfl, rfl⟩ := e
    exact ⟨g, rfl, hbg, (Array.getElem?_eq_some_iff.1 hgg).1, h.cells (by simp [Value.ownBlock])⟩

theorem own_row' {w : World} {base : Nat} {a : Option Addr} {n cap : Nat} {zs : List Int} (h : w.ownsRow base 5 1 (.slice a n cap) n (zs.map (Value.int .u8))) (hb : ∀ i : Nat, 0 ≤ zs[i]?.getD 0 ∧ zs[i]?.getD 0 ≤ 255) :
    zs.length = n ∧ n ≤ cap ∧ cap ≤ maxLen ∧ (a = none → cap = 0) ∧ Row w a zs := by
  obtain ⟨a', cap', e, h1, h2, h3, h4⟩ := own_row h hb
  simp only [Value.slice.injEq, true_and] at e
  obtain ⟨rfl, rfl⟩ := e
  refine ⟨h1, h2, h3, fun ha => ?_, h4⟩
  rcases h.2 with ⟨e, _⟩ | ⟨g, cap', cur, e, _⟩
  · simp at e; omega
  · simp [ha] at e

theorem bytes_getD {zs : List Int} (h : ∀ z ∈ zs, 0 ≤ z ∧ z ≤ 255) (i : Nat) : 0 ≤ zs[i]?.getD 0 ∧ zs[i]?.getD 0 ≤ 255 := by
  by_cases hi : i < zs.length
  · simpa [hi] using h zs[i] (List.getElem_mem hi)
  · simp [hi]

theorem one_cell (c : Int) : ∀ u ∈ [Value.int .u8 c], u.oneCell' = true := by intro u hu; simp at hu; subst hu; rfl

theorem take_succ_getD (zs : List Int) (k : Nat) (h : k < zs.length) : zs.take (k + 1) = zs.take k ++ [zs[k]?.getD 0] := by
  rw [List.take_succ_eq_append_getElem h]; simp [h]

/-- One byte of a row, by a name of its own. -/
theorem Row.get {B : Nat} {w wr : World} {a : Option Addr} {zs : List Int} {len k : Nat} (h : Row w a zs) (hl : zs.length = len) (hb : Below B w wr) (hk : k < len) (hB : w.heap.size ≤ B := by omega) :
    ∃ b off c, a = some ⟨b, off, none⟩ ∧ wr.cell? ⟨b, off + k, none⟩ = some (.int .u8 c) ∧ Hid (zs.take (k + 1) = zs.take k ++ [c]) := by
  have hne : zs ≠ [] := by intro e; subst e; simp at hl; omega
  obtain ⟨b, off, rfl, hc⟩ := h.cells hne
  have hlt := Row.lt hc hne
  refine ⟨b, off, zs[k]?.getD 0, rfl, (hb.cell (p := ⟨b, off + k, none⟩) (by simp; omega)).trans ?_, take_succ_getD zs k (by omega)⟩
  simpa using hc k (by omega)

theorem Row.get' {B : Nat} {w wr : World} {a : Option Addr} {zs : List Int} {len k : Nat} (h : Row w a zs) (hl : zs.length = len) (hb : Below B w wr) (hk : k < len) (hB : w.heap.size ≤ B := by omega) :
    ∃ b off c, a = some ⟨b, off, none⟩ ∧ wr.cell? ⟨b, off + k, none⟩ = some (.int .u8 c) ∧ 0 ≤ c ∧ c ≤ 255 ∧ Hid (zs.take (k + 1) = zs.take k ++ [c]) := by
  have hne : zs ≠ [] := by intro e; subst e; simp at hl; omega
  obtain ⟨b, off, rfl, hc⟩ := h.cells hne
  have hlt := Row.lt hc hne
  refine ⟨b, off, zs[k]?.getD 0, rfl, (hb.cell (p := ⟨b, off + k, none⟩) (by simp; omega)).trans ?_, (h.byte k).1, (h.byte k).2, take_succ_getD zs k (by omega)⟩
  simpa using hc k (by omega)

end Go.Proofs.Ytagpdceaononkaa
