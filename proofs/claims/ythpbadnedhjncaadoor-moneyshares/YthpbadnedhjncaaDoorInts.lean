/- What the walks say of a slice of integers of whatever kind: where its cells lie, what they hold; small laws about that. -/
import Derived.Test.YthpbadnedhjncaaDoorProg
import Derived.WalkKit
import Derived.WalkSpells
import Derived.WalkLawsBesides
namespace Go.Proofs.YthpbadnedhjncaaDoor
open Go.RowKit

theorem hide {p : Prop} (h : p) : Hid p := h

/-- The cells from an address on hold these numbers. -/
structure Nums (q : IntKind) (w : World) (a : Option Addr) (zs : List Int) : Prop where
  cells : zs ≠ [] → ∃ b off, a = some ⟨b, off, none⟩ ∧ ∀ i, i < zs.length → w.cell? ⟨b, off + i, none⟩ = some (.int q (zs.getD i 0))

theorem Nums.lt {q : IntKind} {w : World} {b off : Nat} {zs : List Int} (h : ∀ i, i < zs.length → w.cell? ⟨b, off + i, none⟩ = some (.int q (zs.getD i 0))) (hz : zs ≠ []) : b < w.heap.size := by
  have h0 := h 0 (by cases zs with | nil => exact absurd rfl hz | cons _ _ => simp)
  exact World.block_lt_of_cell? w ⟨b, off + 0, none⟩ h0

theorem Nums.below {q : IntKind} {B : Nat} {w w' : World} {a : Option Addr} {zs : List Int} (h : Nums q w a zs) (hb : Below B w w') (hB : w.heap.size ≤ B) : Nums q w' a zs := by
  refine ⟨fun hz => ?_⟩
  obtain ⟨b, off, rfl, hc⟩ := h.cells hz
  have hlt := Nums.lt hc hz
  exact ⟨b, off, rfl, fun i hi => (hb.cell (p := ⟨b, off + i, none⟩) (by simp; omega)).trans (hc i hi)⟩

theorem Nums.drew {q : IntKind} {w : World} {a : Option Addr} {zs : List Int} (h : Nums q w a zs) : Nums q w.drew a zs := ⟨h.cells⟩

theorem take_succ_getD (zs : List Int) (k : Nat) (h : k < zs.length) : zs.take (k + 1) = zs.take k ++ [zs[k]?.getD 0] := by
  rw [List.take_succ_eq_append_getElem h]; simp [h]

/-- One number of a row, by a name of its own. -/
theorem Nums.get {q : IntKind} {B : Nat} {w wr : World} {a : Option Addr} {zs : List Int} {len k : Nat} (h : Nums q w a zs) (hl : zs.length = len) (hb : Below B w wr) (hk : k < len) (hB : w.heap.size ≤ B := by omega) :
    ∃ b off c, a = some ⟨b, off, none⟩ ∧ wr.cell? ⟨b, off + k, none⟩ = some (.int q c) ∧ Hid (zs.take (k + 1) = zs.take k ++ [c]) ∧ Hid (c = zs.getD k 0) ∧ Hid (c ∈ zs) := by
  have hne : zs ≠ [] := by intro e; subst e; simp at hl; omega
  obtain ⟨b, off, rfl, hc⟩ := h.cells hne
  have hlt := Nums.lt hc hne
  have hkl : k < zs.length := by omega
  refine ⟨b, off, zs[k]?.getD 0, rfl, (hb.cell (p := ⟨b, off + k, none⟩) (by simp; omega)).trans ?_, take_succ_getD zs k hkl, by simp [Hid, List.getD], by simp [Hid, hkl]⟩
  simpa using hc k hkl

theorem own_shape {e : TypeId} {w : World} {base : Nat} {v : Value} {n : Nat} {xs : List Value} (h : w.ownsRow base e 1 v n xs) : ∃ a cap, v = .slice a n cap := by
  rcases h.2 with ⟨rfl, rfl⟩ | ⟨g, cap, cur, rfl, _⟩
  · exact ⟨none, 0, rfl⟩
  · exact ⟨_, _, rfl⟩

theorem own_below {e : TypeId} {w w' : World} {base B : Nat} {v : Value} {n : Nat} {xs : List Value} (h : w.ownsRow base e 1 v n xs) (hb : Below B w w') (hB : w.heap.size ≤ B) : w'.ownsRow base e 1 v n xs := by
  refine ⟨h.1, ?_⟩
  rcases h.2 with hn | ⟨g, cap, cur, rfl, hbg, hgg, rest⟩
  · exact .inl hn
  · refine .inr ⟨g, cap, cur, rfl, hbg, ?_, rest⟩
    rw [hb.block g (by have := (Array.getElem?_eq_some_iff.1 hgg).1; omega)]
    exact hgg

theorem own_nums {e : TypeId} {q : IntKind} {w : World} {base : Nat} {a : Option Addr} {n cap : Nat} {zs : List Int} (h : w.ownsRow base e 1 (.slice a n cap) n (zs.map (Value.int q))) :
    zs.length = n ∧ n ≤ cap ∧ cap ≤ maxLen ∧ (a = none → cap = 0) ∧ Nums q w a zs := by
  have hl : zs.length = n := by simpa using h.1
  rcases h.2 with ⟨e1, h0⟩ | ⟨g, cap', cur, e1, hbg, hg, hnc, hcm, hcs, htake⟩
  · simp only [Value.slice.injEq] at e1
    obtain ⟨rfl, rfl, rfl⟩ := e1
    exact ⟨hl, Nat.le_refl _, Nat.zero_le _, fun _ => rfl, ⟨fun hz => absurd (List.eq_nil_of_length_eq_zero hl) hz⟩⟩
  · simp only [Value.slice.injEq, true_and] at e1
    obtain ⟨rfl, rfl⟩ := e1
    refine ⟨hl, hnc, hcm, by simp, ⟨fun _ => ⟨g, 0, rfl, fun i hi => ?_⟩⟩⟩
    have := h.cellAt i (by omega)
    simp only [Nat.zero_add]
    rw [this]
    simp [List.getD, hi]

theorem one_cell (q : IntKind) (c : Int) : ∀ u ∈ [Value.int q c], u.oneCell' = true := by intro u hu; simp at hu; subst hu; rfl

theorem ret_bool {a b : Bool} (h : a = b) : Ending.returned (.bool a) = .returned (.bool b) := by rw [h]

theorem take_eq_step {xs ys : List Int} {k : Nat} {c d : Int} (hx : xs.take (k + 1) = xs.take k ++ [c]) (hy : ys.take (k + 1) = ys.take k ++ [d]) (h : xs.take k = ys.take k) (hcd : c = d) : xs.take (k + 1) = ys.take (k + 1) := by
  rw [hx, hy, h, hcd]

theorem take_ne {xs ys : List Int} {k : Nat} {c d : Int} (hx : xs.take (k + 1) = xs.take k ++ [c]) (hy : ys.take (k + 1) = ys.take k ++ [d]) (h : xs.take k = ys.take k) (hcd : c ≠ d) : xs ≠ ys := by
  intro e; subst e; rw [hx] at hy; exact hcd (by simpa using hy)

end Go.Proofs.YthpbadnedhjncaaDoor
