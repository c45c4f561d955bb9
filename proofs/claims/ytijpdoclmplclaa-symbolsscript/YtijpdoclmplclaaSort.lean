/- The list by name. -/
import Derived.Test.YtijpdoclmplclaaOrd
import Derived.Test.YtijpdoclmplclaaNames
import Derived.Test.YtijpdoclmplclaaShelfC
import Derived.Shelf.SlSortCmp.NoneTotal
import Derived.Deep.QuietTactic
namespace Go.Proofs.Ytijpdoclmplclaa
open Go.RowKit Go.Shelf Go.Maps Go.WideMaps Go.Lib Go.Sort

/-- How two names stand to one another. -/
def cf (l : List Bytes) (x y : Fin l.length) : Int := Lib.compareBytes (l.getD x.val []) (l.getD y.val [])
def enc (l : List Bytes) (x : Fin l.length) : Value := .int .i64 (x.val : Int)
theorem lt_cf (l : List Bytes) (x y : Fin l.length) : ltOf (cf l) x y = ltB (l.getD x.val []) (l.getD y.val []) := compare_lt _ _
theorem swo (l : List Bytes) : SWO (ltOf (cf l)) where
  irrefl x := by rw [lt_cf]; exact ltB_irrefl _
  trans x y z h k := by rw [lt_cf] at *; exact ltB_trans _ _ _ h k
  ntrans x y z h k := by rw [lt_cf] at *; exact ltB_ntrans _ _ _ h k
theorem tot {l : List Bytes} (hn : l.Nodup) (x y : Fin l.length) (h : ltOf (cf l) x y = false) (k : ltOf (cf l) y x = false) : x = y := by
  rw [lt_cf] at h k
  have e := ltB_conn _ _ h k
  obtain ⟨x, hx⟩ := x
  obtain ⟨y, hy⟩ := y
  simp only [List.getD_eq_getElem?_getD, List.getElem?_eq_getElem hx, List.getElem?_eq_getElem hy, Option.getD_some] at e
  have := (List.getElem_inj (h₀ := hx) (h₁ := hy) hn).1 e
  simp [this]

set_option maxRecDepth 100000 in
set_option maxHeartbeats 3200000 in
/-- The comparing closure. -/
theorem closure_any (l : List Bytes) (b g c : Nat) (x y : Fin l.length) (W : World) (h0 : W.cell? ⟨b, 0, none⟩ = some (.slice (some ⟨g, 0, none⟩) l.length c)) (h1 : ∀ i, i < l.length → W.cell? ⟨g, i, none⟩ = some (str (l.getD i []))) :
    Calls Try.prog 49 #[enc l x, enc l y, .pointer (some ⟨b, 0, none⟩)] W fun e w' => e = .returned (.int .i64 (cf l x y)) ∧ ∃ q, w' = W.drewN q := by
  unfold enc cf
  obtain ⟨x, hx⟩ := x
  obtain ⟨y, hy⟩ := y
  have kx := h1 x hx
  have ky := h1 y hy
  simp only
  generalize l.getD x [] = s at kx ⊢
  generalize l.getD y [] = t at ky ⊢
  unfold str at kx ky
  have CC := hide (fun W => Try.strings_Compare ⟨s.toArray⟩ ⟨t.toArray⟩ W)
  clear h1
  go_enter Try.func49, Try.ntmps49
  go_wp2_with fail
  go_quiet ((go_at_call 50; exact Calls.quiet_of_same (CC.out _)))
  go_wp2_with fail
  go_ret
  exact ⟨rfl, _, rfl⟩

/-- What the sort leaves as it was, and what it writes. -/
theorem sortW_other {α : Type} [Inhabited α] (en : α → Value) (w : World) (blk off n : Nat) (dk : Array α) (os : Array Obj) (k : Nat) (hk : k < w.heap.size) (hn : k ≠ blk) : (sortWorld en w blk off n dk os).heap[k]? = w.heap[k]? := by
  unfold sortWorld grow putRow mapBlock Sort.ahead
  simp only
  rw [Array.getElem?_append_left (by simpa using hk), Array.getElem?_modify, if_neg (fun e => hn e.symm)]
theorem sortW_row {α : Type} [Inhabited α] (en : α → Value) (w : World) (blk n : Nat) (dk : Array α) (os : Array Obj) {cur : Array Value} {e : Nat} (h : w.heap[blk]? = some (.cells cur e (0, 0))) (hs : cur.size = dk.size) :
    (sortWorld en w blk 0 n dk os).heap[blk]? = some (.cells (dk.map en) e (0, 0)) := by
  unfold sortWorld grow putRow mapBlock Sort.ahead
  simp only
  rw [Array.getElem?_append_left (by have := loc_lt h; simpa using this), Array.getElem?_modify, if_pos rfl, h]
  simp only [Option.map_some, onCells]
  congr 2
  unfold putCells
  apply Array.ext
  · simp [hs]
  · intro i h1 h2
    simp at h1 h2 ⊢
    have : i < dk.size := by omega
    simp [this]
theorem sortW_below {α : Type} [Inhabited α] (en : α → Value) (w : World) (blk off n : Nat) (dk : Array α) (os : Array Obj) (B : Nat) (hB : B ≤ w.heap.size) (hb : B ≤ blk) : Below B w (sortWorld en w blk off n dk os) :=
  ⟨rfl, rfl, rfl, by unfold sortWorld grow putRow mapBlock Sort.ahead; simp, fun k hk => sortW_other en w blk off n dk os k (by omega) (by omega)⟩
end Go.Proofs.Ytijpdoclmplclaa
