/- The program's byRest: the places in the order that the sort leaves. -/
import Derived.Test.YthpbadnedhjncaaDoorStable
import Derived.Test.YthpbadnedhjncaaDoorSharePlain
namespace Go.Proofs.YthpbadnedhjncaaDoor
open Go.RowKit Go.Shelf Go.Lib Go.Sort

theorem infoInt : (Tryd.prog.info? 3).map (fun i => (i.zero, i.size, i.bytes)) = some (some (.int .i64 0), 1, 8) := by kernel_rfl

theorem below_fill0 (w : World) (o : Obj) : RowKit.Below w.heap.size w (w.alloc o) := (RowKit.Below.refl _ _).alloc (Nat.le_refl _) _

def idArr (k : Nat) : Array (Fin (k + 1)) := Array.ofFn id

/-- The first j places are written. -/
def idRow (n j : Nat) : List Value := (List.range n).map fun i => .int .i64 (if i < j then (i : Int) else 0)

theorem idRow_zero (n : Nat) : (madeCells (Value.int .i64 0).cells (n * 1)).toList = idRow n 0 := by
  unfold idRow madeCells
  apply List.ext_getElem
  · simp [Value.cells]
  · intro i h1 h2
    simp [Value.cells, Nat.mod_one]

/-- What the sort leaves as it was: all blocks but the row's. -/
theorem SW_below {α : Type} [Inhabited α] {enc : α → Value} {w0 W : World} {blk off B : Nat} {d : Array α} (S : SW enc w0 blk off d W) (hB : B ≤ blk) (hBw : B ≤ w0.heap.size) : RowKit.Below B w0 W := by
  have hle := S.le
  obtain ⟨n, os, rfl⟩ := S
  refine ⟨rfl, rfl, rfl, hle, fun i hi => ?_⟩
  show ((w0.heap.modify blk (onCells (putCells enc off d))) ++ os)[i]? = w0.heap[i]?
  rw [Array.getElem?_append_left (by rw [Array.size_modify]; omega), Array.getElem?_modify, if_neg (by omega)]

theorem idRow_set (n j : Nat) : (idRow n j).set j (.int .i64 (j : Int)) = idRow n (j + 1) := by
  unfold idRow
  apply List.ext_getElem
  · simp
  · intro i h1 h2
    simp at h1
    rw [List.getElem_set]
    by_cases h : j = i
    · subst h; simp
    · rw [if_neg h]
      simp only [List.getElem_map, List.getElem_range]
      by_cases h3 : i < j
      · rw [if_pos h3, if_pos (by omega)]
      · rw [if_neg h3, if_neg (by omega)]

theorem idRow_at (n j i : Nat) (h : i < n) : (idRow n j)[i]? = some (.int .i64 (if i < j then (i : Int) else 0)) := by
  unfold idRow; simp [h]

theorem idArr_at (k i : Nat) (h : i < k + 1) : encP (idArr k)[i]! = .int .i64 (i : Int) := by
  unfold encP idArr
  rw [getElem!_pos _ i (by simpa using h)]
  simp

set_option maxRecDepth 100000 in
set_option maxHeartbeats 2000000 in
theorem byRest_of {k : Nat} (hk : k + 1 ≤ 4096) (r : Nat → Nat) (Q : Array (Fin (k + 1)) → Prop)
    (CS : ∀ (cb : Array Value) (blk cap : Nat) (w0 : World), CmpLays1 Tryd.prog 62 cb encP (cfP (k := k) r) blk 0 (k + 1) w0 → Row1 encP w0 blk 0 (idArr k) →
      Calls Tryd.prog 61 #[.slice (some ⟨blk, 0, none⟩) (k + 1) cap, .func (.func 62) #[] cb] w0 fun e w' => e = .returned (.tuple #[]) ∧ ∃ d', Q d' ∧ d'.size = k + 1 ∧ SW encP w0 blk 0 d' w')
    (q c : Nat) (w : World) (hq : ∀ i, i < k + 1 → w.cell? ⟨q, i, none⟩ = some (.int .u64 (r i : Int))) :
    Calls Tryd.prog 44 #[.slice (some ⟨q, 0, none⟩) (k + 1) c] w fun e w' => ∃ blk d', e = .returned (.slice (some ⟨blk, 0, none⟩) (k + 1) (k + 1)) ∧ Q d' ∧ d'.size = k + 1 ∧ Holds encP w' blk 0 d' ∧ w.heap.size ≤ blk ∧ RowKit.Below w.heap.size w w' := by
  obtain ⟨iA, hiA, hzA0, hzA1, hzA2⟩ := info_parts infoInt
  go_enter Tryd.func44, Tryd.ntmps44
  go_wp2_with (at_make; go_must (refine wpList_make_full _ rfl _ _ 83 rfl w.heap.size 3 iA (.int .i64 0) 1 Tryd.underlying83 hiA hzA0 hzA1 .i64 .i64 _ _ (k + 1) rfl rfl (by omega) (by omega) (by rw [hzA2]; omega) (by unfold maxLen; omega) (by simp) ?_; intro w1 hown hgrow))
  have hsz : (w.alloc (Obj.cells #[Value.slice (some { block := q, off := 0 }) (k + 1) c] 80)).heap.size = w.heap.size + 1 := by simp
  rw [hsz, idRow_zero] at hown
  have hbox : w1.cell? ⟨w.heap.size, 0, none⟩ = some (.slice (some ⟨q, 0, none⟩) (k + 1) c) := by
    rw [World.cell?_of_block (hgrow.block w.heap.size (by simp) (by simp))]
    simp
  have hbel : RowKit.Below w.heap.size w w1 := (below_fill0 w _).grown hgrow (by simp) (by simp)
  clear hgrow
  go_loopw [10] (fun i wr => ∃ j : Nat, j ≤ k + 1 ∧ i = .int .i64 j ∧ wr.ownsRow w.heap.size 3 1 (.slice (some ⟨w.heap.size + 1, 0, none⟩) (k + 1) (k + 1)) (k + 1) (idRow (k + 1) j) ∧ wr.cell? ⟨w.heap.size, 0, none⟩ = some (.slice (some ⟨q, 0, none⟩) (k + 1) c) ∧ RowKit.Below w.heap.size w wr) (fun i _ => k + 1 - (intOf i).toNat)
  case atStart => exact ⟨0, by omega, rfl, hown, hbox, hbel⟩
  case round =>
    clear hown hbox hbel
    obtain ⟨j, hj, rfl, hown, hbox, hbel⟩ := hrel
    by_cases hlt : j < k + 1
    · have hc : wr.cell? ⟨w.heap.size + 1, j, none⟩ = some (.int .i64 (if j < j then (j : Int) else 0)) := by
        rw [hown.cellAt j (by omega), idRow_at _ _ _ hlt]
      have hf := hown.frozenAt j
      obtain ⟨hown2, hgr2⟩ := hown.stored j (.int .i64 (j : Int))
      rw [idRow_set] at hown2
      have hbox2 : (wr.setCell ⟨w.heap.size + 1, j, none⟩ (.int .i64 (j : Int))).cell? ⟨w.heap.size, 0, none⟩ = some (.slice (some ⟨q, 0, none⟩) (k + 1) c) := by
        rw [World.cell?_setCell_other _ _ _ _ (by intro e; simp only [Addr.mk.injEq] at e; omega)]; exact hbox
      have hbel2 : RowKit.Below w.heap.size w (wr.setCell ⟨w.heap.size + 1, j, none⟩ (.int .i64 (j : Int))) := hbel.setCell (by simp) _
      have HO := hide hown2
      have HX := hide hbox2
      have HB := hide hbel2
      clear hown2 hbox2 hbel2 hgr2 hbox hown
      rw [if_neg (by omega)] at hc
      go_wp2_with fail
      go_roundw
      case rel => exact ⟨j + 1, by omega, by go_num, HO.out, HX.out, HB.out⟩
      case measure => simp [intOf]; omega
    · have hje : j = k + 1 := by omega
      subst hje
      have R : Row1 encP wr (w.heap.size + 1) 0 (idArr k) := by
        refine ⟨encP_one, fun i hi => ?_, ?_⟩
        · have hi' : i < k + 1 := by simpa [idArr] using hi
          rw [Nat.zero_add, idArr_at k i hi']
          refine ⟨?_, hown.frozenAt i⟩
          rw [hown.cellAt i (by omega), idRow_at _ _ _ hi', if_pos hi']
        · have := World.block_lt_of_cell? _ _ ((hown.cellAt 0 (by omega)).trans (idRow_at (k + 1) (k + 1) 0 (by omega)))
          exact this
      have hq' : ∀ i, i < k + 1 → wr.cell? ⟨q, i, none⟩ = some (.int .u64 (r i : Int)) := fun i hi => by
        have hql := World.block_lt_of_cell? _ _ (hq i hi)
        rw [hbel.cell hql]; exact hq i hi
      have hq0 := World.block_lt_of_cell? _ _ (hq 0 (by omega))
      have L := cmp_lays r wr (w.heap.size + 1) w.heap.size q c (by omega) (by simp at hq0; omega) hbox hq'
      have CC := hide (CS #[.pointer (some ⟨w.heap.size, 0, none⟩)] (w.heap.size + 1) (k + 1) wr L R)
      have HR := hide R
      have HB := hide hbel
      clear L R hq' hq0 hown hbox hbel CS
      go_wp2_with (go_at_call 61; refine CC.out.mono ?_; rintro e w2 ⟨rfl, d', hQ, hs, S⟩)
      go_ret
      refine ⟨w.heap.size + 1, d', rfl, hQ, hs, S.holds HR.out.hblk HR.out.hH (by rw [hs]; simp [idArr]), by omega, ?_⟩
      exact HB.out.trans (SW_below S (by omega) (by have := HB.out.size; omega))

end Go.Proofs.YthpbadnedhjncaaDoor
