/- byName: the numbers, by their names' bytes. -/
import Derived.Test.YtijpdoclmplclaaSort
namespace Go.Proofs.Ytijpdoclmplclaa
open Go.RowKit Go.Shelf Go.Maps Go.WideMaps Go.Lib Go.Sort

theorem infoI : (Try.prog.info? 3).map (fun i => (i.zero, i.size, i.bytes)) = some (some (.int .i64 0), 1, 8) := by kernel_rfl
/-- The numbers that have been laid. -/
def ipart (n k : Nat) : List Value := ints (List.range k) ++ List.replicate (n - k) (.int .i64 0)
theorem ints_length (l : List Nat) : (ints l).length = l.length := by unfold ints; simp
theorem ipart_length {n k : Nat} (h : k ≤ n) : (ipart n k).length = n := by unfold ipart; simp [ints_length]; omega
theorem ipart_zero (n : Nat) : (madeCells (Value.int .i64 0).cells (n * 1)) = (ipart n 0).toArray := by
  apply Array.ext'
  unfold madeCells ipart ints
  simp [Value.cells, Array.toList_map]
  apply List.ext_getElem?
  intro i
  simp [List.getElem?_map, List.getElem?_replicate]
  by_cases h : i < n
  · simp [h, Nat.mod_one]
  · simp [h]
theorem ipart_at {n k : Nat} (h : k < n) : (ipart n k)[k]? = some (.int .i64 0) := by
  unfold ipart
  rw [List.getElem?_append_right (by simp [ints_length]), List.getElem?_replicate, if_pos (by simp [ints_length]; omega)]
theorem ipart_step {n k : Nat} (h : k < n) : (ipart n k).toArray.setIfInBounds k (.int .i64 (k : Int)) = (ipart n (k + 1)).toArray := by
  apply Array.ext'
  simp only [Array.toList_setIfInBounds]
  apply List.ext_getElem?
  intro i
  have e1 : (ipart n k).length = n := ipart_length (by omega)
  rw [List.getElem?_set]
  have a1 : (ints (List.range k)).length = k := by simp [ints_length]
  have a2 : (ints (List.range (k + 1))).length = k + 1 := by simp [ints_length]
  unfold ipart
  by_cases h1 : k = i
  · subst h1
    rw [if_pos rfl, if_pos (by rw [e1.symm] at h; exact h), List.getElem?_append_left (by omega)]
    unfold ints
    rw [List.getElem?_map, List.getElem?_range (by omega)]
    rfl
  · rw [if_neg h1]
    by_cases h2 : i < k
    · rw [List.getElem?_append_left (by omega), List.getElem?_append_left (by omega)]
      unfold ints
      rw [List.getElem?_map, List.getElem?_map, List.getElem?_range h2, List.getElem?_range (by omega)]
    · rw [List.getElem?_append_right (by omega), List.getElem?_append_right (by omega), List.getElem?_replicate, List.getElem?_replicate, a1, a2]
      by_cases h3 : i < n
      · rw [if_pos (by omega), if_pos (by omega)]
      · rw [if_neg (by omega), if_neg (by omega)]
theorem ipart_all (n : Nat) : ipart n n = ints (List.range n) := by unfold ipart; simp

theorem pl_size (l : List Bytes) : (pl l).toArray.size = l.length := by unfold pl; simp
theorem enc_srt (l : List Bytes) : ((pl l).toArray.toList.mergeSort fun x y => !(ltOf (cf l)) y x).toArray.map (enc l) = (ints (srt l)).toArray := by
  rw [← pl_srt]
  unfold ints enc
  simp only [lt_cf, List.map_map, List.map_toArray]
  rfl

set_option maxRecDepth 100000 in
set_option maxHeartbeats 3200000 in
/-- The sort of the numbers. -/
theorem sort_any (l : List Bytes) (b b1 g c : Nat) (W : World) (hn : l.Nodup) (hp : 0 < l.length) (hl : l.length ≤ 4096) (h0 : W.cell? ⟨b, 0, none⟩ = some (.slice (some ⟨g, 0, none⟩) l.length c)) (h1 : ∀ i, i < l.length → W.cell? ⟨g, i, none⟩ = some (str (l.getD i [])))
    (hb : b ≠ b1) (hg : g ≠ b1) (hr : W.heap[b1]? = some (.cells (ints (List.range l.length)).toArray 3 (0, 0))) :
    Calls Try.prog 48 #[.slice (some ⟨b1, 0, none⟩) l.length l.length, .func (.func 49) #[] #[.pointer (some ⟨b, 0, none⟩)]] W fun e w' =>
      e = .returned (.tuple #[]) ∧ w'.heap[b1]? = some (.cells (ints (srt l)).toArray 3 (0, 0)) ∧ Below b1 W w' := by
  haveI : Inhabited (Fin l.length) := ⟨⟨0, hp⟩⟩
  have hb1 := loc_lt hr
  have hbl : b < W.heap.size := by
    apply Classical.byContradiction
    intro hn
    simp [World.cell?, Array.getElem?_eq_none (show W.heap.size ≤ b by omega)] at h0
  have hgl : g < W.heap.size := by
    apply Classical.byContradiction
    intro hn
    have := h1 0 hp
    simp [World.cell?, Array.getElem?_eq_none (show W.heap.size ≤ g by omega)] at this
  have eg : ∀ args w, (callFunc 49 args).run Try.prog w = .ok (.enter 49 args) w := enters_of Try.func49 (by kernel_rfl) rfl
  have hc : CmpReads Try.prog 49 #[.pointer (some ⟨b, 0, none⟩)] (enc l) (cf l) b1 0 (pl l).toArray.size W := by
    intro m os dk hs x y
    refine closure_any l b g c x y _ ?_ ?_
    · rw [World.cell?_of_block (sortW_other (enc l) W b1 0 m dk os b hbl hb)]
      exact h0
    · intro i hi
      rw [World.cell?_of_block (sortW_other (enc l) W b1 0 m dk os g hgl hg)]
      exact h1 i hi
  have hH : Holds (enc l) W b1 0 (pl l).toArray := by
    intro j hj
    refine ⟨?_, frozen_of_row W b1 _ _ _ hr⟩
    rw [cell_of_row W b1 _ _ _ _ hr]
    rw [pl_size] at hj
    have e : (pl l).toArray[j]! = ⟨j, hj⟩ := by
      unfold pl
      simp [hj]
    rw [e]
    unfold ints enc
    simp [hj]
  have hcon := Any.slices_SortFunc_total Try.sortK (enc l) (fun _ => rfl) (cf l) (swo l) 49 #[.pointer (some ⟨b, 0, none⟩)] b1 0 l.length (pl l).toArray W eg hc.lays hH hb1 (by rw [pl_size]; omega) (tot hn)
  change Calls Try.prog 48 _ _ _ at hcon
  rw [pl_size] at hcon
  refine hcon.mono ?_
  rintro e w' ⟨he, n, os, rfl⟩
  refine ⟨he, ?_, sortW_below _ _ _ _ _ _ _ _ (by omega) (Nat.le_refl _)⟩
  rw [sortW_row (enc l) W b1 n _ os hr (by simp [ints_length]; unfold pl; simp), enc_srt]
end Go.Proofs.Ytijpdoclmplclaa
