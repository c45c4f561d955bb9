/- New, and the names of a table. -/
import Derived.Test.YtijpdoclmplclaaAdd
import Derived.Laws.MakeOwn
import Derived.Carry
namespace Go.Proofs.Ytijpdoclmplclaa
open Go.RowKit Go.Shelf Go.Maps Go.WideMaps

set_option maxRecDepth 100000 in
set_option maxHeartbeats 3200000 in
theorem new_any {Z : Nat → Prop} (n : Int) (w : World) (hz : ∀ g, w.heap.size ≤ g → Z g) (h1 : 1 ≤ n) (h2 : n ≤ 4096) :
    Calls Try.prog 7 #[.int .i64 n] w fun e w' => ∃ B M, e = .returned (.tuple #[ptr B, .int .i64 0]) ∧ Tab Z B M (.slice none 0 0) 0 (.slice none 0 0) n [] w' ∧ Below w.heap.size w w' := by
  have HZ := hide hz
  clear hz
  have hmm := @run_makeMap Try.prog
  go_enter Try.func7, Try.ntmps7
  go_wp2_with fail
  go_ret2
  have hb : Below w.heap.size w ((w.alloc (.map #[] 0)).alloc (.cells #[.int .i64 n, .slice none 0 0, .map (some w.heap.size), .int .u32 0, .int .i32 0, .int .u32 0, .slice none 0 0] 70)) := ((Below.refl _ _).alloc (Nat.le_refl _) _).alloc (by simp) _
  refine ⟨w.heap.size + 1, w.heap.size, rfl, ?_, hb⟩
  refine ⟨?_, ⟨rfl, .inl ⟨rfl, rfl⟩⟩, ⟨_, (World.ownsMap_made w _ _ _).alloc _, num_nil⟩, .inl rfl, HZ.out _ (by omega), HZ.out _ (by omega), fun g hg => (by cases hg), (fun e => by cases e), h1, h2, (by simp; omega), List.nodup_nil, fun s hs => (by cases hs)⟩
  have := heap_alloc_new (w.alloc (.map #[] 0)) (.cells #[.int .i64 n, .slice none 0 0, .map (some w.heap.size), .int .u32 0, .int .i32 0, .int .u32 0, .slice none 0 0] 70)
  simpa using this

theorem new_not (n : Int) (w : World) (h1 : ¬ (1 ≤ n ∧ n ≤ 4096)) :
    Calls Try.prog 7 #[.int .i64 n] w fun e w' => e = .returned (.tuple #[.pointer none, .int .i64 4]) ∧ w' = w := by
  by_cases h : 1 ≤ n
  · have h2 : 4096 < n := by omega
    clear h1
    go_enter Try.func7, Try.ntmps7
    go_wp2_with fail
    go_ret2
    exact ⟨rfl, rfl⟩
  · have h2 : n < 1 := by omega
    clear h1 h
    go_enter Try.func7, Try.ntmps7
    go_wp2_with fail
    go_ret2
    exact ⟨rfl, rfl⟩

/-- The names that have been copied, and what is still empty. -/
def part (l : List Bytes) (k : Nat) : List Value := strs (l.take k) ++ List.replicate (l.length - k) (.string ⟨#[]⟩)
theorem part_length {l : List Bytes} {k : Nat} (h : k ≤ l.length) : (part l k).length = l.length := by unfold part strs; simp; omega
theorem part_zero (l : List Bytes) : (madeCells (Value.string ⟨#[]⟩).cells (l.length * 1)) = (part l 0).toArray := by
  apply Array.ext'
  unfold madeCells part strs
  simp [Value.cells, Array.toList_map]
  apply List.ext_getElem?
  intro i
  simp [List.getElem?_map, List.getElem?_replicate]
  by_cases h : i < l.length
  · simp [h, Nat.mod_one]
  · simp [h]
theorem part_step {l : List Bytes} {k : Nat} (h : k < l.length) : (part l k).toArray.setIfInBounds k (str (l.getD k [])) = (part l (k + 1)).toArray := by
  apply Array.ext'
  simp only [Array.toList_setIfInBounds]
  apply List.ext_getElem?
  intro i
  have e1 : (part l k).length = l.length := part_length (by omega)
  rw [List.getElem?_set]
  have hlk : (strs (l.take k)).length = k := by unfold strs; simp; omega
  have hlk1 : (strs (l.take (k + 1))).length = k + 1 := by unfold strs; simp; omega
  unfold part
  by_cases h1 : k = i
  · subst h1
    rw [if_pos rfl, if_pos (by rw [e1.symm] at h; exact h), List.getElem?_append_left (by omega)]
    unfold strs
    rw [List.getElem?_map, List.getElem?_take, if_pos (by omega), List.getElem?_eq_getElem h]
    simp [List.getD, h]
  · rw [if_neg h1]
    by_cases h2 : i < k
    · rw [List.getElem?_append_left (by omega), List.getElem?_append_left (by omega)]
      unfold strs
      rw [List.getElem?_map, List.getElem?_map, List.getElem?_take, List.getElem?_take, if_pos h2, if_pos (by omega)]
    · rw [List.getElem?_append_right (by omega), List.getElem?_append_right (by omega), List.getElem?_replicate, List.getElem?_replicate, hlk, hlk1]
      by_cases h3 : i < l.length
      · rw [if_pos (by omega), if_pos (by omega)]
      · rw [if_neg (by omega), if_neg (by omega)]
theorem part_all (l : List Bytes) : part l l.length = strs l := by unfold part; simp

section
variable {Z : Nat → Prop} {B M : Nat} {nv : Value} {d : Int} {sv : Value} {most : Int} {l : List Bytes} {w : World}

set_option maxRecDepth 100000 in
set_option maxHeartbeats 3200000 in
theorem names_any (h : Tab Z B M nv d sv most l w) : Calls Try.prog 18 #[ptr B] w fun e w' => ∃ v, e = .returned v ∧ w'.ownsRow w.heap.size 9 1 v l.length (strs l) ∧ Below w.heap.size w w' := by
  have H := hide h
  have C := hide (made_any h)
  obtain ⟨-, c1, -, -, -, -, -, -⟩ := h.cells
  have hl := h.len2
  have HB := hide (loc_lt h.box)
  have ca : (w.alloc (.cells (part l 0).toArray 9)).cell? ⟨B, 1, none⟩ = some nv := by rw [World.cell?_alloc_past _ _ _ HB.out]; exact c1
  obtain ⟨ta, tc, rfl⟩ := h.form
  obtain ⟨iM, hiM, zM0, zM1, zM2⟩ := info_parts' infoS
  have hmk := run_make (P := Try.prog) w 39 9 iM _ Try.underlying39 hiM zM0 .i64 .i64 l.length l.length (by omega) (by omega) (by rw [zM2]; omega) (by omega)
  rw [zM1, Int.toNat_natCast, part_zero] at hmk
  clear h zM0 zM1 zM2 hiM
  go_enter Try.func18, Try.ntmps18
  go_wp2_with (first | (go_at_call 38; refine C.out.mono ?_; rintro _ w1 ⟨rfl, hw1⟩; subst w1))
  go_loopw [20] (fun x wr => ∃ k : Nat, k ≤ l.length ∧ x = .int .i64 k ∧ Hid (wr.heap[w.heap.size]? = some (.cells (part l k).toArray 9 (0, 0))) ∧ Hid (Below w.heap.size w wr)) (fun x _ => l.length - (intOf x).toNat)
  case atStart => exact ⟨0, by omega, rfl, hide (heap_alloc_new w _), hide ((Below.refl _ _).alloc (Nat.le_refl _) _)⟩
  case round =>
    obtain ⟨k, hk, rfl, HR, HW⟩ := hrel
    by_cases hlt : k < l.length
    · have hT := H.out.below HW.out
      obtain ⟨g, c, e1, hc, -, -⟩ := owns_at hT.row (strs_at hlt)
      simp only [Value.slice.injEq] at e1
      obtain ⟨rfl, -, rfl⟩ := e1
      have HS := hide (name_short (H.out.names (l.getD k []) (by rw [List.getD_eq_getElem?_getD, List.getElem?_eq_getElem hlt]; simp)))
      have HP := hide (part_step hlt)
      generalize l.getD k [] = s at hc HS HP
      have CC := hide (clone_any ⟨s.toArray⟩ wr (by show s.toArray.size ≤ _; have := HS.out.2; simp only [List.size_toArray]; omega))
      unfold str at hc
      clear hT
      go_wp2_with fail
      refine CC.out.mono ?_
      rintro _ w1 ⟨rfl, hw1⟩
      have hR1 := (hw1.block _ (loc_lt HR.out)).trans HR.out
      have k1 : w1.cell? ⟨w.heap.size, k, none⟩ = some (.string ⟨#[]⟩) := by
        rw [cell_of_row w1 _ k _ _ _ hR1]
        unfold part
        have : (strs (l.take k)).length = k := by unfold strs; simp; omega
        simp [List.getElem?_append_right, this, List.getElem?_replicate]
        omega
      have k2 : w1.frozen? ⟨w.heap.size, k, none⟩ = false := frozen_of_row w1 _ k _ _ hR1
      have HR1 := hide hR1
      have HW1 := hide (HW.out.trans (hw1.mono HW.out.size))
      clear hw1 hR1 CC
      go_wp2_with fail
      go_roundw
      case rel =>
        refine ⟨k + 1, by omega, by go_num, hide ?_, hide (HW1.out.setCell (Nat.le_refl _) _)⟩
        rw [loc_set HR1.out]
        rw [← HP.out]
        rfl
      case measure => simp [intOf]; omega
    · have hk' : k = l.length := by omega
      subst hk'
      go_wp2_with fail
      go_ret
      refine ⟨_, rfl, ⟨by unfold strs; simp, .inr ⟨w.heap.size, l.length, _, rfl, Nat.le_refl _, HR.out, Nat.le_refl _, by unfold maxLen; omega, ?_, ?_⟩⟩, HW.out⟩
      · rw [part_all]; unfold strs; simp
      · rw [part_all, Nat.mul_one, List.toList_toArray]; exact List.take_of_length_le (by unfold strs; simp)
end
end Go.Proofs.Ytijpdoclmplclaa
