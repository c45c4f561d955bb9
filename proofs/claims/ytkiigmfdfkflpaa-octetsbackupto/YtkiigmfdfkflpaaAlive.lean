/- The page's examples (alive): they are as the page says, whatever memory holds. -/
import Derived.Test.YtkiigmfdfkflpaaRead
import Derived.Test.YtkiigmfdfkflpaaSum
import Derived.Test.YtkiigmfdfkflpaaHex
import Derived.Lib.SlBytesConst
namespace Go.Proofs.Ytkiigmfdfkflpaa
open Go.RowKit

theorem num_any (e : Int) (w : World) : Calls Try.prog 15 #[.int .i64 e] w fun x w' => x = .returned (.int .i64 e) ∧ w' = w := by
  go_enter Try.func15, Try.ntmps15
  go_wp2
  go_ret
  exact ⟨rfl, rfl⟩

/-- A slice that was written out. -/
theorem row_lit (w : World) (zs : List Int) (cs : Array Value) (fr : Nat × Nat) (hcs : cs.toList = zs.map (Value.int .u8)) (hb : ∀ z ∈ zs, 0 ≤ z ∧ z ≤ 255) : Row (w.alloc (.cells cs 5 fr)) (some ⟨w.heap.size, 0, none⟩) zs := by
  refine ⟨fun _ => ⟨w.heap.size, 0, rfl, fun i hi => ?_⟩, bytes_getD hb⟩
  rw [cell_of_row _ _ _ _ _ _ (heap_alloc_new w _)]
  rw [← Array.getElem?_toList, hcs]
  simp [List.getD, hi]

theorem bytes_of {zs : List Int} (h : zs.all (fun z => decide (0 ≤ z ∧ z ≤ 255)) = true) : ∀ z ∈ zs, 0 ≤ z ∧ z ≤ 255 := fun z hz => by simpa using (List.all_eq_true.1 h) z hz

theorem alive_one (w : World) : Calls Try.prog 10 #[.slice (some ⟨w.heap.size, 0, none⟩) 2 2, .int .i64 0] (w.alloc (.cells #[.int .u8 172, .int .u8 2] 5)) fun e w' => e = .returned (.tuple #[.int .u64 300, .int .i64 2, .int .i64 0]) ∧ w' = w.alloc (.cells #[.int .u8 172, .int .u8 2] 5) := by
  have h := readUint_any (some ⟨w.heap.size, 0, none⟩) 2 2 [172, 2] 0 (w.alloc (.cells #[.int .u8 172, .int .u8 2] 5)) rfl (by omega) (by omega) (by simp) (row_lit w _ _ _ rfl (bytes_of (by decide)))
  rwa [show readU [172, 2] 0 = (300, 2, 0) by decide +kernel] at h

theorem alive_two (w : World) : Calls Try.prog 10 #[.slice (some ⟨w.heap.size, 0, none⟩) 2 2, .int .i64 0] (w.alloc (.cells #[.int .u8 128, .int .u8 0] 5)) fun e w' => e = .returned (.tuple #[.int .u64 0, .int .i64 0, .int .i64 11]) ∧ w' = w.alloc (.cells #[.int .u8 128, .int .u8 0] 5) := by
  have h := readUint_any (some ⟨w.heap.size, 0, none⟩) 2 2 [128, 0] 0 (w.alloc (.cells #[.int .u8 128, .int .u8 0] 5)) rfl (by omega) (by omega) (by simp) (row_lit w _ _ _ rfl (bytes_of (by decide)))
  rwa [show readU [128, 0] 0 = (0, 0, 11) by decide +kernel] at h

theorem alive_sum (w : World) : Calls Try.prog 23 #[.slice (some ⟨w.heap.size, 0, none⟩) 9 9] (w.alloc (.cells #[.int .u8 49, .int .u8 50, .int .u8 51, .int .u8 52, .int .u8 53, .int .u8 54, .int .u8 55, .int .u8 56, .int .u8 57] 5 (9, 10))) fun e w' => e = .returned (.int .u32 3808858755) ∧ Below (w.alloc (.cells #[.int .u8 49, .int .u8 50, .int .u8 51, .int .u8 52, .int .u8 53, .int .u8 54, .int .u8 55, .int .u8 56, .int .u8 57] 5 (9, 10))).heap.size (w.alloc (.cells #[.int .u8 49, .int .u8 50, .int .u8 51, .int .u8 52, .int .u8 53, .int .u8 54, .int .u8 55, .int .u8 56, .int .u8 57] 5 (9, 10))) w' := by
  have h := sum_any (some ⟨w.heap.size, 0, none⟩) 9 9 [49, 50, 51, 52, 53, 54, 55, 56, 57] _ rfl (by omega) (row_lit w [49, 50, 51, 52, 53, 54, 55, 56, 57] #[.int .u8 49, .int .u8 50, .int .u8 51, .int .u8 52, .int .u8 53, .int .u8 54, .int .u8 55, .int .u8 56, .int .u8 57] (9, 10) rfl (bytes_of (by decide)))
  rwa [crc_nine] at h

theorem hex_two : strOfNums (hexB [0, 255]) = ⟨#[48, 48, 102, 102]⟩ := by decide +kernel

theorem alive_hex (w : World) : Calls Try.prog 25 #[.slice (some ⟨w.heap.size, 0, none⟩) 2 2] (w.alloc (.cells #[.int .u8 0, .int .u8 255] 5)) fun e w' => e = .returned (.string ⟨#[48, 48, 102, 102]⟩) ∧ Below (w.alloc (.cells #[.int .u8 0, .int .u8 255] 5)).heap.size (w.alloc (.cells #[.int .u8 0, .int .u8 255] 5)) w' := by
  have h := hex_any (some ⟨w.heap.size, 0, none⟩) 2 2 [0, 255] _ rfl (by omega) (row_lit w [0, 255] #[.int .u8 0, .int .u8 255] (0, 0) rfl (bytes_of (by decide)))
  rwa [hex_two] at h

set_option maxHeartbeats 400000 in
theorem alive_any (w : World) : Calls Try.prog 16 #[] w fun e w' => e = .returned (.bool true) ∧ Below w.heap.size w w' := by
  go_enter Try.func16, Try.ntmps16
  go_wp2_with fail
  refine (alive_one _).mono ?_
  rintro e w1 ⟨rfl, hw1⟩
  have hb1 : Below w.heap.size w w1 := by rw [hw1]; exact (Below.refl _ _).alloc (Nat.le_refl _) _
  clear hw1
  go_wp2_with fail
  refine (alive_two _).mono ?_
  rintro e w2 ⟨rfl, hw2⟩
  have hb2 : Below w.heap.size w w2 := by rw [hw2]; exact hb1.alloc hb1.size _
  clear hw2 hb1
  have kc := fun (w : World) (C : Array Value) (n c : Nat) => Lib.run_convert_bytes_const (P := Try.prog) w 23 5 C n c Try.underlying23 Try.underlying5
  go_wp2_with (go_at_call 15; refine (num_any _ _).mono ?_; rintro e w' ⟨rfl, rfl⟩)
  clear kc
  refine (alive_sum _).mono ?_
  rintro e w3 ⟨rfl, hbel3⟩
  have hb3 : Below w.heap.size w w3 := (hb2.alloc hb2.size _).trans (hbel3.mono (by have := hb2.size; simp; omega))
  clear hbel3 hb2
  go_wp2_with fail
  refine (alive_hex _).mono ?_
  rintro e w4 ⟨rfl, hbel4⟩
  have hb4 : Below w.heap.size w w4 := (hb3.alloc hb3.size _).trans (hbel4.mono (by have := hb3.size; simp; omega))
  clear hbel4 hb3
  go_wp2
  go_ret
  exact ⟨rfl, hb4⟩

end Go.Proofs.Ytkiigmfdfkflpaa
