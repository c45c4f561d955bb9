/- A day's text: the program's ten places, one by one from the end. -/
import Derived.Test.YtnafhjmeofddoabWeek
import Derived.Laws.BytesArg
import Derived.Lib.SlBytesConst
namespace Go.Proofs.Ytnafhjmeofddoab
open Go.RowKit

/-- What is left of the number behind so many places. -/
def tD (q1 q2 q3 q4 q5 q6 q7 q8 : Int) : Nat → Int
  | 0 => q1 * 10000000 + q2 * 1000000 + q3 * 100000 + q4 * 10000 + q5 * 1000 + q6 * 100 + q7 * 10 + q8
  | 1 => q1 * 1000000 + q2 * 100000 + q3 * 10000 + q4 * 1000 + q5 * 100 + q6 * 10 + q7
  | 2 => q1 * 100000 + q2 * 10000 + q3 * 1000 + q4 * 100 + q5 * 10 + q6
  | 3 => q1 * 100000 + q2 * 10000 + q3 * 1000 + q4 * 100 + q5 * 10 + q6
  | 4 => q1 * 10000 + q2 * 1000 + q3 * 100 + q4 * 10 + q5
  | 5 => q1 * 1000 + q2 * 100 + q3 * 10 + q4
  | 6 => q1 * 1000 + q2 * 100 + q3 * 10 + q4
  | 7 => q1 * 100 + q2 * 10 + q3
  | 8 => q1 * 10 + q2
  | 9 => q1
  | _ => 0

/-- The places, behind so many. -/
def tX (q1 q2 q3 q4 q5 q6 q7 q8 : Int) : Nat → List Int
  | 0 => [48, 48, 48, 48, 45, 48, 48, 45, 48, 48]
  | 1 => [48, 48, 48, 48, 45, 48, 48, 45, 48, 48 + q8]
  | 2 => [48, 48, 48, 48, 45, 48, 48, 45, 48 + q7, 48 + q8]
  | 3 => [48, 48, 48, 48, 45, 48, 48, 45, 48 + q7, 48 + q8]
  | 4 => [48, 48, 48, 48, 45, 48, 48 + q6, 45, 48 + q7, 48 + q8]
  | 5 => [48, 48, 48, 48, 45, 48 + q5, 48 + q6, 45, 48 + q7, 48 + q8]
  | 6 => [48, 48, 48, 48, 45, 48 + q5, 48 + q6, 45, 48 + q7, 48 + q8]
  | 7 => [48, 48, 48, 48 + q4, 45, 48 + q5, 48 + q6, 45, 48 + q7, 48 + q8]
  | 8 => [48, 48, 48 + q3, 48 + q4, 45, 48 + q5, 48 + q6, 45, 48 + q7, 48 + q8]
  | 9 => [48, 48 + q2, 48 + q3, 48 + q4, 45, 48 + q5, 48 + q6, 45, 48 + q7, 48 + q8]
  | _ => [48 + q1, 48 + q2, 48 + q3, 48 + q4, 45, 48 + q5, 48 + q6, 45, 48 + q7, 48 + q8]

/-- Ten cells that may be written. -/
structure TCells (g : Nat) (W : World) (xs : List Int) : Prop where
  len : xs.length = 10
  cell : ∀ i : Nat, i < 10 → W.cell? ⟨g, i, none⟩ = some (.int .u8 (xs.getD i 0))
  free : ∀ i : Nat, i < 10 → W.frozen? ⟨g, i, none⟩ = false

theorem TCells.put {g : Nat} {W : World} {xs : List Int} (h : TCells g W xs) (p : Nat) (v : Int) (_hp : p < 10) : TCells g (W.setCell ⟨g, p, none⟩ (.int .u8 v)) (xs.set p v) := by
  refine ⟨by simp [h.len], fun i hi => ?_, fun i hi => by simpa using h.free i hi⟩
  by_cases he : i = p
  · subst he
    rw [World.cell?_setCell_same _ _ _ (h.cell i hi)]
    simp [List.getD, h.len, hi]
  · rw [World.cell?_setCell_other _ _ _ _ (by simp)]
    rw [h.cell i hi]
    simp [List.getD, Ne.symm he]

theorem TCells.new (W : World) (q1 q2 q3 q4 q5 q6 q7 q8 : Int) : TCells W.heap.size (W.alloc (.cells #[.int .u8 48, .int .u8 48, .int .u8 48, .int .u8 48, .int .u8 45, .int .u8 48, .int .u8 48, .int .u8 45, .int .u8 48, .int .u8 48] 5 (10, 11))) (tX q1 q2 q3 q4 q5 q6 q7 q8 0) := by
  refine ⟨rfl, fun i hi => ?_, fun i hi => ?_⟩
  · rw [cell_of_row _ _ _ _ _ _ (heap_alloc_new W _)]
    have hc : i = 0 ∨ i = 1 ∨ i = 2 ∨ i = 3 ∨ i = 4 ∨ i = 5 ∨ i = 6 ∨ i = 7 ∨ i = 8 ∨ i = 9 := by omega
    rcases hc with rfl | rfl | rfl | rfl | rfl | rfl | rfl | rfl | rfl | rfl <;> rfl
  · have h := heap_alloc_new W (.cells #[.int .u8 48, .int .u8 48, .int .u8 48, .int .u8 48, .int .u8 45, .int .u8 48, .int .u8 48, .int .u8 45, .int .u8 48, .int .u8 48] 5 (10, 11))
    unfold World.frozen?
    simp only [h]
    simp; omega

theorem ret_str {a b : ByteArray} (h : a = b) : Ending.returned (.string a) = .returned (.string b) := by rw [h]

structure Dig (q : Int) : Prop where
  lo : 0 ≤ q
  hi : q ≤ 9

/-- A day's text, as numbers of bytes. -/
def dateB (y m d : Int) : List Int := [48 + y / 1000, 48 + y / 100 % 10, 48 + y / 10 % 10, 48 + y % 10, 45, 48 + m / 10, 48 + m % 10, 45, 48 + d / 10, 48 + d % 10]

set_option maxHeartbeats 1600000 in
theorem text_digits (y m d q1 q2 q3 q4 q5 q6 q7 q8 : Int) (w : World) (h1 : 1 ≤ y) (h2 : y ≤ 9999) (h3 : 1 ≤ m) (h4 : m ≤ 12) (h5 : 1 ≤ d) (h6 : d ≤ 31)
    (d1 : Dig q1) (d2 : Dig q2) (d3 : Dig q3) (d4 : Dig q4) (d5 : Dig q5) (d6 : Dig q6) (d7 : Dig q7) (d8 : Dig q8) (hN : (y * 100 + m) * 100 + d = tD q1 q2 q3 q4 q5 q6 q7 q8 0) :
    Calls Try.prog 15 #[aggD y m d] w fun e w' => e = .returned (.string (strOfNums (tX q1 q2 q3 q4 q5 q6 q7 q8 10))) ∧ Below w.heap.size w w' := by
  obtain ⟨d1a, d1b⟩ := d1
  obtain ⟨d2a, d2b⟩ := d2
  obtain ⟨d3a, d3b⟩ := d3
  obtain ⟨d4a, d4b⟩ := d4
  obtain ⟨d5a, d5b⟩ := d5
  obtain ⟨d6a, d6b⟩ := d6
  obtain ⟨d7a, d7b⟩ := d7
  obtain ⟨d8a, d8b⟩ := d8
  have HN := hide hN
  clear hN
  have HB := Box.mk (w := w) (y := y) (m := m) (d := d)
  unfold aggD
  have kc : ∀ (C : Array Value) (n c : Nat), (convert 45 45 (.slice (some ⟨w.heap.size + 1, 0, none⟩) n c)).run Try.prog ((w.alloc (.cells #[.int .i64 y, .int .i64 m, .int .i64 d] 36)).alloc (.cells C 5)) = .ok (.slice (some ⟨w.heap.size + 1, 0, none⟩) n c) ((w.alloc (.cells #[.int .i64 y, .int .i64 m, .int .i64 d] 36)).alloc (.cells C 5 (C.size, C.size + 1))) := fun C n c => by
    have h := Lib.run_convert_bytes_const (P := Try.prog) (w.alloc (.cells #[.int .i64 y, .int .i64 m, .int .i64 d] 36)) 45 5 C n c Try.underlying45 Try.underlying5
    rwa [show (w.alloc (.cells #[.int .i64 y, .int .i64 m, .int .i64 d] 36)).heap.size = w.heap.size + 1 by simp] at h
  go_enter Try.func15, Try.ntmps15
  go_wp2_with fail
  clear kc
  have HT : Hid (TCells (w.heap.size + 1) ((w.alloc (.cells #[.int .i64 y, .int .i64 m, .int .i64 d] 36)).alloc (.cells #[.int .u8 48, .int .u8 48, .int .u8 48, .int .u8 48, .int .u8 45, .int .u8 48, .int .u8 48, .int .u8 45, .int .u8 48, .int .u8 48] 5 (10, 11))) (tX q1 q2 q3 q4 q5 q6 q7 q8 0)) := by
    have h := TCells.new (w.alloc (.cells #[.int .i64 y, .int .i64 m, .int .i64 d] 36)) q1 q2 q3 q4 q5 q6 q7 q8
    rwa [show (w.alloc (.cells #[.int .i64 y, .int .i64 m, .int .i64 d] 36)).heap.size = w.heap.size + 1 by simp] at h
  have HL : Hid (Below w.heap.size w ((w.alloc (.cells #[.int .i64 y, .int .i64 m, .int .i64 d] 36)).alloc (.cells #[.int .u8 48, .int .u8 48, .int .u8 48, .int .u8 48, .int .u8 45, .int .u8 48, .int .u8 48, .int .u8 45, .int .u8 48, .int .u8 48] 5 (10, 11)))) := HB.2.2.2.2.alloc (by simp) _
  clear HB
  generalize hg : w.heap.size + 1 = g at HT ⊢
  have HG := hide (show w.heap.size ≤ g by omega)
  clear hg
  have hN0 : 0 ≤ (y * 100 + m) * 100 + d := by omega
  have hN1 : (y * 100 + m) * 100 + d ≤ 99999999 := by omega
  go_loopw [3, 19] (fun s i wr => ∃ (k : Nat) (D : Int) (xs : List Int), k ≤ 10 ∧ i = .int .i64 k ∧ s = .int .i64 D ∧ 0 ≤ D ∧ D ≤ 99999999 ∧ Hid (D = tD q1 q2 q3 q4 q5 q6 q7 q8 k) ∧ Hid (xs = tX q1 q2 q3 q4 q5 q6 q7 q8 k) ∧ Hid (TCells g wr xs) ∧ Hid (Below w.heap.size w wr)) (fun _ i _ => (10 - intOf i).toNat)
  case atStart => exact ⟨0, _, _, by omega, rfl, rfl, hN0, hN1, HN, rfl, HT, HL⟩
  case round =>
    clear HT HL HN hN0 hN1
    obtain ⟨k, D, xs, hk, rfl, rfl, hD0, hD1, HD, HX, HT, HL⟩ := hrel
    have hc : k = 0 ∨ k = 1 ∨ k = 2 ∨ k = 3 ∨ k = 4 ∨ k = 5 ∨ k = 6 ∨ k = 7 ∨ k = 8 ∨ k = 9 ∨ k = 10 := by omega
    rcases hc with rfl | rfl | rfl | rfl | rfl | rfl | rfl | rfl | rfl | rfl | rfl
    · have hr : D % 10 = q8 := by have h := HD.out; simp only [tD] at h; omega
      have HQ : Hid (D / 10 = tD q1 q2 q3 q4 q5 q6 q7 q8 1) := by have h := HD.out; unfold Hid; simp only [tD] at h ⊢; omega
      have HX2 : Hid (xs.set 9 (48 + q8) = tX q1 q2 q3 q4 q5 q6 q7 q8 1) := by unfold Hid; rw [HX.out]; rfl
      have c : wr.cell? ⟨g, 9, none⟩ = some (.int .u8 48) := by have h := HT.out.cell 9 (by omega); rw [HX.out] at h; exact h
      have f : wr.frozen? ⟨g, 9, none⟩ = false := HT.out.free 9 (by omega)
      go_wp2
      go_roundw
      case rel => exact ⟨1, _, _, by omega, rfl, rfl, by omega, by omega, HQ, HX2, HT.out.put 9 _ (by omega), HL.out.setCell HG.out _⟩
      case measure => simp [intOf]
    · have hr : D % 10 = q7 := by have h := HD.out; simp only [tD] at h; omega
      have HQ : Hid (D / 10 = tD q1 q2 q3 q4 q5 q6 q7 q8 2) := by have h := HD.out; unfold Hid; simp only [tD] at h ⊢; omega
      have HX2 : Hid (xs.set 8 (48 + q7) = tX q1 q2 q3 q4 q5 q6 q7 q8 2) := by unfold Hid; rw [HX.out]; rfl
      have c : wr.cell? ⟨g, 8, none⟩ = some (.int .u8 48) := by have h := HT.out.cell 8 (by omega); rw [HX.out] at h; exact h
      have f : wr.frozen? ⟨g, 8, none⟩ = false := HT.out.free 8 (by omega)
      go_wp2
      go_roundw
      case rel => exact ⟨2, _, _, by omega, rfl, rfl, by omega, by omega, HQ, HX2, HT.out.put 8 _ (by omega), HL.out.setCell HG.out _⟩
      case measure => simp [intOf]
    · go_wp2
      go_roundw
      case rel => exact ⟨3, _, _, by omega, rfl, rfl, by omega, by omega, HD, HX, HT, HL⟩
      case measure => simp [intOf]
    · have hr : D % 10 = q6 := by have h := HD.out; simp only [tD] at h; omega
      have HQ : Hid (D / 10 = tD q1 q2 q3 q4 q5 q6 q7 q8 4) := by have h := HD.out; unfold Hid; simp only [tD] at h ⊢; omega
      have HX2 : Hid (xs.set 6 (48 + q6) = tX q1 q2 q3 q4 q5 q6 q7 q8 4) := by unfold Hid; rw [HX.out]; rfl
      have c : wr.cell? ⟨g, 6, none⟩ = some (.int .u8 48) := by have h := HT.out.cell 6 (by omega); rw [HX.out] at h; exact h
      have f : wr.frozen? ⟨g, 6, none⟩ = false := HT.out.free 6 (by omega)
      go_wp2
      go_roundw
      case rel => exact ⟨4, _, _, by omega, rfl, rfl, by omega, by omega, HQ, HX2, HT.out.put 6 _ (by omega), HL.out.setCell HG.out _⟩
      case measure => simp [intOf]
    · have hr : D % 10 = q5 := by have h := HD.out; simp only [tD] at h; omega
      have HQ : Hid (D / 10 = tD q1 q2 q3 q4 q5 q6 q7 q8 5) := by have h := HD.out; unfold Hid; simp only [tD] at h ⊢; omega
      have HX2 : Hid (xs.set 5 (48 + q5) = tX q1 q2 q3 q4 q5 q6 q7 q8 5) := by unfold Hid; rw [HX.out]; rfl
      have c : wr.cell? ⟨g, 5, none⟩ = some (.int .u8 48) := by have h := HT.out.cell 5 (by omega); rw [HX.out] at h; exact h
      have f : wr.frozen? ⟨g, 5, none⟩ = false := HT.out.free 5 (by omega)
      go_wp2
      go_roundw
      case rel => exact ⟨5, _, _, by omega, rfl, rfl, by omega, by omega, HQ, HX2, HT.out.put 5 _ (by omega), HL.out.setCell HG.out _⟩
      case measure => simp [intOf]
    · go_wp2
      go_roundw
      case rel => exact ⟨6, _, _, by omega, rfl, rfl, by omega, by omega, HD, HX, HT, HL⟩
      case measure => simp [intOf]
    · have hr : D % 10 = q4 := by have h := HD.out; simp only [tD] at h; omega
      have HQ : Hid (D / 10 = tD q1 q2 q3 q4 q5 q6 q7 q8 7) := by have h := HD.out; unfold Hid; simp only [tD] at h ⊢; omega
      have HX2 : Hid (xs.set 3 (48 + q4) = tX q1 q2 q3 q4 q5 q6 q7 q8 7) := by unfold Hid; rw [HX.out]; rfl
      have c : wr.cell? ⟨g, 3, none⟩ = some (.int .u8 48) := by have h := HT.out.cell 3 (by omega); rw [HX.out] at h; exact h
      have f : wr.frozen? ⟨g, 3, none⟩ = false := HT.out.free 3 (by omega)
      go_wp2
      go_roundw
      case rel => exact ⟨7, _, _, by omega, rfl, rfl, by omega, by omega, HQ, HX2, HT.out.put 3 _ (by omega), HL.out.setCell HG.out _⟩
      case measure => simp [intOf]
    · have hr : D % 10 = q3 := by have h := HD.out; simp only [tD] at h; omega
      have HQ : Hid (D / 10 = tD q1 q2 q3 q4 q5 q6 q7 q8 8) := by have h := HD.out; unfold Hid; simp only [tD] at h ⊢; omega
      have HX2 : Hid (xs.set 2 (48 + q3) = tX q1 q2 q3 q4 q5 q6 q7 q8 8) := by unfold Hid; rw [HX.out]; rfl
      have c : wr.cell? ⟨g, 2, none⟩ = some (.int .u8 48) := by have h := HT.out.cell 2 (by omega); rw [HX.out] at h; exact h
      have f : wr.frozen? ⟨g, 2, none⟩ = false := HT.out.free 2 (by omega)
      go_wp2
      go_roundw
      case rel => exact ⟨8, _, _, by omega, rfl, rfl, by omega, by omega, HQ, HX2, HT.out.put 2 _ (by omega), HL.out.setCell HG.out _⟩
      case measure => simp [intOf]
    · have hr : D % 10 = q2 := by have h := HD.out; simp only [tD] at h; omega
      have HQ : Hid (D / 10 = tD q1 q2 q3 q4 q5 q6 q7 q8 9) := by have h := HD.out; unfold Hid; simp only [tD] at h ⊢; omega
      have HX2 : Hid (xs.set 1 (48 + q2) = tX q1 q2 q3 q4 q5 q6 q7 q8 9) := by unfold Hid; rw [HX.out]; rfl
      have c : wr.cell? ⟨g, 1, none⟩ = some (.int .u8 48) := by have h := HT.out.cell 1 (by omega); rw [HX.out] at h; exact h
      have f : wr.frozen? ⟨g, 1, none⟩ = false := HT.out.free 1 (by omega)
      go_wp2
      go_roundw
      case rel => exact ⟨9, _, _, by omega, rfl, rfl, by omega, by omega, HQ, HX2, HT.out.put 1 _ (by omega), HL.out.setCell HG.out _⟩
      case measure => simp [intOf]
    · have hr : D % 10 = q1 := by have h := HD.out; simp only [tD] at h; omega
      have HQ : Hid (D / 10 = tD q1 q2 q3 q4 q5 q6 q7 q8 10) := by have h := HD.out; unfold Hid; simp only [tD] at h ⊢; omega
      have HX2 : Hid (xs.set 0 (48 + q1) = tX q1 q2 q3 q4 q5 q6 q7 q8 10) := by unfold Hid; rw [HX.out]; rfl
      have c : wr.cell? ⟨g, 0, none⟩ = some (.int .u8 48) := by have h := HT.out.cell 0 (by omega); rw [HX.out] at h; exact h
      have f : wr.frozen? ⟨g, 0, none⟩ = false := HT.out.free 0 (by omega)
      go_wp2
      go_roundw
      case rel => exact ⟨10, _, _, by omega, rfl, rfl, by omega, by omega, HQ, HX2, HT.out.put 0 _ (by omega), HL.out.setCell HG.out _⟩
      case measure => simp [intOf]
    · have hcell : ∀ i, i < 10 → wr.cell? ⟨g, 0 + i, none⟩ = some (.int .u8 (xs.getD i 0)) := fun i hi => by rw [Nat.zero_add]; exact HT.out.cell i hi
      have kb := run_convert_bytes_arg (P := Try.prog) wr 45 5 Try.underlying45 Try.underlying5 g 0 10 10 xs HT.out.len hcell 9 Try.underlying9
      clear hcell
      go_wp2
      go_ret
      exact ⟨ret_str (by rw [HX.out]), HL.out⟩

theorem text_any (y m d : Int) (w : World) (h : Day y m d) :
    Calls Try.prog 15 #[aggD y m d] w fun e w' => e = .returned (.string (strOfNums (dateB y m d))) ∧ Below w.heap.size w w' := by
  obtain ⟨h1, h2, h3, h4, h5, h6⟩ := h
  have hml := mlen_pos y m
  exact text_digits y m d (y / 1000) (y / 100 % 10) (y / 10 % 10) (y % 10) (m / 10) (m % 10) (d / 10) (d % 10) w h1 h2 h3 h4 h5 (by omega)
    ⟨by omega, by omega⟩ ⟨by omega, by omega⟩ ⟨by omega, by omega⟩ ⟨by omega, by omega⟩ ⟨by omega, by omega⟩ ⟨by omega, by omega⟩ ⟨by omega, by omega⟩ ⟨by omega, by omega⟩ (by simp only [tD]; omega)

/-- What Print answers. -/
noncomputable def printP (x : Int) : ByteArray × Int := if (partsP x).2.2.2 = 0 then (strOfNums (dateB (partsP x).1 (partsP x).2.1 (partsP x).2.2.1), 0) else (⟨#[]⟩, 31)

theorem printP_of {y m d : Int} (h : Day y m d) : printP (numOf y m d) = (strOfNums (dateB y m d), 0) := by
  unfold printP; rw [partsP_of h]; simp

theorem printP_no {x : Int} (h : ¬ (1 ≤ x ∧ x ≤ 3652059)) : printP x = (⟨#[]⟩, 31) := by
  unfold printP; rw [partsP_no h]; simp

def duoS (p : ByteArray × Int) : Value := .tuple #[.string p.1, .int .i64 p.2]

set_option maxHeartbeats 400000 in
theorem print_any (x : Int) (w : World) :
    Calls Try.prog 8 #[.int .i64 x] w fun e w' => e = .returned (duoS (printP x)) ∧ Below w.heap.size w w' := by
  by_cases hx : 1 ≤ x ∧ x ≤ 3652059
  · obtain ⟨y, m, d, hd, he⟩ := day_of x hx.1 hx.2
    have HP := hide (printP_of hd)
    obtain ⟨hx1, hx2⟩ := hx
    rw [he] at HP
    have HC := hide (fun W => partsOf_any y m d W hd)
    rw [he] at HC
    have HD := hide hd
    clear hd he
    go_enter Try.func8, Try.ntmps8
    go_wp2_with fail
    refine (isDay_yes _ _ hx1 hx2).mono ?_
    rintro e w1 ⟨rfl, rfl⟩
    go_wp2_with fail
    refine (HC.out _).mono ?_
    rintro e w2 ⟨rfl, hb⟩
    clear HC
    go_wp2_with fail
    refine (text_any y m d _ HD.out).mono ?_
    rintro e w3 ⟨rfl, hb3⟩
    go_wp2
    go_ret2
    exact ⟨by rw [HP.out]; rfl, hb.trans (hb3.mono hb.size)⟩
  · have HP := hide (printP_no hx)
    have HX := hide hx
    clear hx
    go_enter Try.func8, Try.ntmps8
    go_wp2_with fail
    refine (isDay_no _ _ HX.out).mono ?_
    rintro e w1 ⟨rfl, rfl⟩
    go_wp2
    go_ret2
    exact ⟨by rw [HP.out]; rfl, Below.refl _ _⟩

end Go.Proofs.Ytnafhjmeofddoab
