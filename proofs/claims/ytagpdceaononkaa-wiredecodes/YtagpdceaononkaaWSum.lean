/- sumOf. -/
import Derived.Test.YtagpdceaononkaaWSt
import Derived.Test.YtagpdceaononkaaSum
namespace Go.Proofs.Ytagpdceaononkaa
open Go.RowKit

/-- The four bytes when the first k are laid. -/
def fourA (k : Nat) (n : Int) : Array Value := ((List.range 4).map fun j => Value.int .u8 (if j < k then (fourB n).getD j 0 else 0)).toArray
theorem fourA_zero (n : Int) : fourA 0 n = #[.int .u8 0, .int .u8 0, .int .u8 0, .int .u8 0] := rfl
theorem fourA_four (n : Int) : fourA 4 n = (byts (fourB n)).toArray := rfl
theorem fourA_size (k : Nat) (n : Int) : (fourA k n).size = 4 := by simp [fourA]
theorem fourA_set (k : Nat) (n : Int) (hk : k < 4) : (fourA k n).setIfInBounds k (.int .u8 ((fourB n).getD k 0)) = fourA (k + 1) n := by
  have : k = 0 ∨ k = 1 ∨ k = 2 ∨ k = 3 := by omega
  rcases this with rfl | rfl | rfl | rfl <;> rfl
theorem fourA_one (k : Nat) (n : Int) : (fourA k n).all (·.oneCell') = true := by simp [fourA, Value.oneCell']
theorem info4 : (Try.prog.info? 80).map (·.size) = some 4 := by kernel_rfl
structure Four (w wr : World) (k : Nat) (n : Int) : Prop where
  res : wr.heap[w.heap.size]? = some (.cells (fourA 0 n) 80 (0, 0))
  got : wr.heap[w.heap.size + 1]? = some (.cells (fourA k n) 80 (0, 0))
  below : Below w.heap.size w wr
theorem Four.set {w wr : World} {k : Nat} {n : Int} (h : Four w wr k n) (hk : k < 4) : Four w (wr.setCell ⟨w.heap.size + 1, k, none⟩ (.int .u8 ((fourB n).getD k 0))) (k + 1) n := by
  refine ⟨?_, ?_, h.below.setCell (by simp) _⟩
  · rw [heap_setCell_other _ _ _ _ (by simp)]; exact h.res
  · rw [heap_setCell_same _ _ _ _ _ _ h.got, fourA_set k n hk]
set_option maxRecDepth 100000 in
set_option maxHeartbeats 3200000 in
theorem sumOf_any (a : Option Addr) (len cap : Nat) (zs : List Int) (w : World) (hl : zs.length = len) (hlen : len ≤ 140737488355328) (h : Row w a zs) (hz : ∀ z ∈ zs, 0 ≤ z ∧ z ≤ 255) :
    Calls Try.prog 37 #[.slice a len cap] w fun e w' => e = .returned (.agg (byts (fourB (crc zs))).toArray) ∧ Below w.heap.size w w' := by
  have hn0 : 0 ≤ crc zs := by unfold crc; omega
  have hn1 : crc zs < 4294967296 := by
    have h1 := sumFrom_lt zs 4294967295 (by decide) hz
    have h2 := Nat.xor_lt_two_pow (x := 4294967295) (n := 32) (by decide) h1
    unfold crc
    omega
  have hb1 := below_new w (.cells #[.int .u8 0, .int .u8 0, .int .u8 0, .int .u8 0] 80)
  have hb2 := hb1.alloc hb1.size (.cells #[.int .u8 0, .int .u8 0, .int .u8 0, .int .u8 0] 80)
  have CS := hide (sum_any a len cap zs _ hl hlen (h.below hb2 (Nat.le_refl _)))
  generalize crc zs = n at *
  have HB2 := hide hb2
  have h0 := heap_alloc2_old w (.cells #[.int .u8 0, .int .u8 0, .int .u8 0, .int .u8 0] 80) (.cells #[.int .u8 0, .int .u8 0, .int .u8 0, .int .u8 0] 80)
  have h1 := heap_alloc2_new w (.cells #[.int .u8 0, .int .u8 0, .int .u8 0, .int .u8 0] 80) (.cells #[.int .u8 0, .int .u8 0, .int .u8 0, .int .u8 0] 80)
  have HS : Hid (((w.alloc (.cells #[.int .u8 0, .int .u8 0, .int .u8 0, .int .u8 0] 80)).alloc (.cells #[.int .u8 0, .int .u8 0, .int .u8 0, .int .u8 0] 80)).heap.size = w.heap.size + 2) := hide (by simp)
  have H0 := hide h0
  have H1 := hide h1
  clear h hb1 hb2 h0 h1 hz
  go_enter Try.func37, Try.ntmps37
  go_wp2_with (go_at_call 46; refine CS.out.mono ?_; rintro _ w1 ⟨rfl, hw1⟩; have HF : Hid (Four w w1 0 n) := hide ⟨(hw1.block _ (by have := HS.out; omega)).trans H0.out, (hw1.block _ (by have := HS.out; omega)).trans H1.out, HB2.out.trans (hw1.mono (by have := HS.out; omega))⟩; clear hw1)
  clear CS H0 H1 HS HB2
  go_loopw [8] (fun x wr => ∃ k : Nat, k ≤ 4 ∧ x = .int .i64 k ∧ Hid (Four w wr k n)) (fun x _ => 4 - (intOf x).toNat)
  case atStart => exact ⟨0, by omega, rfl, HF⟩
  case round =>
    clear HF
    obtain ⟨k, hk, rfl, HF⟩ := hrel
    by_cases hlt : k < 4
    · have hcs : k = 0 ∨ k = 1 ∨ k = 2 ∨ k = 3 := by omega
      have hfr : ∀ k, wr.frozen? ⟨w.heap.size + 1, k, none⟩ = false := fun k => frozen_of_row _ _ k _ _ HF.out.got
      have HN := hide (HF.out.set hlt)
      rcases hcs with rfl | rfl | rfl | rfl
      · have hcell : wr.cell? ⟨w.heap.size + 1, 0, none⟩ = some (.int .u8 0) := by rw [cell_of_row _ _ _ _ _ _ HF.out.got]; rfl
        have hw8 : IntKind.u8.wrap n = n % 256 := IntKind.wrap_u8' _
        go_wp2_with fail
        go_roundw
        case rel => exact ⟨0 + 1, by omega, by go_num, HN⟩
        case measure => simp [intOf]
      · have hcell : wr.cell? ⟨w.heap.size + 1, 1, none⟩ = some (.int .u8 0) := by rw [cell_of_row _ _ _ _ _ _ HF.out.got]; rfl
        have hw8 : IntKind.u8.wrap (n / 256) = n / 256 % 256 := IntKind.wrap_u8' _
        go_wp2_with fail
        go_roundw
        case rel => exact ⟨1 + 1, by omega, by go_num, HN⟩
        case measure => simp [intOf]
      · have hcell : wr.cell? ⟨w.heap.size + 1, 2, none⟩ = some (.int .u8 0) := by rw [cell_of_row _ _ _ _ _ _ HF.out.got]; rfl
        have hw8 : IntKind.u8.wrap (n / 65536) = n / 65536 % 256 := IntKind.wrap_u8' _
        go_wp2_with fail
        go_roundw
        case rel => exact ⟨2 + 1, by omega, by go_num, HN⟩
        case measure => simp [intOf]
      · have hcell : wr.cell? ⟨w.heap.size + 1, 3, none⟩ = some (.int .u8 0) := by rw [cell_of_row _ _ _ _ _ _ HF.out.got]; rfl
        have hw8 : IntKind.u8.wrap (n / 16777216) = n / 16777216 % 256 := IntKind.wrap_u8' _
        go_wp2_with fail
        go_roundw
        case rel => exact ⟨3 + 1, by omega, by go_num, HN⟩
        case measure => simp [intOf]
    · have e : k = 4 := by omega
      subst e
      have h1 := HF.out.got
      have h2 := HF.out.res
      have h3 := HF.out.below
      clear HF
      go_wp2_with (first
        | refine wpList_load_row rfl 80 _ rfl (w.heap.size + 1) rfl 80 _ _ _ h1 Try.underlying80 rfl (by rw [fourA_size]; exact info4) ?_
        | refine wpList_store_row rfl 80 _ _ rfl w.heap.size (fourA 4 n) rfl rfl 80 _ h2 (by rw [fourA_size]; exact info4) rfl (fourA_one 4 n) ?_)
      exact bodyPost_ret (results_cell_row rfl _ _ w.heap.size 80 (fourA 4 n) (0, 0) _ rfl (setRow_heap _ _ _ _ _ _ h2) Try.underlying80 rfl (by rw [fourA_size]; exact info4)) rfl ⟨rfl, setRow_below h3 (Nat.le_refl _) _⟩
end Go.Proofs.Ytagpdceaononkaa
