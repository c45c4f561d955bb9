/- Sum: of any bytes it answers what crc says, and leaves what was there as it was. -/
import Derived.Test.YtagpdceaononkaaOBase
import Derived.Test.YtagpdceaononkaaCrc
import Derived.Laws.Tables
namespace Go.Proofs.Ytagpdceaononkaa
open Go.RowKit

/-- The table when its first k places are laid. -/
def tab (k : Nat) : Array Value := ((List.range 16).map fun j => Value.int .u32 (if j < k then (bitSteps 4 j : Nat) else 0)).toArray

theorem tab_size (k : Nat) : (tab k).size = 16 := by simp [tab]

theorem tab_zero : tab 0 = #[.int .u32 0, .int .u32 0, .int .u32 0, .int .u32 0, .int .u32 0, .int .u32 0, .int .u32 0, .int .u32 0, .int .u32 0, .int .u32 0, .int .u32 0, .int .u32 0, .int .u32 0, .int .u32 0, .int .u32 0, .int .u32 0] := by
  rfl

theorem tab_set (k : Nat) : (tab k).setIfInBounds k (.int .u32 (bitSteps 4 k : Nat)) = tab (k + 1) := by
  apply Array.ext_getElem?
  intro i
  by_cases hi : i < 16
  · by_cases e : k = i
    · subst e
      simp [tab, hi]
    · simp only [tab, Array.getElem?_setIfInBounds, e, if_false]
      simp [hi, show (i < k + 1) ↔ (i < k) by omega]
  · simp [tab, hi]

/-- What sumSteps' rounds hold. -/
structure Tabs (w wr : World) (k : Nat) : Prop where
  res : wr.heap[w.heap.size]? = some (.cells (tab 0) 91 (0, 0))
  steps : wr.heap[w.heap.size + 1]? = some (.cells (tab k) 91 (0, 0))
  below : Below w.heap.size w wr

theorem bitStep_odd (s : Nat) (h : s % 2 = 1) (hs : s < 4294967296) : bits .xor .u32 (((s / 2 : Nat)) : Int) 2197175160 = (bitStep s : Nat) := by
  have := u32_xor_nat (s / 2) 2197175160 (by omega) (by decide)
  rw [bitStep, if_pos h, ← this]; rfl

theorem and_one (x : Nat) (h : x < 4294967296) : bits .and .u32 (x : Int) 1 = ((x % 2 : Nat) : Int) := by
  have := u32_and_nat x 1 h (by decide)
  rw [nat_mask1] at this
  exact this

theorem info56 : (Try.prog.info? 91).map (·.size) = some 16 := by kernel_rfl

theorem tab_one (k : Nat) : (tab k).all (·.oneCell') = true := by
  simp [tab, Value.oneCell']

theorem setRow_below {B g : Nat} {a w : World} (h : Below B a w) (hB : B ≤ g) (cs : Array Value) : Below B a (w.setRow g cs) := by
  refine h.trans ⟨rfl, rfl, rfl, by simp [World.setRow], fun k hk => ?_⟩
  simp only [World.setRow, Array.getElem?_modify]
  rw [if_neg (by omega)]

theorem Tabs.set {w wr : World} {k : Nat} (h : Tabs w wr k) : Tabs w (wr.setCell ⟨w.heap.size + 1, k, none⟩ (.int .u32 (bitSteps 4 k : Nat))) (k + 1) := by
  refine ⟨?_, ?_, h.below.setCell (by simp) _⟩
  · rw [heap_setCell_other _ _ _ _ (by simp)]; exact h.res
  · rw [heap_setCell_same _ _ _ _ _ _ h.steps, tab_set k]

set_option maxHeartbeats 400000 in
theorem steps_any (w : World) :
    Calls Try.prog 51 #[] w fun e w' => e = .returned (.agg (tab 16)) ∧ Below w.heap.size w w' := by
  go_enter Try.func51, Try.ntmps51
  go_wp2_with fail
  go_loopw [4] (fun i wr => ∃ k : Nat, k ≤ 16 ∧ i = .int .i64 k ∧ Tabs w wr k) (fun i _ => 16 - (intOf i).toNat)
  case atStart => exact ⟨0, by omega, rfl, ⟨by rw [tab_zero]; exact heap_alloc2_old _ _ _, by rw [tab_zero]; exact heap_alloc2_new _ _ _, ((Below.refl _ _).alloc (Nat.le_refl _) _).alloc (by simp) _⟩⟩
  case round =>
    obtain ⟨k, hk, rfl, hT⟩ := hrel
    by_cases hlt : k < 16
    · have HT := hide hT
      clear hT
      go_wp2_with fail
      go_loop [3, 9] (fun s i => ∃ j x : Nat, j ≤ 4 ∧ x ≤ 4294967295 ∧ i = .int .i64 j ∧ s = .int .u32 x ∧ Hid (x = bitSteps j k)) (fun _ i => 4 - (intOf i).toNat)
      case atStart => exact ⟨0, k, by omega, by omega, rfl, rfl, rfl⟩
      case round =>
        obtain ⟨j, x, hj, hx, rfl, rfl, HX⟩ := hrel
        by_cases hj4 : j < 4
        · by_cases ho : x % 2 = 1
          · have hb : (bits .and .u32 (x : Int) 1 == 1) = true := by rw [and_one x (by omega)]; simp; omega
            have HS := hide (bitStep_odd x ho (by omega))
            have HL := hide (bitStep_lt (s := x) (by omega))
            clear ho
            go_wp2_with fail
            go_round
            case rel => exact ⟨j + 1, bitStep x, by omega, by have := HL.out; omega, by go_num, by rw [← HS.out]; simp, by unfold Hid; rw [bitSteps_succ, ← HX.out]⟩
            case measure => simp [intOf]; omega
          · have hb : (bits .and .u32 (x : Int) 1 == 1) = false := by rw [and_one x (by omega)]; simp; omega
            have HS : Hid (bitStep x = x / 2) := by unfold Hid bitStep; rw [if_neg ho]
            clear ho
            go_wp2_with fail
            go_round
            case rel => exact ⟨j + 1, bitStep x, by omega, by rw [HS.out]; omega, by go_num, by rw [HS.out]; simp, by unfold Hid; rw [bitSteps_succ, ← HX.out]⟩
            case measure => simp [intOf]; omega
        · have hj5 : 4 ≤ j := by omega
          have HE : Hid (x = bitSteps 4 k) := by have := HX.out; rwa [show j = 4 by omega] at this
          have hcell : wr.cell? ⟨w.heap.size + 1, k, none⟩ = some (.int .u32 0) := by rw [cell_of_row _ _ _ _ _ _ HT.out.steps]; simp [tab, hlt]
          have hfr : wr.frozen? ⟨w.heap.size + 1, k, none⟩ = false := frozen_of_row _ _ _ _ _ HT.out.steps
          go_wp2_with fail
          go_roundw
          case rel => exact ⟨k + 1, by omega, by go_num, by rw [HE.out]; exact HT.out.set⟩
          case measure => simp [intOf]; omega
    · have e : k = 16 := by omega
      subst e
      have h1 := hT.steps
      have h2 := hT.res
      have h3 := hT.below
      clear hT
      go_wp2_with (first
        | refine wpList_load_row rfl 91 _ rfl (w.heap.size + 1) rfl 91 _ _ _ h1 Try.underlying91 rfl (by rw [tab_size]; exact info56) ?_
        | refine wpList_store_row rfl 91 _ _ rfl w.heap.size (tab 16) rfl rfl 91 _ h2 (by rw [tab_size]; exact info56) rfl (tab_one 16) ?_)
      exact bodyPost_ret (results_cell_row rfl _ _ w.heap.size 91 (tab 16) (0, 0) _ rfl (setRow_heap _ _ _ _ _ _ h2) Try.underlying91 rfl (by rw [tab_size]; exact info56)) rfl ⟨rfl, setRow_below h3 (Nat.le_refl _) _⟩

theorem tab_cell (w : World) (g m : Nat) (h : w.heap[g]? = some (.cells (tab 16) 91 (0, 0))) (hm : m < 16) : w.cell? ⟨g, m, none⟩ = some (.int .u32 (bitSteps 4 m : Nat)) := by
  rw [cell_of_row _ _ _ _ _ _ h]; simp [tab, hm]

theorem xor_cast (a b : Nat) (ha : a < 4294967296) (hb : b < 4294967296) : bits .xor .u32 (a : Int) (b : Int) = ((a ^^^ b : Nat) : Int) := u32_xor_nat a b ha hb

theorem and_fifteen (x : Nat) (h : x < 4294967296) : bits .and .u32 (x : Int) 15 = ((x % 16 : Nat) : Int) := by
  have := u32_and_nat x 15 h (by decide)
  rw [nat_mask4] at this
  exact this

theorem half_step (x : Nat) : x / 16 ^^^ bitSteps 4 (x % 16) = bitSteps 4 x := (bitSteps_table 4 x).symm

/-- Half a round of Sum, each number by a name of its own. -/
theorem sum_half (w : World) (g x : Nat) (hg : w.heap[g]? = some (.cells (tab 16) 91 (0, 0))) (hx : x ≤ 4294967295) :
    ∃ m t y : Nat, bits .and .u32 (x : Int) 15 = (m : Int) ∧ m ≤ 15 ∧ w.cell? ⟨g, m, none⟩ = some (.int .u32 (t : Int)) ∧ bits .xor .u32 ((x : Int) / 16) (t : Int) = (y : Int) ∧ y ≤ 4294967295 ∧ y = bitSteps 4 x := by
  have hy : bitSteps 4 x < 4294967296 := bitSteps_lt 4 (Nat.lt_succ_of_le hx)
  have hm : x % 16 < 16 := Nat.mod_lt _ (by decide)
  have ht : bitSteps 4 (x % 16) < 4294967296 := bitSteps_lt 4 (by omega)
  have hc := tab_cell w g (x % 16) hg hm
  have hb := half_step x
  generalize bitSteps 4 (x % 16) = t at *
  generalize bitSteps 4 x = y at *
  refine ⟨x % 16, t, y, and_fifteen x (by omega), by omega, hc, ?_, by omega, rfl⟩
  have e : ((x : Int) / 16) = ((x / 16 : Nat) : Int) := by omega
  rw [e, ← hb]
  exact xor_cast (x / 16) t (by omega) ht

theorem sum_first (s : Nat) (c : Int) (hs : s ≤ 4294967295) (hc0 : 0 ≤ c) (hc1 : c ≤ 255) : ∃ x : Nat, bits .xor .u32 (s : Int) c = (x : Int) ∧ x ≤ 4294967295 ∧ x = s ^^^ c.toNat := by
  obtain ⟨n, rfl⟩ := Int.eq_ofNat_of_zero_le hc0
  have hx1 : s ^^^ n < 4294967296 := Nat.xor_lt_two_pow (n := 32) (by omega) (by omega)
  exact ⟨s ^^^ n, xor_cast s n (by omega) (by omega), by omega, by simp⟩

theorem sum_take {zs : List Int} {k : Nat} {c : Int} {s x : Nat} (ht : zs.take (k + 1) = zs.take k ++ [c]) (hs : s = sumFrom 4294967295 (zs.take k)) (hx : x = bitSteps 8 (s ^^^ c.toNat)) : x = sumFrom 4294967295 (zs.take (k + 1)) := by
  rw [ht, sumFrom_append, ← hs, hx]; rfl

theorem ret_u32 {x y : Int} (h : x = y) : Ending.returned (.int .u32 x) = .returned (.int .u32 y) := by rw [h]

set_option maxHeartbeats 400000 in
theorem sum_any (a : Option Addr) (len cap : Nat) (zs : List Int) (w : World) (hl : zs.length = len) (hlen : len ≤ 140737488355328) (h : Row w a zs) :
    Calls Try.prog 46 #[.slice a len cap] w fun e w' => e = .returned (.int .u32 (crc zs)) ∧ Below w.heap.size w w' := by
  have HL := hide hl
  have HR := hide h
  have HB := hide h.byte
  clear hl h
  go_enter Try.func46, Try.ntmps46
  go_wp2_with (first
    | (go_at_call 51; refine (steps_any _).mono ?_; rintro e w1 ⟨rfl, hbel⟩)
    | refine wpList_store_row rfl 91 _ _ rfl w1.heap.size (tab 16) rfl rfl 91 _ (heap_alloc_new _ _) (by rw [tab_size]; exact info56) rfl (tab_one 16) ?_)
  have hg : ((w1.alloc (.cells #[.int .u32 0, .int .u32 0, .int .u32 0, .int .u32 0, .int .u32 0, .int .u32 0, .int .u32 0, .int .u32 0, .int .u32 0, .int .u32 0, .int .u32 0, .int .u32 0, .int .u32 0, .int .u32 0, .int .u32 0, .int .u32 0] 91)).setRow w1.heap.size (tab 16)).heap[w1.heap.size]? = some (.cells (tab 16) 91 (0, 0)) := setRow_heap _ _ _ _ _ _ (heap_alloc_new _ _)
  have hbW : Below w.heap.size w ((w1.alloc (.cells #[.int .u32 0, .int .u32 0, .int .u32 0, .int .u32 0, .int .u32 0, .int .u32 0, .int .u32 0, .int .u32 0, .int .u32 0, .int .u32 0, .int .u32 0, .int .u32 0, .int .u32 0, .int .u32 0, .int .u32 0, .int .u32 0] 91)).setRow w1.heap.size (tab 16)) := setRow_below (hbel.alloc hbel.size _) hbel.size _
  generalize (w1.alloc (.cells #[.int .u32 0, .int .u32 0, .int .u32 0, .int .u32 0, .int .u32 0, .int .u32 0, .int .u32 0, .int .u32 0, .int .u32 0, .int .u32 0, .int .u32 0, .int .u32 0, .int .u32 0, .int .u32 0, .int .u32 0, .int .u32 0] 91)).setRow w1.heap.size (tab 16) = W at *
  generalize w1.heap.size = g at *
  have HG := hide hg
  have HBW := hide hbW
  clear hg hbW hbel
  go_loop [4, 10] (fun s i => ∃ k x : Nat, k ≤ len ∧ x ≤ 4294967295 ∧ i = .int .i64 k ∧ s = .int .u32 x ∧ Hid (x = sumFrom 4294967295 (zs.take k))) (fun _ i => len - (intOf i).toNat)
  case atStart => exact ⟨0, 4294967295, by omega, by omega, rfl, rfl, rfl⟩
  case round =>
    obtain ⟨k, s, hk, hs, rfl, rfl, HS⟩ := hrel
    by_cases hlt : k < len
    · obtain ⟨b, off, c, ha, hcx, hc0, hc1, HT⟩ := Row.get' HR.out HL.out HBW.out hlt
      subst ha
      obtain ⟨x1, e1, hx1, f1⟩ := sum_first s c hs hc0 hc1
      obtain ⟨m1, t1, x2, e2, hm1, hd1, e3, hx2, f2⟩ := sum_half W g x1 HG.out hx1
      obtain ⟨m2, t2, x3, e4, hm2, hd2, e5, hx3, f3⟩ := sum_half W g x2 HG.out hx2
      have HX := hide (sum_take HT.out HS.out (show x3 = bitSteps 8 (s ^^^ c.toNat) by rw [f3, f2, f1]; exact (bitSteps_add 4 4 _).symm))
      clear f1 f2 f3 HT HS HR HG
      go_wp2
      go_round
      case rel => exact ⟨k + 1, x3, by omega, hx3, by go_num, rfl, HX⟩
      case measure => simp [intOf]; omega
    · have HE : Hid (s = sumFrom 4294967295 zs) := by have := HS.out; rwa [List.take_of_length_le (by rw [HL.out]; omega)] at this
      go_wp2
      go_ret
      exact ⟨ret_u32 (by rw [HE.out]; exact xor_cast 4294967295 _ (by decide) (by rw [← HE.out]; omega)), HBW.out⟩

end Go.Proofs.Ytagpdceaononkaa
