/- CopyMoney answers a slice of its own with the same amounts, and SameMoney says whether two slices hold the same amounts. -/
import Derived.Test.YthpbadnedhjncaaDoorInts
namespace Go.Proofs.YthpbadnedhjncaaDoor
open Go.RowKit

theorem infoMoney : (Tryd.prog.info? 22).map (fun i => (i.zero, i.size, i.bytes)) = some (some (.int .i64 0), 1, 8) := by kernel_rfl

set_option maxHeartbeats 400000 in
theorem copyMoney_any (a : Option Addr) (len cap : Nat) (zs : List Int) (w : World) (hl : zs.length = len) (hlen : len ≤ 17592186044416) (h : Nums .i64 w a zs) :
    Calls Tryd.prog 21 #[.slice a len cap] w fun e w' => ∃ x cx, e = .returned (.slice x len cx) ∧ w'.ownsRow w.heap.size 22 1 (.slice x len cx) len (zs.map (Value.int .i64)) ∧ Below w.heap.size w w' := by
  obtain ⟨i0, hi, hz0, hz1, hz2⟩ := info_parts infoMoney
  have HL := hide hl
  have HR := hide h
  clear hl h
  go_enter Tryd.func21, Tryd.ntmps21
  go_wp2
  go_loopw [3, 4] (fun v i wr => ∃ k : Nat, k ≤ len ∧ i = .int .i64 k ∧ wr.ownsRow w.heap.size 22 1 v k ((zs.take k).map (Value.int .i64)) ∧ Below w.heap.size w wr)
    (fun _ i _ => len - (intOf i).toNat)
  case atStart => exact ⟨0, Nat.zero_le _, rfl, World.ownsRow_nil _ _ _ _, Below.refl _ _⟩
  case round =>
    obtain ⟨k, hk, rfl, hown, hbel⟩ := hrel
    by_cases hlt : k < len
    · obtain ⟨b, off, c, ha, hcx, HT, _, _⟩ := Nums.get HR.out HL.out hbel hlt
      subst ha
      go_wp2_with (first
        | (at_builtin; go_must (refine wpList_append_own _ rfl _ _ 41 rfl w.heap.size 22 i0 (.int .i64 0) 1 8 Tryd.underlying41 hi hz0 hz1 hz2 rfl (by decide) _ _ _ rfl (hown.alloc _) ⟨wr.heap.size, 0, none⟩ 1 1 [.int .i64 c] rfl rfl (cell_one_new _ _ _) (one_cell _ _) (by unfold maxLen; omega) (by omega) (by have := hbel.size; simp; omega) ?_))
        | go_in)
      intro v' w1 hown' hgrow _
      have hbel1 : Below w.heap.size w w1 := (hbel.alloc hbel.size _).grown hgrow (by have := hbel.size; simp; omega) (fun k hk => (hown.lt k hk).1)
      clear hgrow
      go_wp2
      go_roundw
      case rel => exact ⟨k + 1, by omega, by go_num, by rw [HT.out]; simpa using hown', hbel1⟩
      case measure => simp [intOf]; omega
    · obtain ⟨x, cx, hv⟩ := own_shape hown
      subst hv
      go_wp2
      go_ret
      have : k = len := by omega
      subst this
      rw [List.take_of_length_le (by rw [HL.out]; omega)] at hown
      exact ⟨_, _, rfl, hown, hbel⟩

set_option maxHeartbeats 400000 in
theorem sameMoney_any (a1 a2 : Option Addr) (len1 cap1 len2 cap2 : Nat) (xs ys : List Int) (w : World) (hl1 : xs.length = len1) (hl2 : ys.length = len2) (hlen : len1 ≤ 140737488355328) (h1 : Nums .i64 w a1 xs) (h2 : Nums .i64 w a2 ys) :
    Calls Tryd.prog 24 #[.slice a1 len1 cap1, .slice a2 len2 cap2] w fun e w' => e = .returned (.bool (decide (xs = ys))) ∧ Below w.heap.size w w' := by
  have HL1 := hide hl1
  have HL2 := hide hl2
  have HR1 := hide h1
  have HR2 := hide h2
  clear hl1 hl2 h1 h2
  by_cases hne : len1 = len2
  · subst hne
    go_enter Tryd.func24, Tryd.ntmps24
    go_wp2
    go_loopw [5] (fun i wr => ∃ k : Nat, k ≤ len1 ∧ i = .int .i64 k ∧ Hid (xs.take k = ys.take k) ∧ Below w.heap.size w wr)
      (fun i _ => len1 - (intOf i).toNat)
    case atStart => exact ⟨0, Nat.zero_le _, rfl, by simp [Hid], Below.refl _ _⟩
    case round =>
      obtain ⟨k, hk, rfl, HE, hbel⟩ := hrel
      by_cases hlt : k < len1
      · obtain ⟨b1, off1, c, ha1, hcx1, HT1, _, _⟩ := Nums.get HR1.out HL1.out hbel hlt
        obtain ⟨b2, off2, d, ha2, hcx2, HT2, _, _⟩ := Nums.get HR2.out HL2.out hbel hlt
        subst ha1
        subst ha2
        by_cases hcd : c = d
        · have hcdb : (c != d) = false := by simp [hcd]
          have HCD := hide hcd
          clear hcd
          go_wp2
          go_region
          all_goals (try go_wp2)
          all_goals
            go_roundw
            case rel => exact ⟨k + 1, by omega, by go_num, take_eq_step HT1.out HT2.out HE.out HCD.out, by first | exact hbel.drew | exact hbel.drew.drew | exact hbel⟩
            case measure => simp [intOf]; omega
        · have hcdb : (c != d) = true := by simp [hcd]
          have HCD : Hid (c ≠ d) := hcd
          clear hcd
          go_wp2
          go_region
          all_goals (try go_wp2)
          all_goals go_ret
          all_goals exact ⟨ret_bool (by simp [take_ne HT1.out HT2.out HE.out HCD.out]), by first | exact hbel.drew | exact hbel.drew.drew | exact hbel⟩
      · go_wp2
        go_ret
        have : xs = ys := by
          have h := HE.out
          rw [List.take_of_length_le (by rw [HL1.out]; omega), List.take_of_length_le (by rw [HL2.out]; omega)] at h
          exact h
        exact ⟨ret_bool (by simp [this]), hbel⟩
  · have hb : ((len1 : Int) != len2) = true := by simp; omega
    have HN : Hid (xs ≠ ys) := by
      intro e
      have h1 := HL1.out
      have h2 := HL2.out
      subst e; omega
    go_enter Tryd.func24, Tryd.ntmps24
    go_wp2
    go_ret
    exact ⟨ret_bool (by simp [HN.out]), Below.refl _ _⟩

end Go.Proofs.YthpbadnedhjncaaDoor
