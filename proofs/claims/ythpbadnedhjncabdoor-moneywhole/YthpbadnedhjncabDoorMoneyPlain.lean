/- CopyMoney answers a slice of its own with the same amounts, and SameMoney says whether two slices hold the same amounts. -/
import Derived.Test.YthpbadnedhjncabDoorInts
namespace Go.Proofs.YthpbadnedhjncabDoor
open Go.RowKit

theorem infoMoney : (Tryd.prog.info? 25).map (fun i => (i.zero, i.size, i.bytes)) = some (some (.int .i64 0), 1, 8) := by kernel_rfl

set_option maxHeartbeats 400000 in
theorem copyMoney_any (a : Option Addr) (len cap : Nat) (zs : List Int) (w : World) (hl : zs.length = len) (hlen : len ≤ 17592186044416) (h : Nums .i64 w a zs) :
    Calls Tryd.prog 7 #[.slice a len cap] w fun e w' => ∃ x cx, e = .returned (.slice x len cx) ∧ w'.ownsRow w.heap.size 25 1 (.slice x len cx) len (zs.map (Value.int .i64)) ∧ Below w.heap.size w w' := by
  obtain ⟨i0, hi, hz0, hz1, hz2⟩ := info_parts infoMoney
  have HL := hide hl
  have HR := hide h
  clear hl h
  go_enter Tryd.func7, Tryd.ntmps7
  go_wp2
  go_loopw [3, 4] (fun v i wr => ∃ k : Nat, k ≤ len ∧ i = .int .i64 k ∧ wr.ownsRow w.heap.size 25 1 v k ((zs.take k).map (Value.int .i64)) ∧ Below w.heap.size w wr)
    (fun _ i _ => len - (intOf i).toNat)
  case atStart => exact ⟨0, Nat.zero_le _, rfl, World.ownsRow_nil _ _ _ _, Below.refl _ _⟩
  case round =>
    obtain ⟨k, hk, rfl, hown, hbel⟩ := hrel
    by_cases hlt : k < len
    · obtain ⟨b, off, c, ha, hcx, HT, _, _⟩ := Nums.get HR.out HL.out hbel hlt
      subst ha
      go_wp2_with (first
        | (at_builtin; go_must (refine wpList_append_own _ rfl _ _ 22 rfl w.heap.size 25 i0 (.int .i64 0) 1 8 Tryd.underlying22 hi hz0 hz1 hz2 rfl (by decide) _ _ _ rfl (hown.alloc _) ⟨wr.heap.size, 0, none⟩ 1 1 [.int .i64 c] rfl rfl (cell_one_new _ _ _) (one_cell _ _) (by unfold maxLen; omega) (by omega) (by have := hbel.size; simp; omega) ?_))
        | go_in)
      intro v' w1 hown' hgrow _
      have hbel1 : Below w.heap.size w w1 := (hbel.alloc hbel.size _).grown hgrow (by have := hbel.size; simp; omega) (fun k hk => (hown.lt k hk).1)
      clear hgrow
      go_wp2
      go_roundw
      case rel => exact ⟨k + 1, by omega, by go_num, by rw [HT.out]; simpa using hown', hbel1⟩
      case measure => simp [intOf]; omega
    · obtain ⟨x, cx, hv⟩ := own_shape hown
      subst hv
      go_wp2
      go_ret
      have : k = len := by omega
      subst this
      rw [List.take_of_length_le (by rw [HL.out]; omega)] at hown
      exact ⟨_, _, rfl, hown, hbel⟩

end Go.Proofs.YthpbadnedhjncabDoor
