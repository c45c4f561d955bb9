/- The page's examples: 'works' answers true, in whatever world the table of powers of ten lies as it should. -/
import Derived.Test.YthpbadnedhjncaaDoorShareS
import Derived.Test.YthpbadnedhjncaaDoorScaleP
import Derived.Test.YthpbadnedhjncaaDoorPrint
import Derived.Test.YthpbadnedhjncaaDoorParseP
namespace Go.Proofs.YthpbadnedhjncaaDoor
open Go.RowKit

theorem num_any (x : Int) (w : World) : Calls Tryd.prog 11 #[.int .i64 x] w fun e w' => e = .returned (.int .i64 x) ∧ w' = w := by
  go_enter Tryd.func11, Tryd.ntmps11
  go_wp2
  go_ret
  exact ⟨rfl, rfl⟩

theorem ex_parse (w : World) : Calls Tryd.prog 9 #[.string ⟨#[49, 50, 48, 46, 53, 48]⟩] w fun e w' => e = .returned (.tuple #[.int .i64 12050, .int .i64 0]) ∧ Below w.heap.size w w' := by
  have h := parse_any ⟨#[49, 50, 48, 46, 53, 48]⟩ w (by decide)
  have e : parseM (strB ⟨#[49, 50, 48, 46, 53, 48]⟩) = (12050, 0) := by decide
  rw [e] at h
  exact h

theorem ex_print (w : World) (ht : Tab w) : Calls Tryd.prog 13 #[.int .i64 (-5)] w fun e w' => e = .returned (.tuple #[.string ⟨#[45, 48, 46, 48, 53]⟩, .int .i64 0]) ∧ Below w.heap.size w w' := by
  have h := print_any (-5) w ht
  have e : printM (-5) = ([45, 48, 46, 48, 53], 0) := by decide
  rw [e] at h
  exact h

theorem ex_share (w : World) (g : Nat) (hc : ∀ i, i < 3 → w.cell? ⟨g, i, none⟩ = some (.int .i64 1)) : Calls Tryd.prog 27 #[.int .i64 1000, .slice (some ⟨g, 0, none⟩) 3 3] w fun e w' => ∃ b cx, e = .returned (.tuple #[.slice (some ⟨b, 0, none⟩) 3 cx, .int .i64 0]) ∧
    w'.cell? ⟨b, 0, none⟩ = some (.int .i64 334) ∧ w'.cell? ⟨b, 2, none⟩ = some (.int .i64 333) ∧ Below w.heap.size w w' := by
  have hN : Nums .i64 w (some ⟨g, 0, none⟩) [1, 1, 1] := ⟨fun _ => ⟨g, 0, rfl, fun i hi => by
    simp at hi
    rw [Nat.zero_add, hc i hi]
    rcases (show i = 0 ∨ i = 1 ∨ i = 2 by omega) with rfl | rfl | rfl <;> rfl⟩⟩
  refine (share_sorts 1000 (some ⟨g, 0, none⟩) 3 3 [1, 1, 1] w rfl hN (fun k hk _ => sorts_small k (by omega) _)).mono ?_
  rintro e w' ⟨x, n, cx, rfl, hn, _, hown, hb⟩
  have e1 : shareErr 1000 [1, 1, 1] = 0 := by decide
  have e2 : shareM 1000 [1, 1, 1] = [334, 333, 333] := by decide
  rw [e2] at hn hown
  rw [e1]
  have hn3 : n = 3 := hn
  subst hn3
  obtain ⟨b, c', e', _, _, _⟩ := own_some hown (by omega)
  simp only [Value.slice.injEq] at e'
  obtain ⟨rfl, _, rfl⟩ := e'
  exact ⟨b, cx, rfl, hown.cellAt 0 (by omega), hown.cellAt 2 (by omega), hb⟩

theorem ex_scale (w : World) : Calls Tryd.prog 25 #[.int .i64 (-3), .int .i64 1, .int .i64 2, .int .i64 6] w fun e w' => e = .returned (.tuple #[.int .i64 (-2), .int .i64 0]) ∧ Below w.heap.size w w' := by
  have h := scale_any (-3) 1 2 6 w (by decide) (by decide)
  have e : scaleM (-3) 1 2 6 = (-2, 0) := by decide
  rw [e] at h
  exact h

set_option maxRecDepth 100000 in
set_option maxHeartbeats 4000000 in
theorem works_any (w : World) (ht : Tab w) : Calls Tryd.prog 12 #[] w fun e w' => e = .returned (.bool true) ∧ Below w.heap.size w w' := by
  have C1 := hide ex_parse
  have C2 := hide ex_print
  have C3 := hide ex_share
  have C4 := hide ex_scale
  have CN := hide num_any
  have HT := hide ht
  clear ht
  go_enter Tryd.func12, Tryd.ntmps12
  go_wp2_with fail
  refine (C1.out _).mono ?_
  rintro e w1 ⟨rfl, hb1⟩
  have HT1 := hide (HT.out.below hb1 (Nat.le_refl _))
  go_wp2_with fail
  refine (C2.out _ HT1.out).mono ?_
  rintro e w2 ⟨rfl, hb2⟩
  go_wp2_with fail
  refine (C3.out _ _ (fun i hi => by
    rw [cell_of_row _ _ _ _ _ _ (heap_alloc_new w2 _)]
    rcases (show i = 0 ∨ i = 1 ∨ i = 2 by omega) with rfl | rfl | rfl <;> rfl)).mono ?_
  rintro e w3 ⟨b, cx, rfl, hc0, hc2, hb3⟩
  have hbb := World.block_lt_of_cell? _ _ hc0
  have HBW : Hid (Below w.heap.size w w3) := by
    have q1 := hb1.size
    have q2 := hb2.size
    exact ((hb1.trans (hb2.mono q1)).trans ((below_fill w2 _).mono (Nat.le_trans q1 q2))).trans (hb3.mono (by simp; omega))
  clear hb1 hb2 hb3
  go_wp2_with fail
  refine (C4.out _).mono ?_
  rintro e w4 ⟨rfl, hb4⟩
  have hd0 : w4.cell? ⟨b, 0, none⟩ = some (.int .i64 334) := by rw [hb4.cell (by simpa using hbb)]; exact hc0
  have hd2 : w4.cell? ⟨b, 2, none⟩ = some (.int .i64 333) := by rw [hb4.cell (by simpa using hbb)]; exact hc2
  have HBX : Hid (Below w.heap.size w w4) := HBW.out.trans (hb4.mono HBW.out.size)
  clear hb4 hc0 hc2 hbb
  go_wp2_with (go_at_call 11; refine (CN.out _ _).mono ?_; rintro e w5 ⟨rfl, hww⟩; subst w5)
  go_ret
  exact ⟨rfl, HBX.out⟩

end Go.Proofs.YthpbadnedhjncaaDoor
