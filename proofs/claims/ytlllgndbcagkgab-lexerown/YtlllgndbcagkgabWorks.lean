/- The page's examples. -/
import Derived.Test.YtlllgndbcagkgabPlace
namespace Go.Proofs.Ytlllgndbcagkgab
open Go.RowKit

theorem RowT.below {w w1 : World} {a : Option Addr} {tk : List Tok} (h : RowT w a tk) (hb : Below w.heap.size w w1) : RowT w1 a tk := fun j t hj => by
  obtain ⟨b, o, h1, h2, h3, h4⟩ := h j t hj
  have hl : b < w.heap.size := World.block_lt_of_cell? w _ h2
  exact ⟨b, o, h1, (hb.cell (p := ⟨b, o + j * 3, none⟩) hl).trans h2, (hb.cell (p := ⟨b, o + j * 3 + 1, none⟩) hl).trans h3, (hb.cell (p := ⟨b, o + j * 3 + 2, none⟩) hl).trans h4⟩

theorem RowS.below {w w1 : World} {a : Option Addr} {rm : List (List UInt8)} (h : RowS w a rm) (hb : Below w.heap.size w w1) : RowS w1 a rm := fun j t hj => by
  obtain ⟨b, o, h1, h2⟩ := h j t hj
  have hl : b < w.heap.size := World.block_lt_of_cell? w _ h2
  exact ⟨b, o, h1, (hb.cell (p := ⟨b, o + j, none⟩) hl).trans h2⟩

set_option maxRecDepth 100000 in
theorem ex1 : lexT [112, 40, 88, 41, 32, 61, 62, 32, 45, 113, 46, 32, 35, 32, 120] = ⟨[⟨1, [112], 0⟩, ⟨6, [40], 1⟩, ⟨2, [88], 2⟩, ⟨6, [41], 3⟩, ⟨6, [61, 62], 5⟩, ⟨6, [45], 8⟩, ⟨1, [113], 9⟩, ⟨6, [46], 10⟩], [[32, 120]], 0, 15⟩ := by decide +kernel

set_option maxRecDepth 100000 in
theorem ex2 : lexT [97, 32, 49, 50, 120] = ⟨[], [], 41, 4⟩ := by decide +kernel

theorem ex3 : placeF ([97, 10, 195, 169, 98].take 4) = (2, 2) := by decide +kernel

set_option maxRecDepth 100000 in
set_option maxHeartbeats 1600000 in
theorem works_any (w : World) : Calls Try.prog 4 #[] w fun e w' => e = .returned (.bool true) ∧ Below w.heap.size w w' := by
  have C1 := hide (tokens_any ⟨#[112, 40, 88, 41, 32, 61, 62, 32, 45, 113, 46, 32, 35, 32, 120]⟩ w)
  simp only [ex1] at C1
  have C2 := hide (tokens_any ⟨#[97, 32, 49, 50, 120]⟩)
  simp only [ex2] at C2
  have C3 := hide (fun w => place_in ⟨#[97, 10, 195, 169, 98]⟩ 4 w (by decide) (by decide))
  simp only [ex3] at C3
  have CN := hide num_any
  go_enter Try.func4, Try.ntmps4
  go_wp2_with fail
  refine C1.out.mono ?_
  rintro _ w1 ⟨v1, rfl, ho1, hb1⟩
  obtain ⟨a, c, rfl, hr⟩ := own_rowT ho1
  have HB1 := hide hb1
  have HR1 := hide hr
  clear hb1 hr ho1 C1
  go_wp2_with fail
  refine (C2.out _).mono ?_
  rintro _ w2 ⟨v2, rfl, ho2, hb2⟩
  have HB2 : Hid (Below w.heap.size w w2) := HB1.out.trans (hb2.mono HB1.out.size)
  have HR2 := hide (HR1.out.below hb2)
  clear hb2 ho2 C2 HR1 HB1
  go_wp2_with fail
  refine (C3.out _).mono ?_
  rintro _ w3 ⟨rfl, hb3⟩
  have HB3 : Hid (Below w.heap.size w w3) := HB2.out.trans (hb3.mono HB2.out.size)
  obtain ⟨b, o, rfl, r0, r1, r2⟩ := (HR2.out.below hb3) 4 ⟨6, [61, 62], 5⟩ rfl
  have q0 : w3.cell? ⟨b, o + 12, none⟩ = some (.int .i64 6) := r0
  have q1 : w3.cell? ⟨b, o + 13, none⟩ = some (.string ⟨#[61, 62]⟩) := r1
  have q2 : w3.cell? ⟨b, o + 14, none⟩ = some (.int .i64 5) := r2
  clear hb3 C3 HR2 HB2 r0 r1 r2
  go_wp2_with fail
  refine (CN.out _ _).mono ?_
  rintro _ w4 ⟨rfl, hw⟩
  subst w4
  go_wp2_with fail
  refine (CN.out _ _).mono ?_
  rintro _ w4 ⟨rfl, hw⟩
  subst w4
  go_wp2_with fail
  refine (CN.out _ _).mono ?_
  rintro _ w4 ⟨rfl, hw⟩
  subst w4
  go_wp2_with fail
  go_ret
  exact ⟨rfl, HB3.out⟩
end Go.Proofs.Ytlllgndbcagkgab
