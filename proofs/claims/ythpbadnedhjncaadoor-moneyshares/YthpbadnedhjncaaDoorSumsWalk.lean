/- MoneySums, walked. -/
import Derived.Test.YthpbadnedhjncaaDoorWorks
import Derived.Test.YthpbadnedhjncaaDoorSum
namespace Go.Proofs.YthpbadnedhjncaaDoor
open Go.RowKit

theorem nums_of_own {w : World} {B e n cap : Nat} {a : Option Addr} {q : IntKind} {zs : List Int} (h : w.ownsRow B e 1 (.slice a n cap) n (zs.map (Value.int q))) : Nums q w a zs := by
  refine ⟨fun hz => ?_⟩
  have hl : zs.length = n := by simpa using h.1
  have hpos : 0 < n := by rw [← hl]; exact List.length_pos_iff.2 hz
  obtain ⟨g, c, e', _⟩ := own_some h hpos
  simp only [Value.slice.injEq] at e'
  obtain ⟨rfl, _, rfl⟩ := e'
  refine ⟨g, 0, rfl, fun i hi => ?_⟩
  rw [Nat.zero_add, h.cellAt i (by omega)]
  simp [List.getD, hi]

set_option maxRecDepth 100000 in
set_option maxHeartbeats 4000000 in
theorem sums_walk (a : Option Addr) (len cap : Nat) (zs : List Int) (w : World) (hl : zs.length = len) (hlen : len ≤ 1048576) (h : Nums .i64 w a zs) (ht : Tab w) :
    Calls Tryd.prog 5 #[.slice a len cap] w fun e w' => e = .returned (.bool true) ∧ Below w.heap.size w w' := by
  have CC := hide (copyMoney_any a len cap zs w hl (by omega) h)
  have C1 := hide (fun x cx w h => sum_any x len cx zs w hl (by omega) h)
  have C2 := hide (fun w h => refSumM_any a len cap zs w hl hlen h)
  have C3 := hide (fun x cx w h1 h2 => sameMoney_any x a len cx len cap zs zs w hl hl (by omega) h1 h2)
  rw [decide_eq_true rfl] at C3
  have CN := hide num_any
  have CW := hide works_any
  have HT := hide ht
  have HR := hide h
  unfold pairV at C1 C2
  generalize (sumM zs).1 = sv at *
  generalize (sumM zs).2 = se at *
  clear ht h
  go_enter Tryd.func5, Tryd.ntmps5
  go_wp2_with fail
  refine CC.out.mono ?_
  rintro _ w1 ⟨x, cx, rfl, hown, hb1⟩
  have HN1 := hide (nums_of_own hown)
  have HR1 := hide (HR.out.below hb1 (Nat.le_refl _))
  have HT1 := hide (HT.out.below hb1 (Nat.le_refl _))
  clear hown
  go_wp2_with (first | (go_at_call 22; refine (C1.out _ _ _ HN1.out).mono ?_; rintro _ w5 ⟨rfl, hww⟩; subst w5) | (go_at_call 23; refine (C2.out _ HR1.out).mono ?_; rintro _ w5 ⟨rfl, hww⟩; subst w5) | (go_at_call 11; refine (CN.out _ _).mono ?_; rintro _ w5 ⟨rfl, hww⟩; subst w5) | (go_at_call 24; refine (C3.out _ _ _ HN1.out HR1.out).mono ?_; rintro _ w2 ⟨rfl, hb2⟩))
  have HB2 : Hid (Below w.heap.size w w2) := hb1.trans (hb2.mono hb1.size)
  have HT2 := hide (HT.out.below HB2.out (Nat.le_refl _))
  clear hb1 hb2
  refine (CW.out _ HT2.out).mono ?_
  rintro _ w3 ⟨rfl, hb3⟩
  go_wp2_with fail
  go_ret
  exact ⟨rfl, HB2.out.trans (hb3.mono HB2.out.size)⟩

end Go.Proofs.YthpbadnedhjncaaDoor
