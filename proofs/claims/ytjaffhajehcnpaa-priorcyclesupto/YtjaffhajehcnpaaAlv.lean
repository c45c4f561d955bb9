/- The law's own examples. -/
import Derived.Test.YtjaffhajehcnpaaAlvM
namespace Go.Proofs.Ytjaffhajehcnpaa
open Go.RowKit

set_option maxRecDepth 100000 in
set_option maxHeartbeats 3200000 in
theorem sameInts_yes {l : List Int} {a b : Option Addr} {c d : Nat} {w : World} (ha : At1 w a (ints l)) (hb : At1 w b (ints l)) (hl : l.length ≤ 140737488351232) :
    Calls Try.prog 10 #[.slice a l.length c, .slice b l.length d] w fun e w' => e = .returned (.bool true) ∧ Below w.heap.size w w' := by
  have HA := hide ha
  have HB := hide hb
  clear ha hb
  go_enter Try.func10, Try.ntmps10
  go_wp2_with fail
  go_loopw [5] (fun x wr => ∃ k q : Nat, k ≤ l.length ∧ x = .int .i64 k ∧ wr = w.drewN q) (fun x _ => l.length - (intOf x).toNat)
  case atStart => exact ⟨0, 0, by omega, rfl, rfl⟩
  case round =>
    obtain ⟨k, q, hk, rfl, rfl⟩ := hrel
    by_cases hlt : k < l.length
    · obtain ⟨x, hx⟩ := get_at hlt
      obtain ⟨ga, oa, rfl, a0⟩ := HA.out.get hx
      obtain ⟨gb, ob, rfl, b0⟩ := HB.out.get hx
      clear hx
      go_wp2_with fail
      go_quiet (fail)
      go_wp2_with fail
      go_roundw
      case rel => exact ⟨k + 1, _, by omega, by go_num, rfl⟩
      case measure => simp [intOf]; omega
    · go_wp2_with fail
      go_ret
      exact ⟨rfl, below_drewN w q⟩
abbrev Tw1 (wr : World) (ga gb oa ob : Nat) (p q : Value) (X : World) : Prop := X.cell? ⟨ga, oa, none⟩ = some p ∧ X.cell? ⟨gb, ob, none⟩ = some q ∧ ga < wr.heap.size ∧ gb < wr.heap.size ∧ Below wr.heap.size wr X

abbrev a3 (w : World) : World := (((w.alloc (.cells #[.int .i64 1] 3)).alloc (.cells #[.int .i64 2] 3)).alloc (.cells #[.int .i64 0] 3)).alloc (.cells #[sl w.heap.size 1, sl (w.heap.size + 1) 1, sl (w.heap.size + 1 + 1) 1] 27)
abbrev a2 (w : World) : World := (w.alloc (.cells #[.int .i64 0] 3)).alloc (.cells #[.slice none 0 0, sl w.heap.size 1] 27)
abbrev a1 (w : World) : World := (w.alloc (.cells #[.int .i64 0] 3)).alloc (.cells #[sl w.heap.size 1] 27)
theorem sz3 (w : World) : (a3 w).heap.size = w.heap.size + 1 + 1 + 1 + 1 := by simp [a3]
theorem sz2 (w : World) : (a2 w).heap.size = w.heap.size + 1 + 1 := by simp [a2]
theorem sz1 (w : World) : (a1 w).heap.size = w.heap.size + 1 + 1 := by simp [a1]
theorem bl3 (w : World) : Below w.heap.size w (a3 w) := (((below_new w _).trans ((below_new _ _).mono (by simp))).trans ((below_new _ _).mono (by simp; omega))).trans ((below_new _ _).mono (by simp; omega))
theorem bl2 (w : World) : Below w.heap.size w (a2 w) := (below_new w _).trans ((below_new _ _).mono (by simp))
theorem bl1 (w : World) : Below w.heap.size w (a1 w) := (below_new w _).trans ((below_new _ _).mono (by simp))
theorem in3 (w : World) : Lists (a3 w).heap.size (a3 w) nx3 (sl (w.heap.size + 1 + 1 + 1) 3) := by
  have f0 : Fx w.heap.size 3 (ints [1]) (a3 w) := (((fx_new w (ints [1]) 3).next _).next _).next _
  have f1 : Fx (w.heap.size + 1) 3 (ints [2]) (a3 w) := by
    have := ((fx_new (w.alloc (.cells #[.int .i64 1] 3)) (ints [2]) 3).next (.cells #[.int .i64 0] 3)).next (.cells #[sl w.heap.size 1, sl (w.heap.size + 1) 1, sl (w.heap.size + 1 + 1) 1] 27)
    rw [show (w.alloc (.cells #[.int .i64 1] 3)).heap.size = w.heap.size + 1 by simp] at this
    exact this
  have f2 : Fx (w.heap.size + 1 + 1) 3 (ints [0]) (a3 w) := by
    have := (fx_new ((w.alloc (.cells #[.int .i64 1] 3)).alloc (.cells #[.int .i64 2] 3)) (ints [0]) 3).next (.cells #[sl w.heap.size 1, sl (w.heap.size + 1) 1, sl (w.heap.size + 1 + 1) 1] 27)
    rw [show ((w.alloc (.cells #[.int .i64 1] 3)).alloc (.cells #[.int .i64 2] 3)).heap.size = w.heap.size + 1 + 1 by simp] at this
    exact this
  have f3 : Fx (w.heap.size + 1 + 1 + 1) 27 [sl w.heap.size 1, sl (w.heap.size + 1) 1, sl (w.heap.size + 1 + 1) 1] (a3 w) := by
    have := fx_new (((w.alloc (.cells #[.int .i64 1] 3)).alloc (.cells #[.int .i64 2] 3)).alloc (.cells #[.int .i64 0] 3)) [sl w.heap.size 1, sl (w.heap.size + 1) 1, sl (w.heap.size + 1 + 1) 1] 27
    simpa using this
  have hz := sz3 w
  refine Lists.blk (l := nx3) f3 (by rw [hz]; omega) (by simp [nx3]) fun i x hi => ?_
  match i, hi with
  | 0, hi => simp [nx3] at hi; subst hi; exact ⟨_, rfl, Ints.blk f0 (by rw [hz]; omega) (by simp)⟩
  | 1, hi => simp [nx3] at hi; subst hi; exact ⟨_, rfl, Ints.blk f1 (by rw [hz]; omega) (by simp)⟩
  | 2, hi => simp [nx3] at hi; subst hi; exact ⟨_, rfl, Ints.blk f2 (by rw [hz]; omega) (by simp)⟩
  | n + 3, hi => simp [nx3] at hi
theorem in2 (w : World) : Lists (a2 w).heap.size (a2 w) nx2 (sl (w.heap.size + 1) 2) := by
  have f0 : Fx w.heap.size 3 (ints [0]) (a2 w) := (fx_new w (ints [0]) 3).next _
  have f1 : Fx (w.heap.size + 1) 27 [.slice none 0 0, sl w.heap.size 1] (a2 w) := by
    have := fx_new (w.alloc (.cells #[.int .i64 0] 3)) [.slice none 0 0, sl w.heap.size 1] 27
    simpa using this
  have hz := sz2 w
  refine Lists.blk (l := nx2) f1 (by rw [hz]; omega) (by simp [nx2]) fun i x hi => ?_
  match i, hi with
  | 0, hi => simp [nx2] at hi; subst hi; exact ⟨_, rfl, RR.none⟩
  | 1, hi => simp [nx2] at hi; subst hi; exact ⟨_, rfl, Ints.blk f0 (by rw [hz]; omega) (by simp)⟩
  | n + 2, hi => simp [nx2] at hi
theorem in1 (w : World) : Lists (a1 w).heap.size (a1 w) nx1 (sl (w.heap.size + 1) 1) := by
  have f0 : Fx w.heap.size 3 (ints [0]) (a1 w) := (fx_new w (ints [0]) 3).next _
  have f1 : Fx (w.heap.size + 1) 27 [sl w.heap.size 1] (a1 w) := by
    have := fx_new (w.alloc (.cells #[.int .i64 0] 3)) [sl w.heap.size 1] 27
    simpa using this
  have hz := sz1 w
  refine Lists.blk (l := nx1) f1 (by rw [hz]; omega) (by simp [nx1]) fun i x hi => ?_
  match i, hi with
  | 0, hi => simp [nx1] at hi; subst hi; exact ⟨_, rfl, Ints.blk f0 (by rw [hz]; omega) (by simp)⟩
  | n + 1, hi => simp [nx1] at hi
theorem c3_any (w : World) : Calls Try.prog 7 #[sl (w.heap.size + 1 + 1 + 1) 3] (a3 w) fun e w' => Below w.heap.size w w' ∧ ∃ a c, e = .returned (.tuple #[.slice a 3 c, .bool true]) := by
  refine (cycle_any (next := nx3) (in3 w) (by simp [nx3]) (by simp [nx3, total])).mono ?_
  rintro e w' ⟨hb, h⟩
  refine ⟨(bl3 w).trans (hb.mono (by rw [sz3]; omega)), ?_⟩
  rcases h with ⟨l, v, rfl, hc, hr⟩ | ⟨_, ha⟩
  · obtain ⟨a, c, rfl⟩ := owns_slice hr
    rw [cyc3 hc]
    exact ⟨a, c, rfl⟩
  · exact (acy_cyc ha is3).elim
theorem c2_any (w : World) : Calls Try.prog 8 #[sl (w.heap.size + 1) 2] (a2 w) fun e w' => Below w.heap.size w w' ∧ ∃ a c, e = .returned (.tuple #[.slice a 2 c, .bool true]) ∧ At1 w' a (ints [1, 0]) := by
  refine (order_any (next := nx2) (in2 w) (by simp [nx2]) (by simp [nx2, total])).mono ?_
  rintro e w' ⟨out, h1, h2, hb, h⟩
  have ho := kahn_uniq h1 h2 kahn2 kmax2
  subst ho
  refine ⟨(bl2 w).trans (hb.mono (by rw [sz2]; omega)), ?_⟩
  rcases h with ⟨hl, _⟩ | ⟨_, ov, rfl, hr⟩
  · simp [nx2] at hl
  · obtain ⟨a, c, rfl⟩ := owns_slice hr
    exact ⟨a, c, rfl, owns_at1 hr⟩
theorem c1_any (w : World) : Calls Try.prog 7 #[sl (w.heap.size + 1) 1] (a1 w) fun e w' => Below w.heap.size w w' ∧ ∃ a c, e = .returned (.tuple #[.slice a 1 c, .bool true]) ∧ At1 w' a (ints [0]) := by
  refine (cycle_any (next := nx1) (in1 w) (by simp [nx1]) (by simp [nx1, total])).mono ?_
  rintro e w' ⟨hb, h⟩
  refine ⟨(bl1 w).trans (hb.mono (by rw [sz1]; omega)), ?_⟩
  rcases h with ⟨l, v, rfl, hc, hr⟩ | ⟨_, ha⟩
  · obtain ⟨a, c, rfl⟩ := owns_slice hr
    have := cyc1 hc
    subst this
    exact ⟨a, c, rfl, owns_at1 hr⟩
  · exact (acy_cyc ha is1).elim
set_option maxRecDepth 100000 in
set_option maxHeartbeats 6400000 in
theorem alive_any (w : World) : Calls Try.prog 15 #[] w fun e w' => e = .returned (.bool true) ∧ Below w.heap.size w w' := by
  go_enter Try.func15, Try.ntmps15
  go_upto_region 2 with (go_at_call 7; refine (c3_any w).mono ?_; rintro e w1 ⟨hb1, a1', c1', rfl⟩; have HB1 := hide hb1; clear hb1)
  go_upto_region 3 with (go_at_call 8; refine (c2_any w1).mono ?_; rintro e w2 ⟨hb2, a2', c2', rfl, hat2⟩; have HB2 := hide hb2; have HA2 := hide hat2; clear hb2 hat2)
  go_upto_region 4 with (go_at_call 7; refine (c1_any w2).mono ?_; rintro e w3 ⟨hb3, a3', c3', rfl, hat3⟩; have HB3 := hide hb3; have HA3 := hide hat3; clear hb3 hat3)
  have hA := below_new w3 (.cells #[.int .i64 1, .int .i64 0] 3)
  have hat : At1 (w3.alloc (.cells #[.int .i64 1, .int .i64 0] 3)) (some ⟨w3.heap.size, 0, none⟩) (ints [1, 0]) := fun i v hi => ⟨_, _, rfl, by rw [Nat.zero_add]; exact (fx_new w3 (ints [1, 0]) 3).get hi⟩
  have C5 := hide (sameInts_yes (l := [1, 0]) (c := c2') (d := 2) ((HA2.out.below HB3.out).below hA) hat (by simp))
  have HBA := hide hA
  have hs3 := HB3.out.size
  have hs2 := HB2.out.size
  have hs1 := HB1.out.size
  clear hat hA
  have C6 : Hid (∀ w5, Below (w3.alloc (.cells #[.int .i64 1, .int .i64 0] 3)).heap.size (w3.alloc (.cells #[.int .i64 1, .int .i64 0] 3)) w5 → Calls Try.prog 10 #[.slice a3' 1 c3', .slice (some ⟨w5.heap.size, 0, none⟩) 1 1] (w5.alloc (.cells #[.int .i64 0] 3)) fun e w' => e = .returned (.bool true) ∧ Below w5.heap.size w5 w') := hide fun w5 h5 => by
    have hz : w3.heap.size ≤ (w3.alloc (.cells #[.int .i64 1, .int .i64 0] 3)).heap.size := by simp
    have hB5 : Below w3.heap.size w3 w5 := HBA.out.trans (h5.mono hz)
    have hA5 := below_new w5 (.cells #[.int .i64 0] 3)
    have hat : At1 (w5.alloc (.cells #[.int .i64 0] 3)) (some ⟨w5.heap.size, 0, none⟩) (ints [0]) := fun i v hi => ⟨_, _, rfl, by rw [Nat.zero_add]; exact (fx_new w5 (ints [0]) 3).get hi⟩
    refine (sameInts_yes (l := [0]) (c := c3') (d := 1) ((HA3.out.below hB5).below hA5) hat (by simp)).mono ?_
    rintro e w' ⟨rfl, hb⟩
    exact ⟨rfl, hA5.trans (hb.mono (by simp))⟩
  go_wp2_with fail
  refine C5.out.mono ?_
  rintro e w5 ⟨rfl, hb5⟩
  have HB5 := hide hb5
  clear hb5 C5
  go_wp2_with fail
  refine (C6.out _ HB5.out).mono ?_
  rintro e w6 ⟨rfl, hb6⟩
  have HB6 := hide hb6
  clear hb6 C6
  go_wp2_with fail
  go_ret
  refine ⟨rfl, ?_⟩
  have hz : w3.heap.size ≤ (w3.alloc (.cells #[.int .i64 1, .int .i64 0] 3)).heap.size := by simp
  have hs5 := HB5.out.size
  exact (((HB1.out.trans (HB2.out.mono (by omega))).trans (HB3.out.mono (by omega))).trans (HBA.out.mono (by omega))).trans ((HB5.out.mono (by omega)).trans (HB6.out.mono (by omega)))
end Go.Proofs.Ytjaffhajehcnpaa
