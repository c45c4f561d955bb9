/- The page's examples. -/
import Derived.Test.YtijpdoclmplclaaAliveA
namespace Go.Proofs.Ytijpdoclmplclaa
open Go.RowKit Go.Shelf Go.Maps

set_option maxRecDepth 100000 in
set_option maxHeartbeats 6400000 in
theorem alive_any (w : World) : Calls Try.prog 14 #[] w fun e w' => e = .returned (.bool true) ∧ Below w.heap.size w w' := by
  have C1 := hide (new_any (Z := fun k => w.heap.size ≤ k) 4 w (fun _ h => h) (by decide) (by decide))
  go_enter Try.func14, Try.ntmps14
  go_wp2_with (first | (go_at_call 7; refine C1.out.mono ?_; rintro _ w1 ⟨B, M, rfl, hT1, hb1⟩) | (go_at_call 13; go_in))
  have HB1 := hide hb1
  have C2 := hide (add_any hT1 ⟨#[98]⟩ (z_new (fun _ h => h) hb1.size))
  rw [show (⟨#[98]⟩ : ByteArray).data.toList = [98] from rfl, ab1] at C2
  clear hT1 hb1
  go_wp2_with fail
  refine C2.out.mono ?_
  rintro _ w2 ⟨rfl, ⟨nv2, d2, sv2, hT2⟩, hf2⟩
  have HB2 := hide (hf2.low HB1.out)
  have C3 := hide (add_any hT2 ⟨#[97]⟩ (z_new (fun _ h => h) HB2.out.size))
  rw [show (⟨#[97]⟩ : ByteArray).data.toList = [97] from rfl, ab2] at C3
  clear hT2 hf2 C2
  go_wp2_with fail
  refine C3.out.mono ?_
  rintro _ w3 ⟨rfl, ⟨nv3, d3, sv3, hT3⟩, hf3⟩
  have HB3 := hide (hf3.low HB2.out)
  have C4 := hide (add_any hT3 ⟨#[98]⟩ (z_new (fun _ h => h) HB3.out.size))
  rw [show (⟨#[98]⟩ : ByteArray).data.toList = [98] from rfl, ab3] at C4
  clear hT3 hf3 C3
  go_wp2_with fail
  refine C4.out.mono ?_
  rintro _ w4 ⟨rfl, ⟨nv4, d4, sv4, hT4⟩, hf4⟩
  have HB4 := hide (hf4.low HB3.out)
  have C5 := hide (add_any hT4 ⟨#[66]⟩ (z_new (fun _ h => h) HB4.out.size))
  rw [show (⟨#[66]⟩ : ByteArray).data.toList = [66] from rfl, ab4] at C5
  clear hT4 hf4 C4
  go_wp2_with fail
  refine C5.out.mono ?_
  rintro _ w5 ⟨rfl, ⟨nv5, d5, sv5, hT5⟩, hf5⟩
  have HB5 := hide (hf5.low HB4.out)
  have C6 := hide (sorted_any hT5 (z_new (fun _ h => h) HB5.out.size))
  rw [ab5] at C6
  clear hT5 hf5 C5
  go_wp2_with (first | (go_at_call 20; refine C6.out.mono ?_; rintro _ w6 ⟨va, vc, n0, sv6, rfl, hr6, hn6, hT6, hf6⟩) | (go_at_call 13; go_in))
  have HB6 := hide (hf6.low HB5.out)
  have hr0 : w6.ownsRow 0 3 1 (.slice va [[98], [97]].length vc) [1, 0].length (ints [1, 0]) := own_zero hr6
  have hrA := hr0.alloc (.cells #[.int .i64 1, .int .i64 0] 3)
  have hrB : (w6.alloc (.cells #[.int .i64 1, .int .i64 0] 3)).ownsRow 0 3 1 (.slice (some ⟨w6.heap.size, 0, none⟩) 2 2) [1, 0].length (ints [1, 0]) :=
    own_zero (ints_row (xs := [1, 0]) (B := 0) (heap_alloc_new w6 _) rfl (Nat.zero_le _) (by unfold maxLen; omega))
  have C7 := hide (sameI_any hrA hrB (by decide))
  have HA := hide (HB6.out.alloc HB6.out.size (.cells #[.int .i64 1, .int .i64 0] 3))
  clear hr6 hr0 hrA hrB hT6 hf6 hn6 C6
  go_wp2_with fail
  refine C7.out.mono ?_
  rintro _ w7 ⟨rfl, hb7⟩
  have HB7 := hide (HA.out.trans (hb7.mono HA.out.size))
  clear hb7
  go_wp2_with fail
  go_ret
  exact ⟨rfl, HB7.out⟩
end Go.Proofs.Ytijpdoclmplclaa
