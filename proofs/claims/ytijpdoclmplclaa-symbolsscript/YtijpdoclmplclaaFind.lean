/- Find of a table. -/
import Derived.Test.YtijpdoclmplclaaTab
namespace Go.Proofs.Ytijpdoclmplclaa
open Go.RowKit Go.Shelf Go.Maps Go.WideMaps

section
variable {Z : Nat → Prop} {B M : Nat} {nv : Value} {d : Int} {sv : Value} {most : Int} {l : List Bytes} {w : World}

set_option maxRecDepth 100000 in
set_option maxHeartbeats 1600000 in
theorem find_any (h : Tab Z B M nv d sv most l w) (s : ByteArray) (hs : s.size ≤ maxLen) : Calls Try.prog 23 #[ptr B, .string s] w fun e w' =>
    e = .returned (.tuple #[.int .i64 (posB l s.data.toList), .bool (decide (s.data.toList ∈ l))]) ∧ w' = w := by
  have C := hide (made_any h)
  obtain ⟨-, -, c2, -, -, -, -, -⟩ := h.cells
  obtain ⟨D, hown, hN⟩ := h.map
  have HN := hide (hN s.data.toList)
  clear h hN
  go_enter Try.func23, Try.ntmps23
  go_wp2_with (first | (go_at_call 38; refine C.out.mono ?_; rintro _ w1 ⟨rfl, hw1⟩; subst w1) | (at_lookup; refine wpList_lookup_own_ok_int _ rfl _ _ 56 rfl 9 3 .i64 law Try.underlying56 Try.underlying3 (Try.zeroValue3 _) M l.length _ rfl hown _ _ rfl (keyOf_string_mk Try.underlying9 hs) ?_; intro c hat hwc))
  have hc : c = posB l s.data.toList := by
    have := hat.symm.trans HN.out.2
    injection this with e
    injection e
  have hh := HN.out.1
  clear hat hwc HN
  go_wp2_with fail
  go_ret2
  refine ⟨?_, rfl⟩
  rw [hc, hh]
  rfl
end
end Go.Proofs.Ytijpdoclmplclaa
