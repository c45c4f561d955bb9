/- Tables that no New made. -/
import Derived.Test.YtijpdoclmplclaaArgs
namespace Go.Proofs.Ytijpdoclmplclaa
open Go.RowKit Go.Shelf Go.Maps

/-- A pointer to a table that no New made: none, or one whose most is 0. -/
def Unmade (p : Value) (w : World) : Prop := p = .pointer none ∨ ∃ B, p = ptr B ∧ w.cell? ⟨B, 0, none⟩ = some (.int .i64 0) ∧ B < w.heap.size
theorem unmade_any {p : Value} {w : World} (h : Unmade p w) : Calls Try.prog 38 #[p] w fun e w' => e = .returned (.bool false) ∧ w' = w := by
  rcases h with rfl | ⟨B, rfl, hc, -⟩
  · go_enter Try.func38, Try.ntmps38
    go_wp2
    go_ret
    exact ⟨rfl, rfl⟩
  · go_enter Try.func38, Try.ntmps38
    go_wp2
    go_ret
    exact ⟨rfl, rfl⟩

section
variable {p : Value} {w : World}
theorem add_un (h : Unmade p w) (s : ByteArray) : Calls Try.prog 22 #[p, .string s] w fun e w' => e = .returned (.tuple #[.int .i64 0, .int .i64 2]) ∧ w' = w := by
  have C := hide (unmade_any h)
  clear h
  go_enter Try.func22, Try.ntmps22
  go_wp2_with (go_at_call 38; refine C.out.mono ?_; rintro _ w1 ⟨rfl, hw1⟩; subst w1)
  go_ret2
  exact ⟨rfl, rfl⟩
theorem find_un (h : Unmade p w) (s : ByteArray) : Calls Try.prog 23 #[p, .string s] w fun e w' => e = .returned (.tuple #[.int .i64 0, .bool false]) ∧ w' = w := by
  have C := hide (unmade_any h)
  clear h
  go_enter Try.func23, Try.ntmps23
  go_wp2_with (go_at_call 38; refine C.out.mono ?_; rintro _ w1 ⟨rfl, hw1⟩; subst w1)
  go_ret2
  exact ⟨rfl, rfl⟩
theorem name_un (h : Unmade p w) (n : Int) : Calls Try.prog 24 #[p, .int .i64 n] w fun e w' => e = .returned (.tuple #[.string ⟨#[]⟩, .int .i64 2]) ∧ w' = w := by
  have C := hide (unmade_any h)
  clear h
  go_enter Try.func24, Try.ntmps24
  go_wp2_with (go_at_call 38; refine C.out.mono ?_; rintro _ w1 ⟨rfl, hw1⟩; subst w1)
  go_ret2
  exact ⟨rfl, rfl⟩
theorem len_un (h : Unmade p w) : Calls Try.prog 16 #[p] w fun e w' => e = .returned (.int .i64 0) ∧ w' = w := by
  have C := hide (unmade_any h)
  clear h
  go_enter Try.func16, Try.ntmps16
  go_wp2_with (go_at_call 38; refine C.out.mono ?_; rintro _ w1 ⟨rfl, hw1⟩; subst w1)
  go_ret
  exact ⟨rfl, rfl⟩
theorem names_un (h : Unmade p w) : Calls Try.prog 18 #[p] w fun e w' => e = .returned (.slice none 0 0) ∧ w' = w := by
  have C := hide (unmade_any h)
  clear h
  go_enter Try.func18, Try.ntmps18
  go_wp2_with (go_at_call 38; refine C.out.mono ?_; rintro _ w1 ⟨rfl, hw1⟩; subst w1)
  go_ret
  exact ⟨rfl, rfl⟩
theorem copy_un (h : Unmade p w) : Calls Try.prog 25 #[p] w fun e w' => e = .returned (.pointer none) ∧ w' = w := by
  have C := hide (unmade_any h)
  clear h
  go_enter Try.func25, Try.ntmps25
  go_wp2_with (go_at_call 38; refine C.out.mono ?_; rintro _ w1 ⟨rfl, hw1⟩; subst w1)
  go_ret
  exact ⟨rfl, rfl⟩
theorem Unmade.below {w' : World} (h : Unmade p w) (hb : Below w.heap.size w w') : Unmade p w' := by
  rcases h with h | ⟨B, h, hc, hB⟩
  · exact .inl h
  · exact .inr ⟨B, h, (World.cell?_of_block (hb.block B hB)).trans hc, Nat.lt_of_lt_of_le hB hb.size⟩
theorem Unmade.form (h : Unmade p w) : ∃ q, p = .pointer q := by
  rcases h with rfl | ⟨B, rfl, _⟩
  · exact ⟨_, rfl⟩
  · exact ⟨_, rfl⟩
theorem sorted_un (h : Unmade p w) : Calls Try.prog 20 #[p] w fun e w' => e = .returned (.slice none 0 0) ∧ Below w.heap.size w w' := by
  have hb : Below w.heap.size w (w.alloc (.cells #[p] 22)) := (Below.refl _ _).alloc (Nat.le_refl _) _
  have C := hide (unmade_any (h.below hb))
  have HB := hide hb
  obtain ⟨q, rfl⟩ := h.form
  clear h hb
  go_enter Try.func20, Try.ntmps20
  go_wp2_with (go_at_call 38; refine C.out.mono ?_; rintro _ w1 ⟨rfl, hw1⟩; subst w1)
  go_ret
  exact ⟨rfl, HB.out⟩

set_option maxRecDepth 100000 in
set_option maxHeartbeats 6400000 in
theorem nothing_any (h : Unmade p w) : Calls Try.prog 26 #[p] w fun e w' => e = .returned (.bool true) ∧ Below w.heap.size w w' := by
  have C1 := hide (add_un h ⟨#[97]⟩)
  have C2 := hide (find_un h ⟨#[97]⟩)
  have C3 := hide (name_un h 0)
  have C4 := hide (len_un h)
  have C5 := hide (names_un h)
  have C6 := hide (sorted_un h)
  have CC : Hid (∀ w', Below w.heap.size w w' → Calls Try.prog 25 #[p] w' fun e w'' => e = .returned (.pointer none) ∧ w'' = w') := fun w' hb => copy_un (h.below hb)
  have CN := hide num_any
  obtain ⟨q, rfl⟩ := h.form
  clear h
  go_enter Try.func26, Try.ntmps26
  go_wp2_with (first | (go_at_call 22; refine C1.out.mono ?_; rintro _ w1 ⟨rfl, hw1⟩; subst w1) | (go_at_call 23; refine C2.out.mono ?_; rintro _ w1 ⟨rfl, hw1⟩; subst w1) | (go_at_call 24; refine C3.out.mono ?_; rintro _ w1 ⟨rfl, hw1⟩; subst w1) | (go_at_call 16; refine C4.out.mono ?_; rintro _ w1 ⟨rfl, hw1⟩; subst w1) | (go_at_call 18; refine C5.out.mono ?_; rintro _ w1 ⟨rfl, hw1⟩; subst w1) | (go_at_call 13; refine (CN.out _ _).mono ?_; rintro _ wn ⟨rfl, hwn⟩; subst wn))
  refine C6.out.mono ?_
  rintro _ w2 ⟨rfl, hb2⟩
  have HB2 := hide hb2
  clear hb2 C6
  go_wp2_with fail
  refine (CC.out _ HB2.out).mono ?_
  rintro _ w3 ⟨rfl, hw3⟩
  subst w3
  go_wp2_with fail
  go_ret
  exact ⟨rfl, HB2.out⟩
end
end Go.Proofs.Ytijpdoclmplclaa
