/- Text and ReadText, the program's and the document's: what they answer. -/
import Derived.Test.YtkiigmfdfkflpaaAppend
import Derived.Test.YtkiigmfdfkflpaaUint
import Derived.Test.YtkiigmfdfkflpaaTextPlain
namespace Go.Proofs.Ytkiigmfdfkflpaa
open Go.RowKit

/-- A text's bytes, its length ahead of them. -/
def textB (s : ByteArray) : List Int := uintB 9 s.size ++ strB s

theorem byteCells_strB (s : ByteArray) : byteCells s = (strB s).map (Value.int .u8) := by simp [byteCells, strB, List.map_map, Function.comp_def]

theorem textB_map (s : ByteArray) : (textB s).map (Value.int .u8) = (uintB 9 s.size).map (Value.int .u8) ++ byteCells s := by rw [byteCells_strB]; simp [textB]

theorem textB_len (s : ByteArray) : (textB s).length = (uintB 9 s.size).length + s.size := by simp [textB, strB_len]

set_option maxHeartbeats 400000 in
theorem text_any (s : ByteArray) (w : World) (hs : s.size ≤ 140737488351232) :
    Calls Try.prog 19 #[.string s] w fun e w' => ∃ a cap, e = .returned (.slice a (textB s).length cap) ∧ w'.ownsRow w.heap.size 5 1 (.slice a (textB s).length cap) (textB s).length ((textB s).map (Value.int .u8)) ∧ Below w.heap.size w w' := by
  obtain ⟨i0, hi, hz0, hz1, hz2⟩ := info_parts info5
  go_enter Try.func19, Try.ntmps19
  go_wp2_with fail
  refine (uint_any (s.size : Int) w (by omega) (by omega)).mono ?_
  rintro e w1 ⟨v, rfl, hown, hb1⟩
  have HU := hide (uintB_len 9 (s.size : Int))
  go_wp2_with (at_builtin; go_must (refine wpList_append_src _ rfl _ _ 23 9 rfl w.heap.size 5 i0 (.int .u8 0) Try.underlying23 hi hz0 hz1 hz2 rfl _ _ _ rfl hown _ s.size (byteCells s) rfl (Src.ofString _ Try.underlying9 s) (by have := HU.out; omega) hb1.size ?_))
  intro v' w2 hown2 hgrow
  have hb2 : Below w.heap.size w w2 := hb1.grown hgrow hb1.size (fun k hk => (hown.lt k hk).1)
  rw [← textB_map, ← textB_len] at hown2
  obtain ⟨a2, cap2, hv⟩ := own_shape hown2
  subst hv
  clear hgrow hown hb1
  go_wp2_with fail
  go_ret
  exact ⟨a2, cap2, rfl, hown2, hb2⟩

set_option maxHeartbeats 400000 in
theorem refText_any (s : ByteArray) (w : World) (hs : s.size ≤ 140737488351232) :
    Calls Try.prog 20 #[.string s] w fun e w' => ∃ a cap, e = .returned (.slice a (textB s).length cap) ∧ w'.ownsRow w.heap.size 5 1 (.slice a (textB s).length cap) (textB s).length ((textB s).map (Value.int .u8)) ∧ Below w.heap.size w w' := by
  obtain ⟨i0, hi, hz0, hz1, hz2⟩ := info_parts info5
  go_enter Try.func20, Try.ntmps20
  go_wp2_with fail
  refine (refUint_any 9 (s.size : Int) w (by omega) (by omega) (by omega) (by omega)).mono ?_
  rintro e w1 ⟨a1, cap1, rfl, hown, hb1⟩
  have HU := hide (uintB_len 9 (s.size : Int))
  go_wp2_with (at_builtin; go_must (refine wpList_append_src _ rfl _ _ 23 9 rfl w.heap.size 5 i0 (.int .u8 0) Try.underlying23 hi hz0 hz1 hz2 rfl _ _ _ rfl hown _ s.size (byteCells s) rfl (Src.ofString _ Try.underlying9 s) (by have := HU.out; omega) hb1.size ?_))
  intro v' w2 hown2 hgrow
  have hb2 : Below w.heap.size w w2 := hb1.grown hgrow hb1.size (fun k hk => (hown.lt k hk).1)
  rw [← textB_map, ← textB_len] at hown2
  obtain ⟨a2, cap2, hv⟩ := own_shape hown2
  subst hv
  clear hgrow hown hb1
  go_wp2_with fail
  go_ret
  exact ⟨a2, cap2, rfl, hown2, hb2⟩

end Go.Proofs.Ytkiigmfdfkflpaa
