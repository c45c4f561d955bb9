/- Whether two lists are one, where they are. -/
import Derived.Test.YtijpdoclmplclaaBy
namespace Go.Proofs.Ytijpdoclmplclaa
open Go.RowKit Go.Shelf Go.Maps

theorem ints_at {l : List Nat} {i : Nat} (hi : i < l.length) : (ints l)[i]? = some (.int .i64 (l.getD i 0 : Nat)) := by
  unfold ints
  rw [List.getElem?_map, List.getElem?_eq_getElem hi]
  simp [List.getD, hi]

set_option maxRecDepth 100000 in
set_option maxHeartbeats 3200000 in
theorem sameI_any {l : List Nat} {va vb : Value} {w : World} (ha : w.ownsRow 0 3 1 va l.length (ints l)) (hb : w.ownsRow 0 3 1 vb l.length (ints l)) (hl : l.length ≤ 4096) :
    Calls Try.prog 19 #[va, vb] w fun e w' => e = .returned (.bool true) ∧ Below w.heap.size w w' := by
  have HA := hide ha
  have HB := hide hb
  obtain ⟨aa, ca, rfl⟩ := owns_slice ha
  obtain ⟨ab, cb, rfl⟩ := owns_slice hb
  clear ha hb
  go_enter Try.func19, Try.ntmps19
  go_wp2_with fail
  go_loopw [5] (fun x wr => ∃ k q : Nat, k ≤ l.length ∧ x = .int .i64 k ∧ wr = w.drewN q) (fun x _ => l.length - (intOf x).toNat)
  case atStart => exact ⟨0, 0, by omega, rfl, rfl⟩
  case round =>
    obtain ⟨k, q, hk, rfl, rfl⟩ := hrel
    by_cases hlt : k < l.length
    · obtain ⟨ga, xa, e1, a0, -, -⟩ := owns_at HA.out (ints_at hlt)
      obtain ⟨gb, xb, e2, b0, -, -⟩ := owns_at HB.out (ints_at hlt)
      simp only [Value.slice.injEq] at e1 e2
      obtain ⟨rfl, -, rfl⟩ := e1
      obtain ⟨rfl, -, rfl⟩ := e2
      generalize l.getD k 0 = t at a0 b0
      go_wp2_with fail
      go_quiet (fail)
      go_wp2_with fail
      go_roundw
      case rel => exact ⟨k + 1, _, by omega, by go_num, rfl⟩
      case measure => simp [intOf]; omega
    · go_wp2_with fail
      go_ret
      exact ⟨rfl, below_drewN w q⟩

set_option maxRecDepth 100000 in
set_option maxHeartbeats 3200000 in
theorem sameS_any {l : List Bytes} {va vb : Value} {w : World} (ha : w.ownsRow 0 9 1 va l.length (strs l)) (hb : w.ownsRow 0 9 1 vb l.length (strs l)) (hl : l.length ≤ 4096) :
    Calls Try.prog 17 #[va, vb] w fun e w' => e = .returned (.bool true) ∧ Below w.heap.size w w' := by
  have HA := hide ha
  have HB := hide hb
  obtain ⟨aa, ca, rfl⟩ := owns_slice ha
  obtain ⟨ab, cb, rfl⟩ := owns_slice hb
  clear ha hb
  go_enter Try.func17, Try.ntmps17
  go_wp2_with fail
  go_loopw [5] (fun x wr => ∃ k q : Nat, k ≤ l.length ∧ x = .int .i64 k ∧ wr = w.drewN q) (fun x _ => l.length - (intOf x).toNat)
  case atStart => exact ⟨0, 0, by omega, rfl, rfl⟩
  case round =>
    obtain ⟨k, q, hk, rfl, rfl⟩ := hrel
    by_cases hlt : k < l.length
    · obtain ⟨ga, xa, e1, a0, -, -⟩ := owns_at HA.out (strs_at hlt)
      obtain ⟨gb, xb, e2, b0, -, -⟩ := owns_at HB.out (strs_at hlt)
      simp only [Value.slice.injEq] at e1 e2
      obtain ⟨rfl, -, rfl⟩ := e1
      obtain ⟨rfl, -, rfl⟩ := e2
      generalize l.getD k [] = t at a0 b0
      unfold str at a0 b0
      go_wp2_with fail
      go_quiet (fail)
      go_wp2_with fail
      go_roundw
      case rel => exact ⟨k + 1, _, by omega, by go_num, rfl⟩
      case measure => simp [intOf]; omega
    · go_wp2_with fail
      go_ret
      exact ⟨rfl, below_drewN w q⟩

end Go.Proofs.Ytijpdoclmplclaa
