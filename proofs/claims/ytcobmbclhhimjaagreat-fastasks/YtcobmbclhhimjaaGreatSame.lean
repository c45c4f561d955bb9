/- Two theories that are one are the same. -/
import Derived.Test.YtcobmbclhhimjaaGreatVisit
import Derived.BigQuiet
import Derived.Deep.RegionHeld3
namespace Go.Proofs.YtcobmbclhhimjaaGreat
open Go.RowKit

set_option maxRecDepth 100000 in
set_option maxHeartbeats 3200000 in
theorem sameInts_yes {l : List Int} {a b : Option Addr} {c d : Nat} {w : World} (ha : At1 w a (ints l)) (hb : At1 w b (ints l)) (hl : l.length ≤ 140737488351232) :
    Calls Tryz.prog 16 #[.slice a l.length c, .slice b l.length d] w fun e w' => e = .returned (.bool true) ∧ Below w.heap.size w w' := by
  have HA := hide ha
  have HB := hide hb
  clear ha hb
  go_enter Tryz.func16, Tryz.ntmps16
  go_wp2_with fail
  go_loopw [5] (fun x wr => ∃ k q : Nat, k ≤ l.length ∧ x = .int .i64 k ∧ wr = w.drewN q) (fun x _ => l.length - (intOf x).toNat)
  case atStart => exact ⟨0, 0, by omega, rfl, rfl⟩
  case round =>
    obtain ⟨k, q, hk, rfl, rfl⟩ := hrel
    by_cases hlt : k < l.length
    · obtain ⟨x, hx⟩ := get_at hlt
      obtain ⟨ga, oa, rfl, a0⟩ := HA.out.get hx
      obtain ⟨gb, ob, rfl, b0⟩ := HB.out.get hx
      clear hx
      go_wp2_with fail
      go_quiet (fail)
      go_wp2_with fail
      go_roundw
      case rel => exact ⟨k + 1, _, by omega, by go_num, rfl⟩
      case measure => simp [intOf]; omega
    · go_wp2_with fail
      go_ret
      exact ⟨rfl, below_drewN w q⟩
abbrev Tw1 (wr : World) (ga gb oa ob : Nat) (p q : Value) (X : World) : Prop := X.cell? ⟨ga, oa, none⟩ = some p ∧ X.cell? ⟨gb, ob, none⟩ = some q ∧ ga < wr.heap.size ∧ gb < wr.heap.size ∧ Below wr.heap.size wr X
theorem Tw1.b {wr X : World} {ga gb oa ob : Nat} {p q : Value} (h : Tw1 wr ga gb oa ob p q X) : Below wr.heap.size wr X := h.2.2.2.2
theorem Tw1.drew {wr X : World} {ga gb oa ob : Nat} {p q : Value} (h : Tw1 wr ga gb oa ob p q X) : Tw1 wr ga gb oa ob p q X.drew := ⟨h.1, h.2.1, h.2.2.1, h.2.2.2.1, h.2.2.2.2.drew⟩
theorem Tw1.below {wr X Y : World} {ga gb oa ob : Nat} {p q : Value} (h : Tw1 wr ga gb oa ob p q X) (hb : Below X.heap.size X Y) : Tw1 wr ga gb oa ob p q Y := by
  obtain ⟨h1, h2, h3, h4, h5⟩ := h
  have hs := h5.size
  have ha : ga < X.heap.size := by omega
  have hc : gb < X.heap.size := by omega
  refine ⟨?_, ?_, h3, h4, h5.trans (hb.mono hs)⟩ <;> rw [hb.cell (by assumption)] <;> assumption
abbrev Tw3 (wr : World) (ga gb oa ob : Nat) (p0 p1 p2 q0 q1 q2 : Value) (X : World) : Prop := X.cell? ⟨ga, oa, none⟩ = some p0 ∧ X.cell? ⟨ga, oa + 1, none⟩ = some p1 ∧ X.cell? ⟨ga, oa + 2, none⟩ = some p2 ∧ X.cell? ⟨gb, ob, none⟩ = some q0 ∧ X.cell? ⟨gb, ob + 1, none⟩ = some q1 ∧ X.cell? ⟨gb, ob + 2, none⟩ = some q2 ∧ ga < wr.heap.size ∧ gb < wr.heap.size ∧ Below wr.heap.size wr X
theorem Tw3.b {wr X : World} {ga gb oa ob : Nat} {p0 p1 p2 q0 q1 q2 : Value} (h : Tw3 wr ga gb oa ob p0 p1 p2 q0 q1 q2 X) : Below wr.heap.size wr X := h.2.2.2.2.2.2.2.2
theorem Tw3.drew {wr X : World} {ga gb oa ob : Nat} {p0 p1 p2 q0 q1 q2 : Value} (h : Tw3 wr ga gb oa ob p0 p1 p2 q0 q1 q2 X) : Tw3 wr ga gb oa ob p0 p1 p2 q0 q1 q2 X.drew := by
  obtain ⟨h1, h2, h3, h4, h5, h6, h7, h8, h9⟩ := h
  exact ⟨h1, h2, h3, h4, h5, h6, h7, h8, h9.drew⟩
theorem Tw3.below {wr X Y : World} {ga gb oa ob : Nat} {p0 p1 p2 q0 q1 q2 : Value} (h : Tw3 wr ga gb oa ob p0 p1 p2 q0 q1 q2 X) (hb : Below X.heap.size X Y) : Tw3 wr ga gb oa ob p0 p1 p2 q0 q1 q2 Y := by
  obtain ⟨h1, h2, h3, h4, h5, h6, h7, h8, h9⟩ := h
  have hs := h9.size
  have ha : ga < X.heap.size := by omega
  have hc : gb < X.heap.size := by omega
  refine ⟨?_, ?_, ?_, ?_, ?_, ?_, h7, h8, h9.trans (hb.mono hs)⟩ <;> rw [hb.cell (by assumption)] <;> assumption
end Go.Proofs.YtcobmbclhhimjaaGreat
