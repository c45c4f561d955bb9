/- SameMarks of one list of marks. -/
import Derived.Test.YthifoamnmhlghaaTrw
namespace Go.Proofs.Ythifoamnmhlghaa.Fa
open Go.RowKit

set_option maxRecDepth 100000 in
set_option maxHeartbeats 6400000 in
theorem sameMarks_yes {w : World} {m : List Int} {va ua : Option Addr} {vc uc n : Nat} (hn : m.length = n) (hn4 : n ≤ 4096) (h1 : At1 w va (u8s m)) (h2 : At1 w ua (u8s m)) :
    Calls Try.prog 13 #[.slice va n vc, .slice ua n uc] w fun e w' => e = .returned (.bool true) ∧ Below w.heap.size w w' := by
  have H1 := hide h1
  have H2 := hide h2
  have HN := hide hn
  clear h1 h2 hn
  go_enter Try.func13, Try.ntmps13
  go_wp2_with fail
  go_loopw [5] (fun x wr => ∃ k : Nat, k ≤ n ∧ x = .int .i64 k ∧ Hid (Below w.heap.size w wr)) (fun x _ => n - (intOf x).toNat)
  case atStart => exact ⟨0, by omega, rfl, hide (Below.refl _ _)⟩
  case round =>
    obtain ⟨k, hk, rfl, HB⟩ := hrel
    by_cases hlt : k < n
    · obtain ⟨g, o, rfl, a0⟩ := (H1.out.below HB.out) k _ (u8s_at (by rw [HN.out]; exact hlt))
      obtain ⟨g2, o2, rfl, a1⟩ := (H2.out.below HB.out) k _ (u8s_at (by rw [HN.out]; exact hlt))
      generalize m.getD k 0 = z at *
      go_wp2_with fail
      go_quiet (fail)
      go_wp2_with fail
      go_roundw
      case rel => exact ⟨k + 1, by omega, by go_num, hide (HB.out.trans ((below_drewN wr _).mono HB.out.size))⟩
      case measure => simp [intOf]; omega
    · go_wp2_with fail
      go_ret
      exact ⟨rfl, HB.out⟩
end Go.Proofs.Ythifoamnmhlghaa.Fa
