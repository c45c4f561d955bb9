/- SameBytes once more: it only looks: behind it the world is as it was, but for the draws of an order. -/
import Derived.Test.YtkiigmfdfkflpaaCopy
import Derived.Deep.QuietTactic
import Derived.BigQuiet
namespace Go.Proofs.Ytkiigmfdfkflpaa
open Go.RowKit

theorem drewN_below (w : World) (m B : Nat) : Below B w (w.drewN m) := ⟨rfl, rfl, rfl, Nat.le_refl _, fun _ _ => rfl⟩

theorem drewN_more {w wr : World} (h : ∃ m, wr = w.drewN m) : ∃ m, wr.drew = w.drewN m := by
  obtain ⟨m, rfl⟩ := h
  exact ⟨m + 1, by simp [World.drew, World.drewN, Nat.add_assoc]⟩

set_option maxHeartbeats 400000 in
theorem same_quiet (a1 a2 : Option Addr) (len1 cap1 len2 cap2 : Nat) (xs : List Int) (w : World) (hl1 : xs.length = len1) (hl2 : xs.length = len2) (hlen : len1 ≤ 140737488355328) (h1 : Row w a1 xs) (h2 : Row w a2 xs) :
    Calls Try.prog 12 #[.slice a1 len1 cap1, .slice a2 len2 cap2] w fun e w' => e = .returned (.bool true) ∧ ∃ m, w' = w.drewN m := by
  have HL1 := hide hl1
  have HR1 := hide h1
  have HR2 := hide h2
  have hne : len1 = len2 := by rw [← hl1, ← hl2]
  clear hl1 hl2 h1 h2
  subst hne
  go_enter Try.func12, Try.ntmps12
  go_wp2
  go_loopw [5] (fun i wr => ∃ k : Nat, k ≤ len1 ∧ i = .int .i64 k ∧ Hid (∃ m, wr = w.drewN m)) (fun i _ => len1 - (intOf i).toNat)
  case atStart => exact ⟨0, Nat.zero_le _, rfl, 0, rfl⟩
  case round =>
    obtain ⟨k, hk, rfl, HW⟩ := hrel
    by_cases hlt : k < len1
    · have hbel : Below w.heap.size w wr := by obtain ⟨m, rfl⟩ := HW.out; exact drewN_below w m _
      obtain ⟨b1, off1, c, ha1, hcx1, HT1⟩ := Row.get HR1.out HL1.out hbel hlt
      obtain ⟨b2, off2, d, ha2, hcx2, HT2⟩ := Row.get HR2.out HL1.out hbel hlt
      subst ha1
      subst ha2
      have hcd : c = d := by have h := HT1.out; rw [HT2.out] at h; simpa using h.symm
      have hcdb : (c != d) = false := by simp [hcd]
      clear hcd hbel
      go_wp2
      go_region
      all_goals (try go_wp2)
      all_goals
        go_roundw
        case rel => exact ⟨k + 1, by omega, by go_num, drewN_more HW.out⟩
        case measure => simp [intOf]; omega
    · go_wp2
      go_ret
      exact ⟨rfl, HW.out⟩

end Go.Proofs.Ytkiigmfdfkflpaa
