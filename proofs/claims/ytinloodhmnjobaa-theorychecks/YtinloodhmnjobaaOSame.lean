/- CopyBytes answers a slice of its own with the same bytes, and SameBytes says whether two slices hold the same bytes. -/
import Derived.Test.YtinloodhmnjobaaMem
namespace Go.Proofs.Ytinloodhmnjobaa
open Go.RowKit

theorem take_eq_step {xs ys : List Int} {k : Nat} {c d : Int} (hx : xs.take (k + 1) = xs.take k ++ [c]) (hy : ys.take (k + 1) = ys.take k ++ [d]) (h : xs.take k = ys.take k) (hcd : c = d) : xs.take (k + 1) = ys.take (k + 1) := by
  rw [hx, hy, h, hcd]

theorem take_ne {xs ys : List Int} {k : Nat} {c d : Int} (hx : xs.take (k + 1) = xs.take k ++ [c]) (hy : ys.take (k + 1) = ys.take k ++ [d]) (h : xs.take k = ys.take k) (hcd : c ≠ d) : xs ≠ ys := by
  intro e; subst e; rw [hx] at hy; exact hcd (by simpa using hy)


set_option maxHeartbeats 400000 in
theorem same_any (a1 a2 : Option Addr) (len1 cap1 len2 cap2 : Nat) (xs ys : List Int) (w : World) (hl1 : xs.length = len1) (hl2 : ys.length = len2) (hlen : len1 ≤ 140737488355328) (h1 : Row w a1 xs) (h2 : Row w a2 ys) :
    Calls Try.prog 11 #[.slice a1 len1 cap1, .slice a2 len2 cap2] w fun e w' => e = .returned (.bool (decide (xs = ys))) ∧ Below w.heap.size w w' := by
  have HL1 : Hid (xs.length = len1) := hl1
  have HL2 : Hid (ys.length = len2) := hl2
  have HR1 : Hid (Row w a1 xs) := h1
  have HR2 : Hid (Row w a2 ys) := h2
  clear hl1 hl2 h1 h2
  by_cases hne : len1 = len2
  · subst hne
    go_enter Try.func11, Try.ntmps11
    go_wp2
    go_loopw [5] (fun i wr => ∃ k : Nat, k ≤ len1 ∧ i = .int .i64 k ∧ Hid (xs.take k = ys.take k) ∧ Below w.heap.size w wr)
      (fun i _ => len1 - (intOf i).toNat)
    case atStart => exact ⟨0, Nat.zero_le _, rfl, by simp [Hid], Below.refl _ _⟩
    case round =>
      obtain ⟨k, hk, rfl, HE, hbel⟩ := hrel
      by_cases hlt : k < len1
      · obtain ⟨b1, off1, c, ha1, hcx1, HT1⟩ := Row.get HR1.out HL1.out hbel hlt
        obtain ⟨b2, off2, d, ha2, hcx2, HT2⟩ := Row.get HR2.out HL2.out hbel hlt
        subst ha1
        subst ha2
        by_cases hcd : c = d
        · have hcdb : (c != d) = false := by simp [hcd]
          have HCD : Hid (c = d) := hcd
          clear hcd
          go_wp2
          go_region
          all_goals (try go_wp2)
          all_goals
            go_roundw
            case rel => exact ⟨k + 1, by omega, by go_num, take_eq_step HT1.out HT2.out HE.out HCD.out, by first | exact hbel.drew | exact hbel.drew.drew | exact hbel⟩
            case measure => simp [intOf]; omega
        · have hcdb : (c != d) = true := by simp [hcd]
          have HCD : Hid (c ≠ d) := hcd
          clear hcd
          go_wp2
          go_region
          all_goals (try go_wp2)
          all_goals go_ret
          all_goals exact ⟨ret_bool (by simp [take_ne HT1.out HT2.out HE.out HCD.out]), by first | exact hbel.drew | exact hbel.drew.drew | exact hbel⟩
      · go_wp2
        go_ret
        have : xs = ys := by
          have h := HE.out
          rw [List.take_of_length_le (by rw [HL1.out]; omega), List.take_of_length_le (by rw [HL2.out]; omega)] at h
          exact h
        exact ⟨ret_bool (by simp [this]), hbel⟩
  · have hb : ((len1 : Int) != len2) = true := by simp; omega
    have HN : Hid (xs ≠ ys) := by
      intro e
      have h1 := HL1.out
      have h2 := HL2.out
      subst e; omega
    go_enter Try.func11, Try.ntmps11
    go_wp2
    go_ret
    exact ⟨ret_bool (by simp [HN.out]), Below.refl _ _⟩

end Go.Proofs.Ytinloodhmnjobaa
