/- The document's Sum: of any bytes it answers what crc says, and leaves what was there as it was. -/
import Derived.Test.YtagpdceaononkaaSum
namespace Go.Proofs.Ytagpdceaononkaa
open Go.RowKit

set_option maxHeartbeats 400000 in
theorem refSum_any (a : Option Addr) (len cap : Nat) (zs : List Int) (w : World) (hl : zs.length = len) (hlen : len ≤ 140737488355328) (h : Row w a zs) :
    Calls Try.prog 25 #[.slice a len cap] w fun e w' => e = .returned (.int .u32 (crc zs)) ∧ w' = w := by
  have HL := hide hl
  have HR := hide h
  clear hl h
  go_enter Try.func25, Try.ntmps25
  go_wp2
  go_loop [3, 4] (fun s i => ∃ k x : Nat, k ≤ len ∧ x ≤ 4294967295 ∧ i = .int .i64 k ∧ s = .int .u32 x ∧ Hid (x = sumFrom 4294967295 (zs.take k))) (fun _ i => len - (intOf i).toNat)
  case atStart => exact ⟨0, 4294967295, by omega, by omega, rfl, rfl, rfl⟩
  case round =>
    obtain ⟨k, s, hk, hs, rfl, rfl, HS⟩ := hrel
    by_cases hlt : k < len
    · obtain ⟨b, off, c, ha, hcx, hc0, hc1, HT⟩ := Row.get' HR.out HL.out (Below.refl w.heap.size w) hlt
      subst ha
      obtain ⟨x1, e1, hx1, f1⟩ := sum_first s c hs hc0 hc1
      have HF := hide f1
      clear f1
      go_wp2_with fail
      go_loop [3, 5] (fun s i => ∃ j x : Nat, j ≤ 8 ∧ x ≤ 4294967295 ∧ i = .int .i64 j ∧ s = .int .u32 x ∧ Hid (x = bitSteps j x1)) (fun _ i => 8 - (intOf i).toNat)
      case atStart => exact ⟨0, x1, by omega, by omega, rfl, rfl, rfl⟩
      case round =>
        obtain ⟨j, x, hj, hx, rfl, rfl, HX⟩ := hrel
        by_cases hj8 : j < 8
        · by_cases ho : x % 2 = 1
          · have hb : ((x : Int) % 2 == 1) = true := by simp; omega
            have HSo := hide (bitStep_odd x ho (by omega))
            have HLo := hide (bitStep_lt (s := x) (by omega))
            clear ho
            go_wp2_with fail
            go_round
            case rel => exact ⟨j + 1, bitStep x, by omega, by have := HLo.out; omega, by go_num, by rw [← HSo.out]; simp, by unfold Hid; rw [bitSteps_succ, ← HX.out]⟩
            case measure => simp [intOf]; omega
          · have hb : ((x : Int) % 2 == 1) = false := by simp; omega
            have HSo : Hid (bitStep x = x / 2) := by unfold Hid bitStep; rw [if_neg ho]
            clear ho
            go_wp2_with fail
            go_round
            case rel => exact ⟨j + 1, bitStep x, by omega, by rw [HSo.out]; omega, by go_num, by rw [HSo.out]; simp, by unfold Hid; rw [bitSteps_succ, ← HX.out]⟩
            case measure => simp [intOf]; omega
        · have hj5 : 8 ≤ j := by omega
          have HX8 := hide (sum_take HT.out HS.out (show x = bitSteps 8 (s ^^^ c.toNat) by rw [← HF.out, HX.out, show j = 8 by omega]))
          clear HX HT HS
          go_wp2_with fail
          go_round
          case rel => exact ⟨k + 1, x, by omega, hx, by go_num, rfl, HX8⟩
          case measure => simp [intOf]; omega
    · have HE : Hid (s = sumFrom 4294967295 zs) := by have := HS.out; rwa [List.take_of_length_le (by rw [HL.out]; omega)] at this
      go_wp2_with fail
      go_ret
      exact ⟨ret_u32 (by rw [HE.out]; exact xor_cast 4294967295 _ (by decide) (by rw [← HE.out]; omega)), rfl⟩

end Go.Proofs.Ytagpdceaononkaa
