/- ReadUint, the program's and the document's: of any bytes, at any place, both answer what readU says, and turn nothing in memory. -/
import Derived.Test.YtagpdceaononkaaOBase
import Derived.Test.YtagpdceaononkaaONums
namespace Go.Proofs.Ytagpdceaononkaa
open Go.RowKit

def trip (r : Int × Int × Int) : Value := .tuple #[.int .u64 r.1, .int .i64 r.2.1, .int .i64 r.2.2]

theorem ret_trip {n t e : Int} {r : Int × Int × Int} (h : r = (n, t, e)) : Ending.returned (.tuple #[.int .u64 n, .int .i64 t, .int .i64 e]) = .returned (trip r) := by rw [h]; rfl

theorem rd_bad {zs : List Int} {len p : Int} {q k : Nat} {acc c : Int} {r : Int × Int × Int} (h : r = rd len p k acc (zs.drop q)) (hq : q < zs.length) (hc : c = zs.getD q 0) (hb : k = 9 ∧ 1 < c) : r = (0, p, 11) := by
  rw [h, drop_cons zs q hq, ← hc, rd, if_pos hb]

theorem rd_more {zs : List Int} {len p : Int} {q k : Nat} {acc c : Int} {r : Int × Int × Int} (h : r = rd len p k acc (zs.drop q)) (hq : q < zs.length) (hc : c = zs.getD q 0) (hb : ¬ (k = 9 ∧ 1 < c)) (h1 : 128 ≤ c) :
    r = rd len p (k + 1) (acc + c % 128 * 2 ^ (7 * k)) (zs.drop (q + 1)) := by
  rw [h, drop_cons zs q hq, ← hc, rd, if_neg hb, if_pos h1]

theorem rd_zero {zs : List Int} {len p : Int} {q k : Nat} {acc c : Int} {r : Int × Int × Int} (h : r = rd len p k acc (zs.drop q)) (hq : q < zs.length) (hc : c = zs.getD q 0) (hb : c = 0 ∧ 0 < k) : r = (0, p, 11) := by
  rw [h, drop_cons zs q hq, ← hc, rd, if_neg (by omega), if_neg (by omega), if_pos hb]

theorem rd_ok {zs : List Int} {len p : Int} {q k : Nat} {acc c : Int} {r : Int × Int × Int} (h : r = rd len p k acc (zs.drop q)) (hq : q < zs.length) (hc : c = zs.getD q 0) (hb : ¬ (k = 9 ∧ 1 < c)) (h1 : c < 128) (hz : ¬ (c = 0 ∧ 0 < k)) :
    r = (acc + c % 128 * 2 ^ (7 * k), p + k + 1, 0) := by
  rw [h, drop_cons zs q hq, ← hc, rd, if_neg hb, if_neg (by omega), if_neg hz]

theorem rd_short {zs : List Int} {len p : Int} {q k : Nat} {acc : Int} {r : Int × Int × Int} (h : r = rd len p k acc (zs.drop q)) (hq : zs.length ≤ q) : r = (0, len, 8) := by
  rw [h, List.drop_of_length_le hq, rd]

set_option maxHeartbeats 800000 in
theorem readUint_in (a : Option Addr) (len cap : Nat) (zs : List Int) (p : Nat) (w : World) (r : Int × Int × Int) (hr : r = rd len p 0 0 (zs.drop p)) (hl : zs.length = len) (hlen : len ≤ 140737488355328) (hcap : len ≤ cap) (hp : p < len) (h : Row w a zs) :
    Calls Try.prog 52 #[.slice a len cap, .int .i64 p] w fun e w' => e = .returned (trip r) ∧ w' = w := by
  obtain ⟨b, off, ha, hcell⟩ := h.cells (by intro e; subst e; simp at hl; omega)
  subst ha
  have HB : Hid (∀ i : Nat, 0 ≤ zs[i]?.getD 0 ∧ zs[i]?.getD 0 ≤ 255) := h.byte
  have HL : Hid (zs.length = len) := hl
  have HA : Hid (r = rd len p 0 0 (zs.drop p)) := hr
  have HR : Hid (∀ i, i < zs.length → w.cell? ⟨b, off + i, none⟩ = some (.int .u8 (zs.getD i 0))) := hcell
  clear hl h hcell hr
  have hp0 : decide ((p : Int) < 0) = false := by simp
  have hp1 : decide (len < p) = false := by simp; omega
  have hcp : ¬ cap = p := by omega
  go_enter Try.func52, Try.ntmps52
  go_wp2
  go_loop [7, 23] (fun n i => ∃ k : Nat, k ≤ len - p ∧ k ≤ 9 ∧ i = .int .i64 k ∧ ∃ acc : Int, 0 ≤ acc ∧ Hid (acc < 2 ^ (7 * k)) ∧ n = .int .u64 acc ∧ Hid (r = rd len p k acc (zs.drop (p + k)))) (fun _ i => len - (intOf i).toNat)
  case atStart => exact ⟨0, by omega, by omega, rfl, 0, by omega, by simp [Hid], rfl, HA⟩
  case round =>
    obtain ⟨k, hk, hk9, rfl, acc, hacc, HX, rfl, HE⟩ := hrel
    clear HA
    by_cases hlt : k < len - p
    · obtain ⟨c, hc⟩ : ∃ c, c = zs.getD (p + k) 0 := ⟨_, rfl⟩
      have hcx : w.cell? ⟨b, off + p + k, none⟩ = some (.int .u8 c) := by rw [hc, Nat.add_assoc]; exact HR.out (p + k) (by rw [HL.out]; omega)
      have hcb : 0 ≤ c ∧ c ≤ 255 := by rw [hc]; simpa using HB.out (p + k)
      obtain ⟨hc0, hc255⟩ := hcb
      have HC : Hid (c = zs.getD (p + k) 0) := hc
      clear hc HR HB
      have HQ : Hid (p + k < zs.length) := by rw [HL.out]; unfold Hid; omega
      by_cases hbad : k = 9 ∧ 1 < c
      · have HZ := hide (rd_bad HE.out HQ.out HC.out hbad)
        have hk9a : 9 ≤ k := by omega
        have hc1 : 1 < c := hbad.2
        clear hbad
        go_wp2
        go_ret3
        exact ⟨ret_trip HZ.out, rfl⟩
      · have HA := hide (and127 c hc0 hc255)
        by_cases hc128 : 128 ≤ c
        · have hk8 : k < 9 := by omega
          have HN := hide (rd_more HE.out HQ.out HC.out hbad hc128)
          have HS := hide (acc_step acc (c % 128) k hacc HX.out (by omega) (by omega) (.inl hk8))
          clear hbad HE
          go_wp2
          go_round
          case rel => exact ⟨k + 1, by omega, by omega, by go_num, acc + c % 128 * 2 ^ (7 * k), acc_pos _ _ _ hacc (by omega), acc_next _ _ _ HX.out (by omega), by rw [HA.out, HS.out], by rw [← Nat.add_assoc]; exact HN⟩
          case measure => simp [intOf]; omega
        · by_cases hz : c = 0 ∧ 0 < k
          · have HZ := hide (rd_zero HE.out HQ.out HC.out hz)
            have hcz : c ≤ 0 := by omega
            have hk0 : 0 < k := hz.2
            clear hbad hz hc128
            rcases (show k < 9 ∨ 9 ≤ k by omega) with hk8 | hk8
            all_goals
              go_wp2
              go_ret3
              exact ⟨ret_trip HZ.out, rfl⟩
          · have HO := hide (rd_ok HE.out HQ.out HC.out hbad (by omega) hz)
            have HS := hide (acc_step acc (c % 128) k hacc HX.out (by omega) (by omega) (by omega))
            have hways : (9 ≤ k ∧ 1 ≤ c ∧ c ≤ 1) ∨ (k < 9 ∧ 1 ≤ c) ∨ (k ≤ 0 ∧ c ≤ 0) := by omega
            clear hbad HE hz
            rcases hways with ⟨hk8, hc1, hc2⟩ | ⟨hk8, hc1⟩ | ⟨hk8, hc1⟩
            · have HK : Hid (k = 9) := by unfold Hid; omega
              go_wp2
              go_ret3
              exact ⟨ret_trip (by rw [HA.out, HO.out, ← HS.out, HK.out]; simp), rfl⟩
            · go_wp2
              go_ret3
              exact ⟨ret_trip (by rw [HA.out, HS.out]; exact HO.out), rfl⟩
            · have HK : Hid (c = 0) := by unfold Hid; omega
              go_wp2
              go_ret3
              exact ⟨ret_trip (by rw [HO.out, ← HS.out, ← HA.out, HK.out]), rfl⟩
    · have HZ := hide (rd_short HE.out (by rw [HL.out]; omega))
      go_wp2
      go_ret3
      exact ⟨ret_trip HZ.out, rfl⟩

theorem readUint_out (a : Option Addr) (len cap : Nat) (p : Int) (w : World) (hlen : len ≤ 140737488355328) (hp : p < 0 ∨ (len : Int) < p) :
    Calls Try.prog 52 #[.slice a len cap, .int .i64 p] w fun e w' => e = .returned (trip (0, p, 1)) ∧ w' = w := by
  rcases hp with hp | hp
  all_goals
    go_enter Try.func52, Try.ntmps52
    go_wp2
    go_ret3
    exact ⟨ret_trip rfl, rfl⟩

theorem readUint_end (a : Option Addr) (len cap : Nat) (w : World) (hlen : len ≤ 140737488355328) (hcap : len ≤ cap) (hn : a = none → cap = 0) :
    Calls Try.prog 52 #[.slice a len cap, .int .i64 len] w fun e w' => e = .returned (trip (0, len, 8)) ∧ w' = w := by
  have hp0 : decide ((len : Int) < 0) = false := by simp
  have hp1 : decide (len < len) = false := by simp
  by_cases hcp : cap = len
  · subst hcp
    go_enter Try.func52, Try.ntmps52
    go_wp2
    go_loop [7, 23] (fun n i => i = .int .i64 0) (fun _ _ => 0)
    case atStart => rfl
    case round =>
      obtain rfl := hrel
      go_wp2
      go_ret3
      exact ⟨ret_trip rfl, rfl⟩
  · cases a with
    | none => exact absurd (hn rfl) (by omega)
    | some x =>
      go_enter Try.func52, Try.ntmps52
      go_wp2
      go_loop [7, 23] (fun n i => i = .int .i64 0) (fun _ _ => 0)
      case atStart => rfl
      case round =>
        obtain rfl := hrel
        go_wp2
        go_ret3
        exact ⟨ret_trip rfl, rfl⟩

theorem readUint_any (a : Option Addr) (len cap : Nat) (zs : List Int) (p : Int) (w : World) (hl : zs.length = len) (hlen : len ≤ 140737488355328) (hcap : len ≤ cap) (hn : a = none → cap = 0) (h : Row w a zs) :
    Calls Try.prog 52 #[.slice a len cap, .int .i64 p] w fun e w' => e = .returned (trip (readU zs p)) ∧ w' = w := by
  subst hl
  by_cases hp : p < 0 ∨ (zs.length : Int) < p
  · rw [readU, if_pos hp]
    exact readUint_out a zs.length cap p w hlen hp
  · obtain ⟨q, rfl⟩ := Int.eq_ofNat_of_zero_le (show 0 ≤ p by omega)
    rw [readU, if_neg hp]
    by_cases hq : q < zs.length
    · exact readUint_in a zs.length cap zs q w _ rfl rfl hlen hcap hq h
    · have e : q = zs.length := by omega
      subst e
      rw [show rd zs.length zs.length 0 0 (zs.drop (Int.toNat zs.length)) = (0, (zs.length : Int), 8) by simp [rd]]
      exact readUint_end a zs.length cap w hlen hcap hn

end Go.Proofs.Ytagpdceaononkaa
