/- The program's Sum: what it answers, whatever the row (two words bear every sum of a row that a slice can hold). -/
import Derived.Test.YthpbadnedhjncaaDoorOwn2
import Derived.Shelf.Spec.BitsCarry
namespace Go.Proofs.YthpbadnedhjncaaDoor
open Go.RowKit Go.Shelf

def add64_ren : Go.Shelf.Ren := ⟨fun | 25 => 39 | n => n, fun | 22 => 68 | n => n, fun | n => n⟩
theorem add64_lays : Go.Proofs.Lays7.n25 Tryd.prog add64_ren := {
  mixed := by kernel_rfl
  f25 := Tryd.func39.trans (congrArg some (by kernel_rfl))
  t22 := Tryd.underlying68
  a22 := Tryd.isAgg68
  z22 := Tryd.sizeOf68
  v22 := Tryd.zeroValue68
  i22 := by kernel_rfl }

theorem add64_any (x y c : Nat) (hc : c ≤ 1) (w : World) :
    (callFunc 39 #[.int .u64 x, .int .u64 y, .int .u64 c]).run Tryd.prog w =
      .ok (.value (.tuple #[.int .u64 (((x + y + c) % 18446744073709551616 : Nat) : Int), .int .u64 (((x + y + c) / 18446744073709551616 : Nat) : Int)])) w := Any7.bits_Add64 add64_lays x y c hc w

def sw (m : Int) : Int := if m < 0 then 18446744073709551615 else 0

theorem ret_u64 {a b : Int} (h : a = b) : Ending.returned (.int .u64 a) = .returned (.int .u64 b) := by rw [h]

theorem signWord_any (m : Int) (w : World) (h0 : -9223372036854775808 ≤ m) (h1 : m ≤ 9223372036854775807) : Calls Tryd.prog 40 #[.int .i64 m] w fun e w' => e = .returned (.int .u64 (sw m)) ∧ w' = w := by
  have HV : Hid (IntKind.u64.wrap (m / 9223372036854775808) = sw m) := by
    unfold Hid; rw [IntKind.wrap_u64]; unfold sw; split <;> omega
  go_enter Tryd.func40, Tryd.ntmps40
  go_wp2
  go_ret
  exact ⟨ret_u64 HV.out, rfl⟩

theorem add64_int (x y c : Int) (hx : 0 ≤ x) (hy : 0 ≤ y) (hc0 : 0 ≤ c) (hc : c ≤ 1) (w : World) :
    (callFunc 39 #[.int .u64 x, .int .u64 y, .int .u64 c]).run Tryd.prog w =
      .ok (.value (.tuple #[.int .u64 ((x + y + c) % 18446744073709551616), .int .u64 ((x + y + c) / 18446744073709551616)])) w := by
  obtain ⟨x, rfl⟩ := Int.eq_ofNat_of_zero_le hx
  obtain ⟨y, rfl⟩ := Int.eq_ofNat_of_zero_le hy
  obtain ⟨c, rfl⟩ := Int.eq_ofNat_of_zero_le hc0
  have := add64_any x y c (by omega) w
  simpa using this

theorem two_words (S c lo hi u s lo' cy hi' : Int) (hlo : lo = S % 18446744073709551616) (hhi : hi = S / 18446744073709551616 % 18446744073709551616) (hu : u = c % 18446744073709551616)
    (hs : s = sw c) (hc0 : -9223372036854775808 ≤ c) (hc1 : c ≤ 9223372036854775807) (h1 : lo' = (lo + u + 0) % 18446744073709551616) (h2 : cy = (lo + u + 0) / 18446744073709551616) (h3 : hi' = (hi + s + cy) % 18446744073709551616) :
    lo' = (S + c) % 18446744073709551616 ∧ hi' = (S + c) / 18446744073709551616 % 18446744073709551616 ∧ 0 ≤ cy ∧ cy ≤ 1 := by
  have hs' : s = 18446744073709551615 ∧ c < 0 ∨ s = 0 ∧ 0 ≤ c := by rw [hs]; unfold sw; split <;> omega
  clear hs
  obtain ⟨S1, S0, rfl, k0, k1⟩ : ∃ S1 S0 : Int, S = S1 * 18446744073709551616 + S0 ∧ 0 ≤ S0 ∧ S0 < 18446744073709551616 := ⟨S / 18446744073709551616, S % 18446744073709551616, by omega, by omega, by omega⟩
  have e1 : (S1 * 18446744073709551616 + S0) % 18446744073709551616 = S0 := by omega
  have e2 : (S1 * 18446744073709551616 + S0) / 18446744073709551616 = S1 := by omega
  rw [e1] at hlo
  rw [e2] at hhi
  subst hlo
  rcases hs' with ⟨hs, hc⟩ | ⟨hs, hc⟩
  · have hu' : u = c + 18446744073709551616 := by omega
    rcases (show lo + u < 18446744073709551616 ∨ 18446744073709551616 ≤ lo + u by omega) with h | h
    · have hcy : cy = 0 := by omega
      have e3 : (S1 * 18446744073709551616 + lo + c) / 18446744073709551616 = S1 - 1 := by omega
      refine ⟨by omega, ?_, by omega, by omega⟩
      rw [e3]; omega
    · have hcy : cy = 1 := by omega
      have e3 : (S1 * 18446744073709551616 + lo + c) / 18446744073709551616 = S1 := by omega
      refine ⟨by omega, ?_, by omega, by omega⟩
      rw [e3]; omega
  · have hu' : u = c := by omega
    rcases (show lo + u < 18446744073709551616 ∨ 18446744073709551616 ≤ lo + u by omega) with h | h
    · have hcy : cy = 0 := by omega
      have e3 : (S1 * 18446744073709551616 + lo + c) / 18446744073709551616 = S1 := by omega
      refine ⟨by omega, ?_, by omega, by omega⟩
      rw [e3]; omega
    · have hcy : cy = 1 := by omega
      have e3 : (S1 * 18446744073709551616 + lo + c) / 18446744073709551616 = S1 + 1 := by omega
      refine ⟨by omega, ?_, by omega, by omega⟩
      rw [e3]; omega

/-- The words' end: the sum's low word is the sum just where the high word is its sign. -/
theorem two_words_end (S lo hi z : Int) (hb : -170141183460469231731687303715884105728 ≤ S) (hb1 : S < 170141183460469231731687303715884105728) (hlo : lo = S % 18446744073709551616) (hhi : hi = S / 18446744073709551616 % 18446744073709551616)
    (hz : z = IntKind.i64.wrap lo) : (hi = sw z → z = S) ∧ (hi ≠ sw z → S < -9223372036854775808 ∨ 9223372036854775807 < S) := by
  rw [IntKind.wrap_i64] at hz
  have hz' : z = lo ∧ lo < 9223372036854775808 ∨ z = lo - 18446744073709551616 ∧ 9223372036854775808 ≤ lo := by omega
  have hs : sw z = 18446744073709551615 ∧ z < 0 ∨ sw z = 0 ∧ 0 ≤ z := by unfold sw; split <;> omega
  clear hz
  generalize sw z = s at *
  constructor <;> intro h <;> omega

theorem sum_bound (zs : List Int) (h : ∀ z ∈ zs, may z = true) : -(1000000000000000 * (zs.length : Int)) ≤ zs.sum ∧ zs.sum ≤ 1000000000000000 * (zs.length : Int) := by
  induction zs with
  | nil => simp
  | cons a l ih =>
    have h1 := ih (fun z hz => h z (List.mem_cons_of_mem _ hz))
    have h2 := may_yes (h a (List.mem_cons_self ..))
    rw [List.sum_cons, List.length_cons]
    push_cast
    omega

set_option maxRecDepth 100000 in
set_option maxHeartbeats 2000000 in
theorem sum_any (a : Option Addr) (len cap : Nat) (zs : List Int) (w : World) (hl : zs.length = len) (hlen : len ≤ 140737488355328) (h : Nums .i64 w a zs) :
    Calls Tryd.prog 22 #[.slice a len cap] w fun e w' => e = .returned (pairV (sumM zs)) ∧ w' = w := by
  have HL := hide hl
  have HR := hide h
  clear hl h
  go_enter Tryd.func22, Tryd.ntmps22
  go_wp2
  go_loop [4, 5, 6, 14] (fun x y z i => ∃ (k : Nat) (hi lo cy : Int), k ≤ len ∧ i = .int .i64 k ∧ x = .int .u64 hi ∧ y = .int .u64 lo ∧ z = .int .u64 cy ∧ 0 ≤ hi ∧ hi ≤ 18446744073709551615 ∧ 0 ≤ lo ∧ lo ≤ 18446744073709551615 ∧ 0 ≤ cy ∧ cy ≤ 1 ∧ Hid (lo = (zs.take k).sum % 18446744073709551616) ∧ Hid (hi = (zs.take k).sum / 18446744073709551616 % 18446744073709551616) ∧ Hid (∀ z ∈ zs.take k, may z = true)) (fun _ _ _ i => len - (intOf i).toNat)
  case atStart => exact ⟨0, 0, 0, 0, by omega, rfl, rfl, rfl, rfl, by omega, by omega, by omega, by omega, by omega, by omega, by simp [Hid], by simp [Hid], by simp [Hid]⟩
  case round =>
    obtain ⟨k, hi, lo, cy, hk, rfl, rfl, rfl, rfl, hh1, hh2, hl1, hl2, hc1, hc2, HS, HH, HM⟩ := hrel
    by_cases hlt : k < len
    · obtain ⟨b, off, c, ha, hcx, HT, HC, HI⟩ := Nums.get HR.out HL.out (Below.refl w.heap.size w) hlt
      subst ha
      have CM := hide (fun w => check_any c w)
      cases hm : may c with
      | false =>
        have HB := hide (sumM_bad HI.out hm)
        rw [checkM_false hm] at CM
        clear hm
        go_wp2_with (go_at_call 17; refine (CM.out _).mono ?_; rintro e w' ⟨rfl, rfl⟩)
        go_ret2
        exact ⟨ret_pair HB.out, rfl⟩
      | true =>
        rw [checkM_true hm] at CM
        have hb := may_yes hm
        have HN := hide (sum_take_snoc HT.out)
        have HA : Hid (∀ z ∈ zs.take (k + 1), may z = true) := by
          intro z hz
          rw [HT.out] at hz
          rcases List.mem_append.1 hz with h | h
          · exact HM.out z h
          · simp at h; rw [h]; exact hm
        clear hm
        obtain ⟨u, hu⟩ : ∃ u, IntKind.u64.wrap c = u := ⟨_, rfl⟩
        have hu' : u = c % 18446744073709551616 := by rw [← hu, IntKind.wrap_u64]
        have hu0 : 0 ≤ u ∧ u ≤ 18446744073709551615 := by omega
        obtain ⟨s, hs⟩ : ∃ s, s = sw c := ⟨_, rfl⟩
        have hs0 : 0 ≤ s ∧ s ≤ 18446744073709551615 := by rw [hs]; unfold sw; split <;> omega
        have CS := hide (fun w => signWord_any c w (by omega) (by omega))
        rw [← hs] at CS
        obtain ⟨lo', hlo'⟩ : ∃ x, x = (lo + u + 0) % 18446744073709551616 := ⟨_, rfl⟩
        obtain ⟨cy', hcy'⟩ : ∃ x, x = (lo + u + 0) / 18446744073709551616 := ⟨_, rfl⟩
        obtain ⟨hi', hhi'⟩ : ∃ x, x = (hi + s + cy') % 18446744073709551616 := ⟨_, rfl⟩
        obtain ⟨cz, hcz⟩ : ∃ x, x = (hi + s + cy') / 18446744073709551616 := ⟨_, rfl⟩
        have hb1 : 0 ≤ lo' ∧ lo' ≤ 18446744073709551615 := by omega
        have hb2 : 0 ≤ cy' ∧ cy' ≤ 1 := by omega
        have hb3 : 0 ≤ hi' ∧ hi' ≤ 18446744073709551615 := by omega
        have HW := hide (two_words _ _ _ _ _ _ _ _ _ HS.out HH.out hu' hs (by omega) (by omega) hlo' hcy' hhi')
        have k1 : ∀ w, (callFunc 39 #[.int .u64 lo, .int .u64 u, .int .u64 0]).run Tryd.prog w = .ok (.value (.tuple #[.int .u64 lo', .int .u64 cy'])) w := fun w => by
          rw [add64_int lo u 0 hl1 hu0.1 (by omega) (by omega) w, hlo', hcy']
        have k2 : ∀ w, (callFunc 39 #[.int .u64 hi, .int .u64 s, .int .u64 cy']).run Tryd.prog w = .ok (.value (.tuple #[.int .u64 hi', .int .u64 cz])) w := fun w => by
          rw [add64_int hi s cy' hh1 hs0.1 hb2.1 hb2.2 w, hhi', hcz]
        clear hu' hlo' hcy' hhi' hcz hs
        go_wp2_with (first | (go_at_call 17; refine (CM.out _).mono ?_; rintro e w' ⟨rfl, rfl⟩) | (go_at_call 40; refine (CS.out _).mono ?_; rintro e w' ⟨rfl, rfl⟩))
        go_round
        case rel => exact ⟨k + 1, hi', lo', cy', by omega, by go_num, rfl, rfl, rfl, by omega, by omega, by omega, by omega, by omega, by omega, by unfold Hid; rw [HN.out]; exact HW.out.1, by unfold Hid; rw [HN.out]; exact HW.out.2.1, HA⟩
        case measure => simp [intOf]; omega
    · have hke : k = len := by omega
      have HE : Hid (zs.take k = zs) := List.take_of_length_le (by rw [HL.out]; omega)
      have HMa : Hid (∀ z ∈ zs, may z = true) := by have := HM.out; rwa [HE.out] at this
      have hB := sum_bound zs HMa.out
      rw [HL.out] at hB
      obtain ⟨z, hz⟩ : ∃ z, IntKind.i64.wrap lo = z := ⟨_, rfl⟩
      have hz0 : -9223372036854775808 ≤ z ∧ z ≤ 9223372036854775807 := by rw [← hz, IntKind.wrap_i64]; omega
      have HW := hide (two_words_end zs.sum lo hi z (by omega) (by omega) (by have := HS.out; rwa [HE.out] at this) (by have := HH.out; rwa [HE.out] at this) hz.symm)
      obtain ⟨s, hs⟩ : ∃ s, s = sw z := ⟨_, rfl⟩
      have CS := hide (fun w => signWord_any z w hz0.1 hz0.2)
      rw [← hs] at HW CS
      have CM := hide (fun w => check_any z w)
      clear hs hB hke
      by_cases hh : hi = s
      · have HV := hide (HW.out.1 hh)
        subst hh
        cases hm : may z with
        | false =>
          have HB := hide (sumM_over (l := zs) (by rw [← HV.out]; exact hm))
          rw [checkM_false hm] at CM
          clear hm
          go_wp2_with (first | (go_at_call 17; refine (CM.out _).mono ?_; rintro e w' ⟨rfl, rfl⟩) | (go_at_call 40; refine (CS.out _).mono ?_; rintro e w' ⟨rfl, rfl⟩))
          go_ret2
          exact ⟨ret_pair HB.out, rfl⟩
        | true =>
          have HB := hide (sumM_ok HMa.out (by rw [← HV.out]; exact hm))
          rw [checkM_true hm] at CM
          clear hm
          go_wp2_with (first | (go_at_call 17; refine (CM.out _).mono ?_; rintro e w' ⟨rfl, rfl⟩) | (go_at_call 40; refine (CS.out _).mono ?_; rintro e w' ⟨rfl, rfl⟩))
          go_ret2
          exact ⟨ret_pair (by rw [HB.out, HV.out]), rfl⟩
      · have HB := hide (sumM_over (l := zs) (may_not (by have := HW.out.2 hh; omega)))
        have hhb : (hi == s) = false := by simp [hh]
        go_wp2_with (first | (go_at_call 17; refine (CM.out _).mono ?_; rintro e w' ⟨rfl, rfl⟩) | (go_at_call 40; refine (CS.out _).mono ?_; rintro e w' ⟨rfl, rfl⟩))
        go_ret2
        exact ⟨ret_pair HB.out, rfl⟩

end Go.Proofs.YthpbadnedhjncaaDoor
