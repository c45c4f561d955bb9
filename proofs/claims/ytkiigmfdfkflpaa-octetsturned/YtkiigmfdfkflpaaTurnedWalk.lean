/- OctetsTurned, walked: of any bytes, place and bits it returns true and turns nothing that was there. -/
import Derived.Test.YtkiigmfdfkflpaaCopy
import Derived.Test.YtkiigmfdfkflpaaTurnPlain
import Derived.Test.YtkiigmfdfkflpaaAlive
import Derived.BigRegion
namespace Go.Proofs.Ytkiigmfdfkflpaa
open Go.RowKit

theorem mem_of_getD {zs : List Int} (h : ∀ i : Nat, 0 ≤ zs[i]?.getD 0 ∧ zs[i]?.getD 0 ≤ 255) : ∀ z ∈ zs, 0 ≤ z ∧ z ≤ 255 := by
  intro z hz
  obtain ⟨i, hi, rfl⟩ := List.mem_iff_getElem.1 hz
  simpa [hi] using h i

theorem shifted_bit (t k : Nat) (ht : t ≤ 4294967295) : bits .and .u32 ((t : Int) / 2 ^ k) 1 = ((t / 2 ^ k % 2 : Nat) : Int) := by
  have e : ((t : Int) / 2 ^ k) = ((t / 2 ^ k : Nat) : Int) := by simp
  have hlt : t / 2 ^ k < 4294967296 := Nat.lt_of_le_of_lt (Nat.div_le_self _ _) (by omega)
  rw [e]
  exact and_one _ hlt

theorem turn_test (t k : Nat) (ht : t ≤ 4294967295) (h : t / 2 ^ k % 2 = 1) : (bits .and .u32 ((t : Int) / 2 ^ k) 1 == 1) = true := by
  rw [shifted_bit t k ht, h]; rfl

theorem turn_untest (t k : Nat) (ht : t ≤ 4294967295) (h : ¬ t / 2 ^ k % 2 = 1) : (bits .and .u32 ((t : Int) / 2 ^ k) 1 == 1) = false := by
  rw [shifted_bit t k ht, show t / 2 ^ k % 2 = 0 by omega]; rfl

theorem xor_bit (x : Int) (r : Nat) (h0 : 0 ≤ x) (h1 : x ≤ 255) (hr : r < 8) : bits .xor .u8 x (2 ^ r % 256) = ((x.toNat ^^^ 2 ^ r : Nat) : Int) := by
  obtain ⟨n, rfl⟩ := Int.eq_ofNat_of_zero_le h0
  have hp : 2 ^ r < 256 := Nat.pow_lt_pow_right (a := 2) (n := 8) (by decide) hr
  have e : ((2 : Int) ^ r % 256) = ((2 ^ r : Nat) : Int) := by
    have : ((2 : Int) ^ r) = ((2 ^ r : Nat) : Int) := by simp
    rw [this]; generalize 2 ^ r = q at hp ⊢; omega
  rw [e, Int.toNat_natCast]
  exact u8_xor_nat n (2 ^ r) (by omega) hp

theorem xor_bit_bd (x : Int) (r : Nat) (h0 : 0 ≤ x) (h1 : x ≤ 255) (hr : r < 8) : (0 : Int) ≤ ((x.toNat ^^^ 2 ^ r : Nat) : Int) ∧ ((x.toNat ^^^ 2 ^ r : Nat) : Int) ≤ 255 := by
  have hp : 2 ^ r < 256 := Nat.pow_lt_pow_right (a := 2) (n := 8) (by decide) hr
  have := Nat.xor_lt_two_pow (x := x.toNat) (y := 2 ^ r) (n := 8) (by omega) hp
  omega

theorem bytes_set {cs : List Int} (h : ∀ z ∈ cs, 0 ≤ z ∧ z ≤ 255) (j : Nat) {y : Int} (hy : 0 ≤ y ∧ y ≤ 255) : ∀ z ∈ cs.set j y, 0 ≤ z ∧ z ≤ 255 := by
  intro z hz
  rcases List.mem_or_eq_of_mem_set hz with h' | h'
  · exact h z h'
  · rw [h']; exact hy

set_option maxHeartbeats 1000000 in
theorem turned_in (a : Option Addr) (len cap : Nat) (zs : List Int) (f t : Nat) (w : World) (hl : zs.length = len) (hlen : len ≤ 140737488351232) (h : Row w a zs) (hf : f < 8 * len) (ht : t ≤ 4294967295) :
    Calls Try.prog 7 #[.slice a len cap, .int .i64 f, .int .u32 t] w fun e w' => e = .returned (.bool true) ∧ Below w.heap.size w w' := by
  have HL := hide hl
  have HR := hide h
  clear hl h
  go_enter Try.func7, Try.ntmps7
  go_wp2_with fail
  refine (alive_any w).mono ?_
  rintro e w1 ⟨rfl, hb1⟩
  have hf0 : decide ((f : Int) < 0) = false := by simp
  have hf1 : decide ((8 : Int) * len ≤ f) = false := by simp; omega
  go_wp2_with fail
  refine (copy_any a len cap zs _ HL.out (by omega) (HR.out.below hb1 (Nat.le_refl _))).mono ?_
  rintro e w2 ⟨v, rfl, hown, hb2⟩
  obtain ⟨a2, cap2, hv⟩ := own_shape hown
  subst hv
  obtain ⟨g, ha2, hg1, hg2, hnews⟩ := own_news hown (by omega)
  subst ha2
  clear hnews
  have hg0 : w.heap.size ≤ g := Nat.le_trans hb1.size hg1
  go_wp2_with fail
  go_loopw [8, 9] (fun b i wr => ∃ (k : Nat) (cs : List Int) (sm : Bool), k ≤ 32 ∧ f + k ≤ 8 * len ∧ i = .int .i64 k ∧ b = .bool sm ∧ Hid (sm = decide (t % 2 ^ k ≠ 0)) ∧ wr.ownsRow w1.heap.size 5 1 (.slice (some ⟨g, 0, none⟩) len cap2) len (cs.map (Value.int .u8)) ∧ Below w.heap.size w wr ∧ Hid (∀ z ∈ cs, 0 ≤ z ∧ z ≤ 255) ∧ Hid (val cs = val zs ^^^ t % 2 ^ k * 2 ^ f))
    (fun _ i _ => 32 - (intOf i).toNat)
  case atStart => exact ⟨0, zs, false, by omega, by omega, rfl, rfl, by simp [Hid, Nat.mod_one], hown, hb1.trans (hb2.mono hb1.size), mem_of_getD HR.out.byte, by simp [Hid, Nat.mod_one]⟩
  case round =>
    clear hown hb2
    obtain ⟨k, cs, sm, hk, hfk, rfl, rfl, HS, hown, hbel, HB, HV⟩ := hrel
    have HCL : Hid (cs.length = len) := by have := hown.1; unfold Hid; simpa using this
    by_cases hin : k < 32 ∧ f + k < 8 * len
    · obtain ⟨hk2, hfk2⟩ := hin
      by_cases hbit : t / 2 ^ k % 2 = 1
      · have hj : (f + k) / 8 < len := by omega
        obtain ⟨x, hx⟩ : ∃ x, x = cs.getD ((f + k) / 8) 0 := ⟨_, rfl⟩
        have hcx : wr.cell? ⟨g, (f + k) / 8, none⟩ = some (.int .u8 x) := by
          rw [hown.cellAt _ (by omega), hx]
          have : (f + k) / 8 < cs.length := by rw [HCL.out]; exact hj
          simp [List.getD, this]
        have hfr : wr.frozen? ⟨g, (f + k) / 8, none⟩ = false := hown.frozenAt _
        have hxb : 0 ≤ x ∧ x ≤ 255 := by
          rw [hx]
          have := bytes_getD HB.out ((f + k) / 8)
          simpa using this
        obtain ⟨hx0, hx1⟩ := hxb
        have htest : (bits .and .u32 ((t : Int) / 2 ^ k) 1 == 1) = true := turn_test t k ht hbit
        have HX := hide hx
        have HBT := hide hbit
        clear hx hbit
        go_wp2_with fail
        go_region
        all_goals
          have hst := (hown.stored ((f + k) / 8) (.int .u8 (bits .xor .u8 x (2 ^ ((f + k) % 8) % 256)))).1.drew
          have HXV := hide (xor_bit x ((f + k) % 8) hx0 hx1 (by omega))
          have hbel2 : Below w.heap.size w (wr.setCell ⟨g, (f + k) / 8, none⟩ (.int .u8 (bits .xor .u8 x (2 ^ ((f + k) % 8) % 256)))).drew := (hbel.setCell (p := ⟨g, (f + k) / 8, none⟩) hg0 _).drew
          have HN := hide (turn_step HV.out (by rw [HCL.out]; exact hj) HBT.out)
          rw [← HX.out, ← HXV.out] at HN
          have HB2 := hide (bytes_set HB.out ((f + k) / 8) (show 0 ≤ bits .xor .u8 x (2 ^ ((f + k) % 8) % 256) ∧ bits .xor .u8 x (2 ^ ((f + k) % 8) % 256) ≤ 255 by rw [HXV.out]; exact xor_bit_bd x ((f + k) % 8) hx0 hx1 (by omega)))
          have HM := hide (turn_some HBT.out)
          generalize bits .xor .u8 x (2 ^ ((f + k) % 8) % 256) = y at *
          rw [← List.map_set] at hst
          generalize (wr.setCell ⟨g, (f + k) / 8, none⟩ (.int .u8 y)).drew = wn at *
          clear hown hbel HXV htest
          go_wp2_with fail
          go_roundw
          case rel => exact ⟨k + 1, cs.set ((f + k) / 8) y, true, by omega, by omega, by go_num, rfl, by unfold Hid; simp [HM.out], hst, hbel2, HB2, HN⟩
          case measure => simp [intOf]; omega
      · have htest : (bits .and .u32 ((t : Int) / 2 ^ k) 1 == 1) = false := turn_untest t k ht hbit
        have HN := hide (turn_keep HV.out hbit)
        have HM := hide (turn_same hbit)
        clear hbit HV
        go_wp2_with fail
        go_roundw
        case rel => exact ⟨k + 1, cs, sm, by omega, by omega, by go_num, rfl, by unfold Hid; rw [HM.out]; exact HS.out, hown, hbel, HB, HN⟩
        case measure => simp [intOf]; omega
    · have HT := hide (crc_turned cs zs (t % 2 ^ k) f (by rw [HCL.out, HL.out]) HV.out (by rw [HL.out]; omega) (Nat.lt_of_le_of_lt (Nat.mod_le _ _) (by omega)))
      have hr2 := (own_row' hown (bytes_getD HB.out)).2.2.2.2
      have HR2 := hide hr2
      clear hr2 hown
      rcases (show (32 ≤ k) ∨ (k < 32 ∧ 8 * len ≤ f + k) by omega) with hk3 | ⟨hk3, hfk3⟩
      all_goals
        go_wp2_with fail
        refine (sum_any (some ⟨g, 0, none⟩) len cap2 cs _ HCL.out (by omega) HR2.out).mono ?_
        rintro e w5 ⟨rfl, hb5⟩
        have hb6 : Below w.heap.size w w5 := hbel.trans (hb5.mono hbel.size)
        go_wp2_with fail
        refine (sum_any a len cap zs _ HL.out (by omega) (HR.out.below hb6 (Nat.le_refl _))).mono ?_
        rintro e w7 ⟨rfl, hb7⟩
        have hb8 : Below w.heap.size w w7 := hb6.trans (hb7.mono hb6.size)
        clear hb7 hb6 hb5
        have HF : Hid (((crc cs != crc zs) == sm) = true) := by
          unfold Hid
          rw [HS.out]
          by_cases h0 : t % 2 ^ k = 0
          · simp [h0, HT.out.2 h0]
          · have : crc cs ≠ crc zs := fun h => h0 (HT.out.1 h)
            simp [h0, this]
        generalize crc cs = c1 at *
        generalize crc zs = c2 at *
        have hf2 := HF.out
        go_wp2_with fail
        go_ret
        exact ⟨rfl, hb8⟩

theorem turned_out (a : Option Addr) (len cap : Nat) (f t : Int) (w : World) (hlen : len ≤ 140737488351232) (hf : f < 0 ∨ 8 * (len : Int) ≤ f) :
    Calls Try.prog 7 #[.slice a len cap, .int .i64 f, .int .u32 t] w fun e w' => e = .returned (.bool true) ∧ Below w.heap.size w w' := by
  rcases hf with hf | hf
  · have hf0 : decide (f < 0) = true := by simp; omega
    go_enter Try.func7, Try.ntmps7
    go_wp2_with fail
    refine (alive_any w).mono ?_
    rintro e w1 ⟨rfl, hb1⟩
    go_wp2_with fail
    go_ret
    exact ⟨rfl, hb1⟩
  · have hf0 : decide (f < 0) = false := by simp; omega
    go_enter Try.func7, Try.ntmps7
    go_wp2_with fail
    refine (alive_any w).mono ?_
    rintro e w1 ⟨rfl, hb1⟩
    go_wp2_with fail
    go_ret
    exact ⟨rfl, hb1⟩

theorem turned_walk (a : Option Addr) (len cap : Nat) (zs : List Int) (f t : Int) (w : World) (hl : zs.length = len) (hlen : len ≤ 140737488351232) (h : Row w a zs) (ht0 : 0 ≤ t) (ht : t ≤ 4294967295) :
    Calls Try.prog 7 #[.slice a len cap, .int .i64 f, .int .u32 t] w fun e w' => e = .returned (.bool true) ∧ Below w.heap.size w w' := by
  by_cases hf : f < 0 ∨ 8 * (len : Int) ≤ f
  · exact turned_out a len cap f t w hlen hf
  · obtain ⟨f', rfl⟩ := Int.eq_ofNat_of_zero_le (show 0 ≤ f by omega)
    obtain ⟨t', rfl⟩ := Int.eq_ofNat_of_zero_le ht0
    exact turned_in a len cap zs f' t' w hl hlen h (by omega) (by omega)

end Go.Proofs.Ytkiigmfdfkflpaa
