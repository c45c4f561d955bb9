/- WireTurned, walked: true of any steps, place and bits; nothing that was there is turned. -/
import Derived.Test.YtagpdceaononkaaWAlv
import Derived.Test.YtagpdceaononkaaWTrnP
import Derived.BigRegion
namespace Go.Proofs.Ytagpdceaononkaa
open Go.RowKit

theorem shifted_bit (t k : Nat) (ht : t ≤ 4294967295) : bits .and .u32 ((t : Int) / 2 ^ k) 1 = ((t / 2 ^ k % 2 : Nat) : Int) := by
  have e : ((t : Int) / 2 ^ k) = ((t / 2 ^ k : Nat) : Int) := by simp
  have hlt : t / 2 ^ k < 4294967296 := Nat.lt_of_le_of_lt (Nat.div_le_self _ _) (by omega)
  rw [e]
  exact and_one _ hlt
theorem turn_test (t k : Nat) (ht : t ≤ 4294967295) (h : t / 2 ^ k % 2 = 1) : (bits .and .u32 ((t : Int) / 2 ^ k) 1 == 1) = true := by
  rw [shifted_bit t k ht, h]; rfl
theorem turn_untest (t k : Nat) (ht : t ≤ 4294967295) (h : ¬ t / 2 ^ k % 2 = 1) : (bits .and .u32 ((t : Int) / 2 ^ k) 1 == 1) = false := by
  rw [shifted_bit t k ht, show t / 2 ^ k % 2 = 0 by omega]; rfl
theorem xor_bit (x : Int) (r : Nat) (h0 : 0 ≤ x) (h1 : x ≤ 255) (hr : r < 8) : bits .xor .u8 x (2 ^ r % 256) = ((x.toNat ^^^ 2 ^ r : Nat) : Int) := by
  obtain ⟨n, rfl⟩ := Int.eq_ofNat_of_zero_le h0
  have hp : 2 ^ r < 256 := Nat.pow_lt_pow_right (a := 2) (n := 8) (by decide) hr
  have e : ((2 : Int) ^ r % 256) = ((2 ^ r : Nat) : Int) := by
    have : ((2 : Int) ^ r) = ((2 ^ r : Nat) : Int) := by simp
    rw [this]; generalize 2 ^ r = q at hp ⊢; omega
  rw [e, Int.toNat_natCast]
  exact u8_xor_nat n (2 ^ r) (by omega) hp
theorem xor_bit_bd (x : Int) (r : Nat) (h0 : 0 ≤ x) (h1 : x ≤ 255) (hr : r < 8) : (0 : Int) ≤ ((x.toNat ^^^ 2 ^ r : Nat) : Int) ∧ ((x.toNat ^^^ 2 ^ r : Nat) : Int) ≤ 255 := by
  have hp : 2 ^ r < 256 := Nat.pow_lt_pow_right (a := 2) (n := 8) (by decide) hr
  have := Nat.xor_lt_two_pow (x := x.toNat) (y := 2 ^ r) (n := 8) (by omega) hp
  omega
theorem bytes_set {cs : List Int} (h : ∀ z ∈ cs, 0 ≤ z ∧ z ≤ 255) (j : Nat) {y : Int} (hy : 0 ≤ y ∧ y ≤ 255) : ∀ z ∈ cs.set j y, 0 ≤ z ∧ z ≤ 255 := by
  intro z hz
  rcases List.mem_or_eq_of_mem_set hz with h' | h'
  · exact h z h'
  · rw [h']; exact hy
theorem enc_len {l : List StM} (o : Okl l) : (encB l).length ≤ 9000000004 := by
  have := body_len o
  unfold encB
  rw [List.length_append]
  have : (fourB (crc (bodyB l))).length = 4 := rfl
  omega
set_option maxRecDepth 100000 in
set_option maxHeartbeats 12800000 in
theorem wireTurned_any {w : World} {l : List StM} {la : Option Addr} {lc : Nat} (hl : l.length ≤ 140737488351232) (h : Sts w.heap.size w l la) {f t : Int} (ht0 : 0 ≤ t) (ht1 : t ≤ 4294967295) :
    Calls Try.prog 6 #[.slice la l.length lc, .int .i64 f, .int .u32 t] w fun e w' => e = .returned (.bool true) ∧ Below w.heap.size w w' := by
  have CA := hide (alive_any w)
  have HH := hide h
  clear h
  go_enter Try.func6, Try.ntmps6
  go_wp2_with fail
  refine CA.out.mono ?_
  rintro _ w1 ⟨rfl, hb1⟩
  have HB1 := hide hb1
  have CE := hide (encode_any (lc := lc) hb1.size hl (HH.out.keep hb1.block))
  clear hb1 CA
  by_cases hchk : (chkM l).1 = 0
  · have o := chk_okl hchk
    have HO := hide o
    have HE : Hid (encL l = encB l) := hide (if_pos hchk)
    have HBY := hide (enc_byte o)
    have HLN := hide (enc_len o)
    have HBT := hide (back_told o)
    obtain ⟨zs, hzs⟩ : ∃ zs, encB l = zs := ⟨_, rfl⟩
    have HZS := hide hzs
    obtain ⟨len, hlen⟩ : ∃ len, zs.length = len := ⟨_, rfl⟩
    have HLE := hide hlen
    unfold Encd at CE
    rw [HE.out, hchk, hzs, hlen] at CE
    rw [hzs] at HBY HLN HBT
    rw [hlen] at HLN
    have CN := hide (fun e w => lnum_any e w)
    clear o HE hzs hlen hchk
    go_upto_region 4 with (first | (go_at_call 11; refine CE.out.mono ?_; rintro _ w2 ⟨a1, c1, rfl, ho1, hb2⟩; have HO1 := hide ho1; have HB2 := hide hb2; clear ho1 hb2))
    have hl9 := HLN.out
    by_cases hf : f < 0 ∨ 8 * (len : Int) ≤ f
    · rcases hf with hf | hf
      · have hf0 : decide (f < 0) = true := by simp; omega
        go_wp2_with (go_at_call 13; refine (CN.out _ _).mono ?_; rintro _ w9 ⟨rfl, hw⟩; subst w9)
        go_ret
        exact ⟨rfl, HB1.out.trans (HB2.out.mono HB1.out.size)⟩
      · have hf0 : decide (f < 0) = false := by simp; omega
        go_wp2_with (go_at_call 13; refine (CN.out _ _).mono ?_; rintro _ w9 ⟨rfl, hw⟩; subst w9)
        go_ret
        exact ⟨rfl, HB1.out.trans (HB2.out.mono HB1.out.size)⟩
    obtain ⟨f, rfl⟩ := Int.eq_ofNat_of_zero_le (show 0 ≤ f by omega)
    obtain ⟨t, rfl⟩ := Int.eq_ofNat_of_zero_le ht0
    have hf1 : f < 8 * len := by omega
    have hfa : decide ((f : Int) < 0) = false := by simp
    have hfb : decide ((8 : Int) * len ≤ f) = false := by simp; omega
    have ht : t ≤ 4294967295 := by omega
    obtain ⟨g, rfl, hg1, hg2, -⟩ := own_news HO1.out (by omega)
    have hg0 : w.heap.size ≤ g := Nat.le_trans HB1.out.size hg1
    have HBW := hide (HB1.out.trans (HB2.out.mono HB1.out.size))
    have HOW := hide (owns_down HO1.out (Nat.zero_le _))
    clear hf ht0 ht1 CE HO1 HB2
    go_upto_region 8 with (go_at_call 13; refine (CN.out _ _).mono ?_; rintro _ w9 ⟨rfl, hw⟩; subst w9)
    go_loopw [9, 10] (fun b i wr => ∃ (k : Nat) (cs : List Int) (sm : Bool), k ≤ 32 ∧ f + k ≤ 8 * len ∧ i = .int .i64 k ∧ b = .bool sm ∧ Hid (sm = decide (t % 2 ^ k ≠ 0)) ∧ wr.ownsRow 0 5 1 (.slice (some ⟨g, 0, none⟩) len c1) len (byts cs) ∧ Below w.heap.size w wr ∧ Hid (∀ z ∈ cs, 0 ≤ z ∧ z ≤ 255) ∧ Hid (val cs = val zs ^^^ t % 2 ^ k * 2 ^ f))
      (fun _ i _ => 32 - (intOf i).toNat)
    case atStart => exact ⟨0, zs, false, by omega, by omega, rfl, rfl, by simp [Hid, Nat.mod_one], HOW.out, HBW.out, HBY.out, by simp [Hid, Nat.mod_one]⟩
    case round =>
      clear HOW HBW
      obtain ⟨k, cs, sm, hk, hfk, rfl, rfl, HS, hown, hbel, HB, HV⟩ := hrel
      have HCL : Hid (cs.length = len) := by have := hown.1; unfold Hid; rw [byts_len] at this; omega
      by_cases hin : k < 32 ∧ f + k < 8 * len
      · obtain ⟨hk2, hfk2⟩ := hin
        by_cases hbit : t / 2 ^ k % 2 = 1
        · have hj : (f + k) / 8 < len := by omega
          obtain ⟨x, hx⟩ : ∃ x, x = cs.getD ((f + k) / 8) 0 := ⟨_, rfl⟩
          have hcx : wr.cell? ⟨g, (f + k) / 8, none⟩ = some (.int .u8 x) := by
            rw [hown.cellAt _ (by omega), hx]
            have : (f + k) / 8 < cs.length := by rw [HCL.out]; exact hj
            simp [byts, List.getD, this]
          have hfr : wr.frozen? ⟨g, (f + k) / 8, none⟩ = false := hown.frozenAt _
          have hxb : 0 ≤ x ∧ x ≤ 255 := by
            rw [hx]
            have := bytes_getD HB.out ((f + k) / 8)
            simpa using this
          obtain ⟨hx0, hx1⟩ := hxb
          have htest : (bits .and .u32 ((t : Int) / 2 ^ k) 1 == 1) = true := turn_test t k ht hbit
          have HX := hide hx
          have HBI := hide hbit
          clear hx hbit
          go_wp2_with fail
          go_region
          all_goals
            have hst := (hown.stored ((f + k) / 8) (.int .u8 (bits .xor .u8 x (2 ^ ((f + k) % 8) % 256)))).1.drew
            have HXV := hide (xor_bit x ((f + k) % 8) hx0 hx1 (by omega))
            have hbel2 : Below w.heap.size w (wr.setCell ⟨g, (f + k) / 8, none⟩ (.int .u8 (bits .xor .u8 x (2 ^ ((f + k) % 8) % 256)))).drew := (hbel.setCell (p := ⟨g, (f + k) / 8, none⟩) hg0 _).drew
            have HN := hide (turn_step HV.out (by rw [HCL.out]; exact hj) HBI.out)
            rw [← HX.out, ← HXV.out] at HN
            have HB2 := hide (bytes_set HB.out ((f + k) / 8) (show 0 ≤ bits .xor .u8 x (2 ^ ((f + k) % 8) % 256) ∧ bits .xor .u8 x (2 ^ ((f + k) % 8) % 256) ≤ 255 by rw [HXV.out]; exact xor_bit_bd x ((f + k) % 8) hx0 hx1 (by omega)))
            have HM := hide (turn_some HBI.out)
            generalize bits .xor .u8 x (2 ^ ((f + k) % 8) % 256) = y at *
            unfold byts at hst
            rw [← List.map_set] at hst
            generalize (wr.setCell ⟨g, (f + k) / 8, none⟩ (.int .u8 y)).drew = wn at *
            clear hown hbel HXV htest
            go_wp2_with fail
            go_roundw
            case rel => exact ⟨k + 1, cs.set ((f + k) / 8) y, true, by omega, by omega, by go_num, rfl, by unfold Hid; simp [HM.out], hst, hbel2, HB2, HN⟩
            case measure => simp [intOf]; omega
        · have htest : (bits .and .u32 ((t : Int) / 2 ^ k) 1 == 1) = false := turn_untest t k ht hbit
          have HN := hide (turn_keep HV.out hbit)
          have HM := hide (turn_same hbit)
          clear hbit HV
          go_wp2_with fail
          go_roundw
          case rel => exact ⟨k + 1, cs, sm, by omega, by omega, by go_num, rfl, by unfold Hid; rw [HM.out]; exact HS.out, hown, hbel, HB, HN⟩
          case measure => simp [intOf]; omega
      · have hT : t % 2 ^ k < 4294967296 := Nat.lt_of_le_of_lt (Nat.mod_le _ _) (by omega)
        obtain ⟨r1, r2, r3⟩ := row_of_owns (a := some ⟨g, 0, none⟩) (c := c1) (zs := cs) (B := 0) (w := wr) (by rw [HCL.out]; exact hown) HB.out
        have CD := hide (decode_any r1 r2 r3 (by rw [HCL.out]; omega))
        rw [HCL.out] at CD
        have HBE := hide hbel
        clear r1 r2 r3 hown hbel
        rcases (show (32 ≤ k) ∨ (k < 32 ∧ 8 * len ≤ f + k) by omega) with hk3 | ⟨hk3, hfk3⟩
        all_goals
          by_cases h0 : t % 2 ^ k = 0
          · have hsm : sm = false := by rw [HS.out, h0]; rfl
            subst hsm
            have hcs : cs = zs := val_inj cs zs HB.out HBY.out (by rw [HCL.out, HLE.out]) (by rw [HV.out, h0]; simp)
            subst hcs
            go_upto_region 15 with (go_at_call 18; refine CD.out.mono ?_; rintro _ w4 ⟨hd, hb4⟩; obtain ⟨a4, c4, rfl, hg4⟩ := Decd.is HBT.out hd; have HG4 := hide hg4; have HB4 := hide (HBE.out.trans (hb4.mono HBE.out.size)); clear hd hg4 hb4)
            have CS := hide (sameSteps_yes (c := c4) (d := lc) (HG4.out.chl HO.out) (HH.out.keep HB4.out.block) (Nat.le_refl _) HB4.out.size hl)
            go_wp2_with (first | (go_at_call 13; refine (CN.out _ _).mono ?_; rintro _ w9 ⟨rfl, hw⟩; subst w9) | (go_at_call 15; refine CS.out.mono ?_; rintro _ w8 ⟨rfl, hb8⟩; have HB8 := hide (HB4.out.trans (hb8.mono HB4.out.size)); clear hb8))
            go_ret
            exact ⟨rfl, HB8.out⟩
          · have hsm : sm = true := by rw [HS.out]; simp [h0]
            subst hsm
            obtain ⟨c, p, hw, hc⟩ := turned_no HO.out HB.out (T := t % 2 ^ k) (f := f) (by rw [HCL.out, HZS.out, HLE.out]) (by rw [HZS.out]; exact HV.out) (by rw [HZS.out, HLE.out]; omega) hT h0
            have hcb : (c != 0) = true := by simpa using hc
            have HW := hide hw
            clear hw hc
            go_wp2_with (first | (go_at_call 18; refine CD.out.mono ?_; rintro _ w4 ⟨hd, hb4⟩; have he := Decd.err HW.out hd; subst he; have HB4 := hide (HBE.out.trans (hb4.mono HBE.out.size)); clear hd hb4) | (go_at_call 13; refine (CN.out _ _).mono ?_; rintro _ w9 ⟨rfl, hw⟩; subst w9))
            go_ret
            exact ⟨rfl, HB4.out⟩
  · have hab2 : ((chkM l).1 != 0) = true := by simpa using hchk
    have CN := hide (fun e w => lnum_any e w)
    unfold Encd at CE
    generalize (chkM l).1 = e0 at *
    go_wp2_with (first | (go_at_call 11; refine CE.out.mono ?_; rintro _ w2 ⟨a1, c1, rfl, -, hb2⟩; have HB2 := hide (HB1.out.trans (hb2.mono HB1.out.size)); clear hb2) | (go_at_call 13; refine (CN.out _ _).mono ?_; rintro _ w9 ⟨rfl, hw⟩; subst w9))
    go_ret
    exact ⟨rfl, HB2.out⟩
end Go.Proofs.Ytagpdceaononkaa
