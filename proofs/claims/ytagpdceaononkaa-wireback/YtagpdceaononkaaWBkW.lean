/- WireBack, walked: true of any steps and bytes; nothing that was there is turned. -/
import Derived.Test.YtagpdceaononkaaWAlv
namespace Go.Proofs.Ytagpdceaononkaa
open Go.RowKit

theorem mem_of_getD {zs : List Int} (h : ∀ i : Nat, 0 ≤ zs[i]?.getD 0 ∧ zs[i]?.getD 0 ≤ 255) : ∀ z ∈ zs, 0 ≤ z ∧ z ≤ 255 := by
  intro z hz
  obtain ⟨i, hi, rfl⟩ := List.mem_iff_getElem.1 hz
  simpa [hi] using h i
theorem enc_le {l : List StM} (o : Okl l) : (encB l).length ≤ 9000000004 := by
  have := body_len o
  unfold encB
  rw [List.length_append]
  have : (fourB (crc (bodyB l))).length = 4 := rfl
  omega
set_option maxRecDepth 100000 in
set_option maxHeartbeats 12800000 in
theorem wireBack_any {w : World} {l : List StM} {la : Option Addr} {lc : Nat} (hl : l.length ≤ 140737488351232) (h : Sts w.heap.size w l la) {zb : List Int} {ba : Option Addr} {bc : Nat} (hrow : Row w ba zb) (hcap : zb.length ≤ bc) (hnil : ba = none → bc = 0) (hlb : zb.length ≤ 140737488351232) :
    Calls Try.prog 5 #[.slice la l.length lc, .slice ba zb.length bc] w fun e w' => e = .returned (.bool true) ∧ Below w.heap.size w w' := by
  have CA := hide (alive_any w)
  have HH := hide h
  have HRB := hide hrow
  have HBY := hide (mem_of_getD hrow.byte)
  have CN := hide (fun e w => lnum_any e w)
  clear h hrow
  go_enter Try.func5, Try.ntmps5
  go_wp2_with fail
  refine CA.out.mono ?_
  rintro _ w1 ⟨rfl, hb1⟩
  have HB1 := hide hb1
  have CE := hide (encode_any (lc := lc) hb1.size hl (HH.out.keep hb1.block))
  clear hb1 CA
  by_cases hchk : (chkM l).1 = 0
  · have o := chk_okl hchk
    have HO := hide o
    have HE : Hid (encL l = encB l) := hide (if_pos hchk)
    have HEB := hide (enc_byte o)
    have HLN := hide (enc_le o)
    have HBT := hide (back_told o)
    obtain ⟨zs, hzs⟩ : ∃ zs, encB l = zs := ⟨_, rfl⟩
    unfold Encd at CE
    rw [HE.out, hchk, hzs] at CE
    rw [hzs] at HEB HLN HBT
    clear o HE hzs hchk
    go_upto_region 5 with (first | (go_at_call 11; refine CE.out.mono ?_; rintro _ w2 ⟨a1, c1, rfl, ho1, hb2⟩; have HO1 := hide ho1; have HB2 := hide (HB1.out.trans (hb2.mono HB1.out.size)); clear ho1 hb2) | (go_at_call 13; refine (CN.out _ _).mono ?_; rintro _ w9 ⟨rfl, hw⟩; subst w9))
    have hl9 := HLN.out
    obtain ⟨r1, r2, r3⟩ := row_of_owns HO1.out HEB.out
    have CX := hide (decode_any r1 r2 r3 (by omega))
    clear r1 r2 r3 CE
    go_upto_region 6 with (go_at_call 18; refine CX.out.mono ?_; rintro _ w3 ⟨hd, hb3⟩; obtain ⟨a3, c3, rfl, hg3⟩ := Decd.is HBT.out hd; have HG3 := hide hg3; have HB3 := hide (HB2.out.trans (hb3.mono HB2.out.size)); clear hd hg3 hb3)
    have CS := hide (sameSteps_yes (c := c3) (d := lc) (HG3.out.chl HO.out) (HH.out.keep HB3.out.block) (Nat.le_refl _) HB3.out.size hl)
    go_upto_region 8 with (first | (go_at_call 13; refine (CN.out _ _).mono ?_; rintro _ w9 ⟨rfl, hw⟩; subst w9) | (go_at_call 15; refine CS.out.mono ?_; rintro _ w8 ⟨rfl, hb8⟩; have HBq := hide (HB3.out.trans (hb8.mono HB3.out.size)); clear hb8))
    clear CS CX HO1 HG3 HB3 HB2 HB1 HBT HEB
    have CD := hide (decode_any (HRB.out.below HBq.out (Nat.le_refl _)) hcap hnil hlb)
    cases hwb : wholeM zb with
    | error e =>
      obtain ⟨c, p⟩ := e
      have hcb : (c != 0) = true := by simpa using whole_err hwb
      have HW := hide hwb
      clear hwb
      go_wp2_with (first | (go_at_call 18; refine CD.out.mono ?_; rintro _ w4 ⟨hd, hb4⟩; have he := Decd.err HW.out hd; subst he; have HB4 := hide (HBq.out.trans (hb4.mono HBq.out.size)); clear hd hb4) | (go_at_call 13; refine (CN.out _ _).mono ?_; rintro _ w9 ⟨rfl, hw⟩; subst w9))
      go_ret
      exact ⟨rfl, HB4.out⟩
    | ok m =>
      obtain ⟨om, em⟩ := (whole_iff HBY.out).1 hwb
      have HW := hide hwb
      have HOM := hide om
      have HEM := hide em
      have hm6 := om.len
      clear hwb om em
      go_upto_region 11 with (first | (go_at_call 18; refine CD.out.mono ?_; rintro _ w4 ⟨hd, hb4⟩; obtain ⟨a4, c4, rfl, hg4⟩ := Decd.is HW.out hd; have HG4 := hide hg4; have HB4 := hide (HBq.out.trans (hb4.mono HBq.out.size)); clear hd hg4 hb4) | (go_at_call 13; refine (CN.out _ _).mono ?_; rintro _ w9 ⟨rfl, hw⟩; subst w9))
      have CE2 := hide (encode_any (lc := c4) (Nat.le_refl _) (by omega) (HG4.out.chl HOM.out))
      have hc0 : (chkM m).1 = 0 := by rw [okl_chk HOM.out]
      have hel : encL m = zb := by unfold encL; rw [if_pos hc0]; exact HEM.out.symm
      unfold Encd at CE2
      rw [hc0, hel] at CE2
      clear CD HEM hc0 hel
      go_upto_region 12 with (go_at_call 11; refine CE2.out.mono ?_; rintro _ w5 ⟨a5, c5, rfl, ho5, hb5⟩; have HO5 := hide ho5; have HB5 := hide (HB4.out.trans (hb5.mono HB4.out.size)); clear ho5 hb5)
      have CS2 : Hid (Calls Try.prog 14 #[.slice a5 zb.length c5, .slice ba zb.length bc] w5 fun e w' => e = .returned (.bool true) ∧ Below w5.heap.size w5 w') := hide (by
        have := same_any a5 ba zb.length c5 zb.length bc zb zb w5 rfl rfl (by omega) (row_of_owns HO5.out HBY.out).1 (HRB.out.below HB5.out (Nat.le_refl _))
        rwa [decide_eq_true rfl] at this)
      go_wp2_with (first | (go_at_call 13; refine (CN.out _ _).mono ?_; rintro _ w9 ⟨rfl, hw⟩; subst w9) | (go_at_call 14; refine CS2.out.mono ?_; rintro _ w8 ⟨rfl, hb8⟩; have HB8 := hide (HB5.out.trans (hb8.mono HB5.out.size)); clear hb8))
      go_ret
      exact ⟨rfl, HB8.out⟩
  · have hab2 : ((chkM l).1 == 0) = false := by simpa using hchk
    unfold Encd at CE
    generalize (chkM l).1 = e0 at *
    go_upto_region 8 with (first | (go_at_call 11; refine CE.out.mono ?_; rintro _ w2 ⟨a1, c1, rfl, -, hb2⟩; have HBq := hide (HB1.out.trans (hb2.mono HB1.out.size)); clear hb2) | (go_at_call 13; refine (CN.out _ _).mono ?_; rintro _ w9 ⟨rfl, hw⟩; subst w9))
    clear CE HB1 hab2 hchk
    have CD := hide (decode_any (HRB.out.below HBq.out (Nat.le_refl _)) hcap hnil hlb)
    cases hwb : wholeM zb with
    | error e =>
      obtain ⟨c, p⟩ := e
      have hcb : (c != 0) = true := by simpa using whole_err hwb
      have HW := hide hwb
      clear hwb
      go_wp2_with (first | (go_at_call 18; refine CD.out.mono ?_; rintro _ w4 ⟨hd, hb4⟩; have he := Decd.err HW.out hd; subst he; have HB4 := hide (HBq.out.trans (hb4.mono HBq.out.size)); clear hd hb4) | (go_at_call 13; refine (CN.out _ _).mono ?_; rintro _ w9 ⟨rfl, hw⟩; subst w9))
      go_ret
      exact ⟨rfl, HB4.out⟩
    | ok m =>
      obtain ⟨om, em⟩ := (whole_iff HBY.out).1 hwb
      have HW := hide hwb
      have HOM := hide om
      have HEM := hide em
      have hm6 := om.len
      clear hwb om em
      go_upto_region 11 with (first | (go_at_call 18; refine CD.out.mono ?_; rintro _ w4 ⟨hd, hb4⟩; obtain ⟨a4, c4, rfl, hg4⟩ := Decd.is HW.out hd; have HG4 := hide hg4; have HB4 := hide (HBq.out.trans (hb4.mono HBq.out.size)); clear hd hg4 hb4) | (go_at_call 13; refine (CN.out _ _).mono ?_; rintro _ w9 ⟨rfl, hw⟩; subst w9))
      have CE2 := hide (encode_any (lc := c4) (Nat.le_refl _) (by omega) (HG4.out.chl HOM.out))
      have hc0 : (chkM m).1 = 0 := by rw [okl_chk HOM.out]
      have hel : encL m = zb := by unfold encL; rw [if_pos hc0]; exact HEM.out.symm
      unfold Encd at CE2
      rw [hc0, hel] at CE2
      clear CD HEM hc0 hel
      go_upto_region 12 with (go_at_call 11; refine CE2.out.mono ?_; rintro _ w5 ⟨a5, c5, rfl, ho5, hb5⟩; have HO5 := hide ho5; have HB5 := hide (HB4.out.trans (hb5.mono HB4.out.size)); clear ho5 hb5)
      have CS2 : Hid (Calls Try.prog 14 #[.slice a5 zb.length c5, .slice ba zb.length bc] w5 fun e w' => e = .returned (.bool true) ∧ Below w5.heap.size w5 w') := hide (by
        have := same_any a5 ba zb.length c5 zb.length bc zb zb w5 rfl rfl (by omega) (row_of_owns HO5.out HBY.out).1 (HRB.out.below HB5.out (Nat.le_refl _))
        rwa [decide_eq_true rfl] at this)
      go_wp2_with (first | (go_at_call 13; refine (CN.out _ _).mono ?_; rintro _ w9 ⟨rfl, hw⟩; subst w9) | (go_at_call 14; refine CS2.out.mono ?_; rintro _ w8 ⟨rfl, hb8⟩; have HB8 := hide (HB5.out.trans (hb8.mono HB5.out.size)); clear hb8))
      go_ret
      exact ⟨rfl, HB8.out⟩
end Go.Proofs.Ytagpdceaononkaa
