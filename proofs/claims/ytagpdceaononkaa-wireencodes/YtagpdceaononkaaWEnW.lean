/- WireEncodes, walked: true of any steps; nothing that was there is turned. -/
import Derived.Test.YtagpdceaononkaaRfE
import Derived.Test.YtagpdceaononkaaWAlv
import Derived.Test.YtagpdceaononkaaWCpy
namespace Go.Proofs.Ytagpdceaononkaa
open Go.RowKit

theorem encl_byte (l : List StM) : ∀ z ∈ encL l, 0 ≤ z ∧ z ≤ 255 := by
  unfold encL
  split
  · rename_i h; exact enc_byte (chk_okl h)
  · intro z hz; simp at hz
theorem encl_len (l : List StM) : (encL l).length ≤ 9000000004 := by
  unfold encL
  split
  · rename_i h
    have := body_len (chk_okl h)
    unfold encB
    rw [List.length_append]
    have : (fourB (crc (bodyB l))).length = 4 := rfl
    omega
  · simp
set_option maxRecDepth 100000 in
set_option maxHeartbeats 12800000 in
theorem wireEncodes_any {w : World} {l : List StM} {la : Option Addr} {lc : Nat} (h : Sts w.heap.size w l la) (hl : l.length ≤ 2513169434843) (hc : ∀ s ∈ l, s.ch.length ≤ 8796093021952) :
    Calls Try.prog 3 #[.slice la l.length lc] w fun e w' => e = .returned (.bool true) ∧ Below w.heap.size w w' := by
  have HH := hide h
  have HB := hide (encl_byte l)
  have hxl := encl_len l
  have CC := hide (copySteps_any (c := lc) h (Nat.le_refl _) hl hc)
  have HCH : Hid (∀ s ∈ l, s.ch.length ≤ 140737488351232) := hide fun s hs => by have := hc s hs; omega
  have CN := hide (fun e w => lnum_any e w)
  clear h hc
  go_enter Try.func3, Try.ntmps3
  go_upto_region 2 with (go_at_call 8; refine CC.out.mono ?_; rintro _ w1 ⟨oa, oc, rfl, hg, hb1⟩; have HO1 := hide (hg.sts HCH.out); have HB1 := hide hb1; clear hg hb1)
  have hs1 := HB1.out.size
  have C2 := hide (check_any (c := oc) (Nat.le_refl _) (by omega) HO1.out)
  obtain ⟨e0, p0, hch⟩ : ∃ a b, chkM l = (a, b) := ⟨_, _, rfl⟩
  rw [hch] at C2
  unfold dup at C2
  simp only at C2
  clear CC
  go_upto_region 3 with (go_at_call 9; refine C2.out.mono ?_; rintro _ w2 ⟨rfl, hb2⟩; have HO2 := hide (HO1.out.keep hb2.block); have HS2 := hide hb2.size; have HB2 := hide (HB1.out.trans (hb2.mono HB1.out.size)); clear hb2)
  have C3 := hide (rcheck_any (c := lc) HB2.out.size (by omega) (HH.out.keep HB2.out.block))
  rw [hch] at C3
  unfold dup at C3
  simp only at C3
  clear C2 HO1
  go_upto_region 4 with (go_at_call 10; refine C3.out.mono ?_; rintro _ w3 ⟨rfl, hb3⟩; have HO3 := hide ((HO2.out.up HS2.out).keep hb3.block); have HS3 := hide hb3.size; have HB3 := hide (HB2.out.trans (hb3.mono HB2.out.size)); clear hb3)
  have C4 := hide (encode_any (lc := oc) HS3.out (by omega) HO3.out)
  unfold Encd at C4
  rw [hch] at C4
  obtain ⟨xs, hxs⟩ : ∃ xs, encL l = xs := ⟨_, rfl⟩
  rw [hxs] at C4 HB hxl
  simp only at C4
  clear C3 HO2
  go_upto_region 5 with (go_at_call 11; refine C4.out.mono ?_; rintro _ w4 ⟨xa, xc, rfl, hox, hb4⟩; have HX4 := hide (owns_down hox (Nat.zero_le _)); have HO4 := hide ((HO3.out.up HS3.out).keep hb4.block); have HS4 := hide hb4.size; have HB4 := hide (HB3.out.trans (hb4.mono HB3.out.size)); clear hox hb4)
  have C5 := hide (rencode_any (lc := lc) HB4.out.size (by omega) (HH.out.keep HB4.out.block))
  unfold Encd at C5
  rw [hch, hxs] at C5
  simp only at C5
  clear C4 HO3 hch hxs
  go_upto_region 6 with (go_at_call 12; refine C5.out.mono ?_; rintro _ w5 ⟨ya, yc, rfl, hoy, hb5⟩; have HY5 := hide (owns_down hoy (Nat.zero_le _)); have HX5 := hide (owns_keep HX4.out fun g hg => hb5.block g (owns_lt HX4.out hg)); have HO5 := hide ((HO4.out.up HS4.out).keep hb5.block); have HS5 := hide hb5.size; have HB5 := hide (HB4.out.trans (hb5.mono HB4.out.size)); clear hoy hb5)
  have C6 : Hid (Calls Try.prog 14 #[.slice xa xs.length xc, .slice ya xs.length yc] w5 fun e w' => e = .returned (.bool true) ∧ Below w5.heap.size w5 w') := hide (by
    have := same_any xa ya xs.length xc xs.length yc xs xs w5 rfl rfl (by omega) (row_of_owns HX5.out HB.out).1 (row_of_owns HY5.out HB.out).1
    rwa [decide_eq_true rfl] at this)
  have hs5 := HS5.out
  have hsw := HB5.out.size
  clear C5 HX4 HO4
  go_wp2_with (first
    | (go_at_call 13; refine (CN.out _ _).mono ?_; rintro _ w9 ⟨rfl, hw⟩; subst w9)
    | (go_at_call 14; refine C6.out.mono ?_; rintro _ w6 ⟨rfl, hb6⟩; have HB6 := hide (HB5.out.trans (hb6.mono HB5.out.size)); have C7 := hide (sameSteps_yes (c := oc) (d := lc) (HO5.out.keep fun q hq => hb6.block q (by omega)) (HH.out.keep HB6.out.block) (by have := hb6.size; omega) HB6.out.size (by omega)); clear hb6)
    | (go_at_call 15; refine C7.out.mono ?_; rintro _ w7 ⟨rfl, hb7⟩; have HB7 := hide (HB6.out.trans (hb7.mono HB6.out.size)); have C8 := hide (alive_any w7); clear hb7)
    | (go_at_call 16; refine C8.out.mono ?_; rintro _ w8 ⟨rfl, hb8⟩; have HB8 := hide (HB7.out.trans (hb8.mono HB7.out.size)); clear hb8))
  go_ret
  exact ⟨rfl, HB8.out⟩
end Go.Proofs.Ytagpdceaononkaa
