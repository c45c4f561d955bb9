/- TheoryBack, walked. -/
import Derived.Test.YtanonjggegibkaaWorks
namespace Go.Proofs.Ytanonjggegibkaa
open Go.RowKit
theorem tv_no : tv noTh none 0 none 0 none 0 = .agg #[.int .i64 0, .slice none 0 0, .slice none 0 0, .slice none 0 0] := rfl
set_option maxRecDepth 100000 in
set_option maxHeartbeats 6400000 in
theorem theoryBack_any {w : World} {T : Th} {fa ra ba : Option Addr} {fc rc bc : Nat} {a : Option Addr} {c : Nat} {zs : List Int} (h : TA w.heap.size w T fa fc ra rc ba bc) (hrow : Row w a zs) (hcap : zs.length ≤ c) (hnil : a = none → c = 0) (hlen : zs.length ≤ 140737488351232) :
    Calls Try.prog 7 #[tv T fa fc ra rc ba bc, .slice a zs.length c] w fun e w' => e = .returned (.bool true) ∧ Below w.heap.size w w' := by
  have hz : ∀ z ∈ zs, 0 ≤ z ∧ z ≤ 255 := by
    intro z hm
    obtain ⟨i, hi⟩ := List.mem_iff_getElem?.1 hm
    have := hrow.byte i
    rw [hi] at this
    exact this
  have hB := below_new w (.cells #[.int .i64 T.lits, .slice fa T.foes.length fc, .slice ra T.rules.length rc, .slice ba T.beats.length bc] 25)
  have HX := hide (heap_alloc_new w (.cells #[.int .i64 T.lits, .slice fa T.foes.length fc, .slice ra T.rules.length rc, .slice ba T.beats.length bc] 25))
  have HL := hide (TR.go hB h)
  have HRr := hide (Row.below hrow hB (Nat.le_refl _))
  have HA := hide hB
  clear h hrow hB
  obtain ⟨ec, ep, hce⟩ : ∃ a b, checkM T = (a, b) := ⟨_, _, rfl⟩
  have hne : (ec != ec) = false := by simp
  go_enter Try.func7, Try.ntmps7
  go_upto_region 1 with fail
  generalize w.alloc (.cells #[.int .i64 T.lits, .slice fa T.foes.length fc, .slice ra T.rules.length rc, .slice ba T.beats.length bc] 25) = W at *
  generalize hQ : w.heap.size = Q at *
  have HRz := hide (fun X (hX : Below W.heap.size W X) => Row.below HRr.out hX (Nat.le_refl _))
  have HLz := hide (fun X (hX : Below W.heap.size W X) => TR.go hX HL.out)
  have HXz := hide (fun X (hX : Below W.heap.size W X) => (hX.block _ (loc_lt HX.out)).trans HX.out)
  clear HRr HL HX
  have CW := hide (works_any W)
  go_upto_region 3 with (go_at_call 21; refine CW.out.mono ?_; rintro _ w1 ⟨rfl, hw1⟩; have B1 := hide hw1; clear hw1)
  clear CW
  obtain ⟨-, c0, c1, c2, c3⟩ := Bt.of (HXz.out _ B1.out)
  have CC := hide (check_any (HLz.out _ B1.out))
  rw [hce] at CC
  unfold dup at CC
  simp only at CC
  go_upto_region 4 with (go_at_call 11; refine CC.out.mono ?_; rintro _ w2 ⟨rfl, hw2⟩; have B2 := hide (B1.out.trans (hw2.mono B1.out.size)); clear hw2)
  clear CC c0 c1 c2 c3 B1
  obtain ⟨-, c0, c1, c2, c3⟩ := Bt.of (HXz.out _ B2.out)
  have CE := hide (encode_any (HLz.out _ B2.out))
  unfold Encd at CE
  rw [hce] at CE
  simp only at CE
  by_cases h0 : ec = 0
  · subst h0
    have hk : (checkM T).1 = 0 := by rw [hce]
    have HK := hide hk
    rw [if_pos rfl] at CE
    clear hne hce hk
    go_upto_region 8 with (go_at_call 13; refine CE.out.mono ?_; rintro _ w3 ⟨⟨xa, xc, rfl, hx⟩, hw3⟩; have B3 := hide (B2.out.trans (hw3.mono B2.out.size)); have HO := hide (row_owns hx (enc_byte HK.out)); clear hx hw3)
    clear CE c0 c1 c2 c3 B2
    have CD := hide (decode_any HO.out.1 HO.out.2.1 HO.out.2.2 (by have := enc_len (check_ok HK.out); omega))
    unfold Decd at CD
    rw [back_told HK.out] at CD
    generalize (encM T).length = L at *
    go_upto_region 9 with (go_at_call 23; refine CD.out.mono ?_; rintro _ w4 ⟨⟨ga, gc, sa, sc, ea, ee, rfl, hz9⟩, hw4⟩; have B4 := hide (B3.out.trans (hw4.mono B3.out.size)); have T4 := hide hz9.tr; clear hz9 hw4)
    clear CD HO B3
    have B5 := hide (B4.out.trans ((below_new w4 (.cells #[.int .i64 T.lits, .slice ga T.foes.length gc, .slice sa T.rules.length sc, .slice ea T.beats.length ee] 25)).mono B4.out.size))
    have T5 := hide (TR.go (below_new w4 (.cells #[.int .i64 T.lits, .slice ga T.foes.length gc, .slice sa T.rules.length sc, .slice ea T.beats.length ee] 25)) T4.out)
    have X5 := heap_alloc_new w4 (.cells #[.int .i64 T.lits, .slice ga T.foes.length gc, .slice sa T.rules.length sc, .slice ea T.beats.length ee] 25)
    generalize w4.alloc (.cells #[.int .i64 T.lits, .slice ga T.foes.length gc, .slice sa T.rules.length sc, .slice ea T.beats.length ee] 25) = w5 at *
    generalize w4.heap.size = Q2 at *
    clear B4 T4
    obtain ⟨-, c0, c1, c2, c3⟩ := Bt.of (HXz.out _ B5.out)
    obtain ⟨-, d0, d1, d2, d3⟩ := Bt.of X5
    have CS := hide (sameTh_yes (HLz.out _ B5.out) T5.out)
    clear X5
    go_upto_region 11 with (go_at_call 19; refine CS.out.mono ?_; rintro _ w6 ⟨rfl, hw6⟩; have B6 := hide (B5.out.trans (hw6.mono B5.out.size)); clear hw6)
    clear CS c0 c1 c2 c3 d0 d1 d2 d3 B5 T5
    have CD := hide (decode_any (HRz.out _ B6.out) hcap hnil hlen)
    unfold Decd at CD
    cases hwo : wholeM zs with
    | ok U =>
      obtain ⟨hu0, hue⟩ := back_read hz hwo
      rw [hwo] at CD
      have HU := hide (⟨check_zero hu0, hue⟩ : checkM U = (0, 0) ∧ encM U = zs)
      have HU0 := hide hu0
      clear hwo hu0 hue
      go_upto_region 12 with (go_at_call 23; refine CD.out.mono ?_; rintro _ wd ⟨⟨ga, gc, sa, sc, ea, ee, rfl, hz9⟩, hwd⟩; have BD := hide (B6.out.trans (hwd.mono B6.out.size)); have TD := hide hz9.tr; clear hz9 hwd)
      clear CD
      have BN := hide (BD.out.trans ((below_new wd (.cells #[.int .i64 U.lits, .slice ga U.foes.length gc, .slice sa U.rules.length sc, .slice ea U.beats.length ee] 25)).mono BD.out.size))
      have TN := hide (TR.go (below_new wd (.cells #[.int .i64 U.lits, .slice ga U.foes.length gc, .slice sa U.rules.length sc, .slice ea U.beats.length ee] 25)) TD.out)
      have XN := hide (heap_alloc_new wd (.cells #[.int .i64 U.lits, .slice ga U.foes.length gc, .slice sa U.rules.length sc, .slice ea U.beats.length ee] 25))
      generalize wd.alloc (.cells #[.int .i64 U.lits, .slice ga U.foes.length gc, .slice sa U.rules.length sc, .slice ea U.beats.length ee] 25) = we at *
      generalize wd.heap.size = Q3 at *
      clear BD TD
      obtain ⟨-, d0, d1, d2, d3⟩ := Bt.of XN.out
      have CU := hide (check_any TN.out)
      rw [HU.out.1] at CU
      unfold dup at CU
      simp only at CU
      go_upto_region 15 with (go_at_call 11; refine CU.out.mono ?_; rintro _ wf ⟨rfl, hwf⟩; have BF := hide (BN.out.trans (hwf.mono BN.out.size)); have TF := hide (TR.go hwf TN.out); have XF := hide ((hwf.block _ (loc_lt XN.out)).trans XN.out); clear hwf)
      clear CU d0 d1 d2 d3 TN XN BN
      obtain ⟨-, d0, d1, d2, d3⟩ := Bt.of XF.out
      have CE := hide (encode_any TF.out)
      unfold Encd at CE
      rw [if_pos HU0.out, HU.out.2, HU.out.1] at CE
      simp only at CE
      go_upto_region 16 with (go_at_call 13; refine CE.out.mono ?_; rintro _ wg ⟨⟨ya, yc, rfl, hy⟩, hwg⟩; have BG := hide (BF.out.trans (hwg.mono BF.out.size)); have HY := hide (row_owns hy hz).1; clear hy hwg)
      clear CE d0 d1 d2 d3 TF XF BF
      have CS := hide (same_any a ya zs.length c zs.length yc zs zs wg rfl rfl (by omega) (HRz.out _ BG.out) HY.out)
      rw [decide_eq_true (rfl : zs = zs)] at CS
      go_wp2_with (go_at_call 16; refine CS.out.mono ?_; rintro _ wh ⟨rfl, hwh⟩; have BH := hide (BG.out.trans (hwh.mono BG.out.size)); clear hwh)
      go_ret
      refine ⟨rfl, ?_⟩; rw [hQ]; exact HA.out.trans (BH.out.mono (Nat.le_trans (Nat.le_of_eq hQ.symm) HA.out.size))
    | error cc =>
      obtain ⟨c1, c2⟩ := cc
      obtain ⟨e1, e2, e3⟩ := whole_err hwo
      rw [hwo] at CD
      simp only at CD
      rw [tv_no] at CD
      have e1b : (c1 != 0) = true := by simpa using e1
      clear hwo e1
      go_upto_region 12 with (go_at_call 23; refine CD.out.mono ?_; rintro _ wd ⟨rfl, hwd⟩; have BD := hide (B6.out.trans (hwd.mono B6.out.size)); clear hwd)
      clear CD
      have BN := hide (BD.out.trans ((below_new wd (.cells #[.int .i64 0, .slice none 0 0, .slice none 0 0, .slice none 0 0] 25)).mono BD.out.size))
      have XN := heap_alloc_new wd (.cells #[.int .i64 0, .slice none 0 0, .slice none 0 0, .slice none 0 0] 25)
      generalize wd.alloc (.cells #[.int .i64 0, .slice none 0 0, .slice none 0 0, .slice none 0 0] 25) = we at *
      generalize wd.heap.size = Q3 at *
      obtain ⟨-, d0, d1, d2, d3⟩ := Bt.of XN
      clear XN BD
      go_wp2_with fail
      go_ret
      refine ⟨rfl, ?_⟩; rw [hQ]; exact HA.out.trans (BN.out.mono (Nat.le_trans (Nat.le_of_eq hQ.symm) HA.out.size))
  · have h0b : (ec == 0) = false := by simpa using h0
    rw [if_neg h0] at CE
    simp only [List.length_nil] at CE
    clear hce h0
    go_upto_region 11 with (go_at_call 13; refine CE.out.mono ?_; rintro _ w3 ⟨⟨xa, xc, rfl, hx⟩, hw3⟩; have B3 := hide (B2.out.trans (hw3.mono B2.out.size)); clear hx hw3)
    clear CE c0 c1 c2 c3 B2
    have CD := hide (decode_any (HRz.out _ B3.out) hcap hnil hlen)
    unfold Decd at CD
    cases hwo : wholeM zs with
    | ok U =>
      obtain ⟨hu0, hue⟩ := back_read hz hwo
      rw [hwo] at CD
      have HU := hide (⟨check_zero hu0, hue⟩ : checkM U = (0, 0) ∧ encM U = zs)
      have HU0 := hide hu0
      clear hwo hu0 hue
      go_upto_region 12 with (go_at_call 23; refine CD.out.mono ?_; rintro _ wd ⟨⟨ga, gc, sa, sc, ea, ee, rfl, hz9⟩, hwd⟩; have BD := hide (B3.out.trans (hwd.mono B3.out.size)); have TD := hide hz9.tr; clear hz9 hwd)
      clear CD
      have BN := hide (BD.out.trans ((below_new wd (.cells #[.int .i64 U.lits, .slice ga U.foes.length gc, .slice sa U.rules.length sc, .slice ea U.beats.length ee] 25)).mono BD.out.size))
      have TN := hide (TR.go (below_new wd (.cells #[.int .i64 U.lits, .slice ga U.foes.length gc, .slice sa U.rules.length sc, .slice ea U.beats.length ee] 25)) TD.out)
      have XN := hide (heap_alloc_new wd (.cells #[.int .i64 U.lits, .slice ga U.foes.length gc, .slice sa U.rules.length sc, .slice ea U.beats.length ee] 25))
      generalize wd.alloc (.cells #[.int .i64 U.lits, .slice ga U.foes.length gc, .slice sa U.rules.length sc, .slice ea U.beats.length ee] 25) = we at *
      generalize wd.heap.size = Q3 at *
      clear BD TD
      obtain ⟨-, d0, d1, d2, d3⟩ := Bt.of XN.out
      have CU := hide (check_any TN.out)
      rw [HU.out.1] at CU
      unfold dup at CU
      simp only at CU
      go_upto_region 15 with (go_at_call 11; refine CU.out.mono ?_; rintro _ wf ⟨rfl, hwf⟩; have BF := hide (BN.out.trans (hwf.mono BN.out.size)); have TF := hide (TR.go hwf TN.out); have XF := hide ((hwf.block _ (loc_lt XN.out)).trans XN.out); clear hwf)
      clear CU d0 d1 d2 d3 TN XN BN
      obtain ⟨-, d0, d1, d2, d3⟩ := Bt.of XF.out
      have CE := hide (encode_any TF.out)
      unfold Encd at CE
      rw [if_pos HU0.out, HU.out.2, HU.out.1] at CE
      simp only at CE
      go_upto_region 16 with (go_at_call 13; refine CE.out.mono ?_; rintro _ wg ⟨⟨ya, yc, rfl, hy⟩, hwg⟩; have BG := hide (BF.out.trans (hwg.mono BF.out.size)); have HY := hide (row_owns hy hz).1; clear hy hwg)
      clear CE d0 d1 d2 d3 TF XF BF
      have CS := hide (same_any a ya zs.length c zs.length yc zs zs wg rfl rfl (by omega) (HRz.out _ BG.out) HY.out)
      rw [decide_eq_true (rfl : zs = zs)] at CS
      go_wp2_with (go_at_call 16; refine CS.out.mono ?_; rintro _ wh ⟨rfl, hwh⟩; have BH := hide (BG.out.trans (hwh.mono BG.out.size)); clear hwh)
      go_ret
      refine ⟨rfl, ?_⟩; rw [hQ]; exact HA.out.trans (BH.out.mono (Nat.le_trans (Nat.le_of_eq hQ.symm) HA.out.size))
    | error cc =>
      obtain ⟨c1, c2⟩ := cc
      obtain ⟨e1, e2, e3⟩ := whole_err hwo
      rw [hwo] at CD
      simp only at CD
      rw [tv_no] at CD
      have e1b : (c1 != 0) = true := by simpa using e1
      clear hwo e1
      go_upto_region 12 with (go_at_call 23; refine CD.out.mono ?_; rintro _ wd ⟨rfl, hwd⟩; have BD := hide (B3.out.trans (hwd.mono B3.out.size)); clear hwd)
      clear CD
      have BN := hide (BD.out.trans ((below_new wd (.cells #[.int .i64 0, .slice none 0 0, .slice none 0 0, .slice none 0 0] 25)).mono BD.out.size))
      have XN := heap_alloc_new wd (.cells #[.int .i64 0, .slice none 0 0, .slice none 0 0, .slice none 0 0] 25)
      generalize wd.alloc (.cells #[.int .i64 0, .slice none 0 0, .slice none 0 0, .slice none 0 0] 25) = we at *
      generalize wd.heap.size = Q3 at *
      obtain ⟨-, d0, d1, d2, d3⟩ := Bt.of XN
      clear XN BD
      go_wp2_with fail
      go_ret
      refine ⟨rfl, ?_⟩; rw [hQ]; exact HA.out.trans (BN.out.mono (Nat.le_trans (Nat.le_of_eq hQ.symm) HA.out.size))
end Go.Proofs.Ytanonjggegibkaa
