/- The document's answer, layer 15: Holds; the law. -/
import Derived.Test.YtddlhlifkhaokaaRnd
import Derived.Test.YtddlhlifkhaokaaRg7
namespace Go.Proofs.Ytddlhlifkhaokaa.Rf
open Go.RowKit

section
variable {w : World} {T : Th} {F m : List Int} {fa ra ba xa ma : Option Addr} {fc rc bc xc mc : Nat}
set_option maxRecDepth 100000 in
set_option maxHeartbeats 12800000 in
theorem rHolds_any (h : TA w.heap.size w T fa fc ra rc ba bc) (hF : Ints w.heap.size w F (.slice xa F.length xc)) (hm : At1 w ma (u8s m)) {t q : Int} :
    Calls Try.prog 5 #[tv T fa fc ra rc ba bc, .slice xa F.length xc, .slice ma m.length mc, .int .i64 t, .int .i64 q] w fun e w' => e = .returned (.tuple #[.bool (holV T F m t q), .int .i64 (holE T F m t q)]) ∧ Below w.heap.size w w' := by
  have hB := below_new w (.cells #[.int .i64 T.lits, .slice fa T.foes.length fc, .slice ra T.rules.length rc, .slice ba T.beats.length bc] 25)
  have hX := heap_alloc_new w (.cells #[.int .i64 T.lits, .slice fa T.foes.length fc, .slice ra T.rules.length rc, .slice ba T.beats.length bc] 25)
  have CG := hide (given_any (TR.go hB h) (Ints.go hB hF))
  have HTA := hide (TR.go hB h)
  have HF := hide (Ints.go hB hF)
  have HM := hide (hm.below hB)
  have HB := hide hB
  have HX := hide hX
  clear h hB hF hm
  by_cases h0 : faultM T F = 0
  · rw [h0] at CG
    by_cases hlen : (m.length : Int) = T.lits
    · have hf : mfM T F m = 0 := by unfold mfM; rw [if_neg (by omega), if_neg (by omega)]
      obtain ⟨hf0, hml⟩ := mf_ok hf
      have hpf := pf_of hf0
      have HA1 : Hid ((t < 1 ∨ 4 < t ∨ q < 0 ∨ T.lits ≤ q) → holE T F m t q = 1) := hide (holE_arg hf)
      have HA0 : Hid (¬(t < 1 ∨ 4 < t ∨ q < 0 ∨ T.lits ≤ q) → holE T F m t q = 0) := hide (holE_ok hf)
      obtain ⟨n, hn⟩ : ∃ n, T.lits.toNat = n := ⟨_, rfl⟩
      rw [hn] at hpf hml
      have HP := hide hpf
      have HLN := hide hpf.ln
      have HML := hide hml
      rw [hml]
      clear hf hf0 hn hpf hml hlen h0
      go_enter Try.func5, Try.ntmps5
      go_upto_region 1 with fail
      generalize w.alloc (.cells #[.int .i64 T.lits, .slice fa T.foes.length fc, .slice ra T.rules.length rc, .slice ba T.beats.length bc] 25) = W at *
      obtain ⟨-, c0, c1, c2, c3⟩ := Bt.of hX
      clear hX
      go_upto_region 2 with (go_at_call 11; refine CG.out.mono ?_; rintro _ w1 ⟨rfl, hw1⟩; have HW1 := hide hw1; clear hw1)
      have HX1 := hide ((HW1.out.block _ (loc_lt HX.out)).trans HX.out)
      have HTA1 := hide (TR.go HW1.out HTA.out)
      have HF1 := hide (Ints.go HW1.out HF.out)
      have HM1 := hide (HM.out.below HW1.out)
      have HB1 := hide (HB.out.trans (HW1.out.mono HB.out.size))
      clear c0 c1 c2 c3 CG HX HTA HF HB HW1 HM
      obtain ⟨-, c0, c1, c2, c3⟩ := Bt.of HX1.out
      rw [HLN.out] at c0
      have hnn : ((n : Int) != (n : Int)) = false := by simp
      by_cases ht0 : t < 1
      · have HE : Hid (holE T F m t q = 1) := hide (HA1.out (.inl ht0))
        go_wp2_with fail
        go_ret2
        exact ⟨ret2_b (holV_no (by rw [HE.out]; decide)).symm HE.out.symm, HB1.out⟩
      · by_cases ht1 : 4 < t
        · have HE : Hid (holE T F m t q = 1) := hide (HA1.out (.inr (.inl ht1)))
          go_wp2_with fail
          go_ret2
          exact ⟨ret2_b (holV_no (by rw [HE.out]; decide)).symm HE.out.symm, HB1.out⟩
        · by_cases hq0 : q < 0
          · have HE : Hid (holE T F m t q = 1) := hide (HA1.out (.inr (.inr (.inl hq0))))
            go_wp2_with fail
            go_ret2
            exact ⟨ret2_b (holV_no (by rw [HE.out]; decide)).symm HE.out.symm, HB1.out⟩
          · by_cases hq1 : (n : Int) ≤ q
            · have HE : Hid (holE T F m t q = 1) := hide (HA1.out (.inr (.inr (.inr (by rw [HLN.out]; exact hq1)))))
              go_wp2_with fail
              go_ret2
              exact ⟨ret2_b (holV_no (by rw [HE.out]; decide)).symm HE.out.symm, HB1.out⟩
            · have HE : Hid (holE T F m t q = 0) := hide (HA0.out (by rw [HLN.out]; omega))
              have HV : Hid (condM T F m t q = holV T F m t q) := hide (holV_yes HE.out).symm
              obtain ⟨x, rfl⟩ := Int.eq_ofNat_of_zero_le (a := q) (by omega)
              have hxn : x < n := by omega
              have CN := hide (newWorld_any HP.out HTA1.out HF1.out)
              have HTT := hide (show isTag t by unfold isTag; omega)
              clear HA0 HA1
              go_upto_region 8 with fail
              rw [← HLN.out] at c0
              go_wp2_with fail
              refine CN.out.mono ?_
              rintro _ w2 ⟨K, rfl, ⟨A, hwd⟩, hb2⟩
              have CH := hide (holds_any (mc := mc) hwd (HM1.out.below hb2) HML.out hxn HTT.out)
              rw [HV.out] at CH
              have HB2 := hide (HB1.out.trans (hb2.mono HB1.out.size))
              obtain ⟨ov, hov⟩ : ∃ ov, holV T F m t (x : Int) = ov := ⟨_, rfl⟩
              rw [hov] at CH
              have HOV := hide hov
              clear hov
              clear hwd hb2 CN
              go_wp2_with fail
              refine CH.out.mono ?_
              rintro _ w3 ⟨rfl, hd⟩
              have HB3 := hide (HB2.out.trans ((quiet_below hd).mono HB2.out.size))
              clear hd
              go_wp2_with fail
              go_ret2
              exact ⟨ret2_b HOV.out.symm HE.out.symm, HB3.out⟩
    · have HE : Hid (holE T F m t q = 3) := hide (by
        have hm3 : mfM T F m = 3 := by unfold mfM; rw [if_neg (by omega), if_pos hlen]
        rw [holE_bad (by rw [hm3]; decide), hm3])
      have HV : Hid (holV T F m t q = false) := hide (holV_no (by rw [HE.out]; decide))
      have hl2 : ((m.length : Int) != T.lits) = true := by simpa using hlen
      clear hlen h0 HTA HF HM
      go_enter Try.func5, Try.ntmps5
      go_upto_region 1 with fail
      generalize w.alloc (.cells #[.int .i64 T.lits, .slice fa T.foes.length fc, .slice ra T.rules.length rc, .slice ba T.beats.length bc] 25) = W at *
      obtain ⟨-, c0, c1, c2, c3⟩ := Bt.of hX
      clear hX
      go_upto_region 2 with (go_at_call 11; refine CG.out.mono ?_; rintro _ w1 ⟨rfl, hw1⟩; have HW1 := hide hw1; clear hw1)
      clear c0 c1 c2 c3 CG
      obtain ⟨-, c0, c1, c2, c3⟩ := Bt.of ((HW1.out.block _ (loc_lt HX.out)).trans HX.out)
      have HB1 := hide (HB.out.trans (HW1.out.mono HB.out.size))
      go_wp2_with fail
      go_ret2
      exact ⟨ret2_b HV.out.symm HE.out.symm, HB1.out⟩
  · have HE : Hid (holE T F m t q = faultM T F) := hide (by
      have hm3 : mfM T F m = faultM T F := by unfold mfM; rw [if_pos h0]
      rw [holE_bad (by rw [hm3]; exact h0), hm3])
    have HV : Hid (holV T F m t q = false) := hide (holV_no (by rw [HE.out]; exact h0))
    have hne : (faultM T F != 0) = true := by simpa using h0
    clear h0 HTA HF HM
    generalize faultM T F = z at *
    go_enter Try.func5, Try.ntmps5
    go_upto_region 1 with fail
    generalize w.alloc (.cells #[.int .i64 T.lits, .slice fa T.foes.length fc, .slice ra T.rules.length rc, .slice ba T.beats.length bc] 25) = W at *
    obtain ⟨-, c0, c1, c2, c3⟩ := Bt.of hX
    clear hX
    go_wp2_with (go_at_call 11; refine CG.out.mono ?_; rintro _ w1 ⟨rfl, hw1⟩; have HW1 := hide (HB.out.trans (hw1.mono HB.out.size)); clear hw1)
    go_ret2
    exact ⟨ret2_b HV.out.symm HE.out.symm, HW1.out⟩
end
end Go.Proofs.Ytddlhlifkhaokaa.Rf
