/- Round; marks compared, copied. -/
import Derived.Test.YtddlhlifkhaokaaAlv
namespace Go.Proofs.Ytddlhlifkhaokaa
open Go.RowKit

def mfM (T : Th) (F m : List Int) : Int := if faultM T F ≠ 0 then faultM T F else if (m.length : Int) ≠ T.lits then 3 else 0
section
variable {w : World} {T : Th} {F m : List Int} {fa ra ba ea ma : Option Addr} {fc rc bc ec mc : Nat}
set_option maxRecDepth 100000 in
set_option maxHeartbeats 6400000 in
theorem marksFault_any (h : TA w.heap.size w T fa fc ra rc ba bc) (hF : Ints w.heap.size w F (.slice ea F.length ec)) :
    Calls Try.prog 8 #[tv T fa fc ra rc ba bc, .slice ea F.length ec, .slice ma m.length mc] w fun e w' => e = .returned (.int .i64 (mfM T F m)) ∧ Below w.heap.size w w' := by
  have hB := below_new w (.cells #[.int .i64 T.lits, .slice fa T.foes.length fc, .slice ra T.rules.length rc, .slice ba T.beats.length bc] 25)
  have hX := heap_alloc_new w (.cells #[.int .i64 T.lits, .slice fa T.foes.length fc, .slice ra T.rules.length rc, .slice ba T.beats.length bc] 25)
  have CF := hide (fault_any (TR.go hB h) (Ints.go hB hF))
  have HB := hide hB
  have HX := hide hX
  clear h hB hF
  go_enter Try.func8, Try.ntmps8
  go_upto_region 1 with fail
  generalize w.alloc (.cells #[.int .i64 T.lits, .slice fa T.foes.length fc, .slice ra T.rules.length rc, .slice ba T.beats.length bc] 25) = W at *
  obtain ⟨-, c0, c1, c2, c3⟩ := Bt.of hX
  clear hX
  by_cases hf : faultM T F = 0
  · rw [hf] at CF
    go_upto_region 4 with (go_at_call 15; refine CF.out.mono ?_; rintro _ w1 ⟨rfl, hw1⟩; have HB1 := hide (HB.out.trans (hw1.mono HB.out.size)); have HX1 := hide ((hw1.block _ (loc_lt HX.out)).trans HX.out); clear hw1)
    clear c0 c1 c2 c3 CF HX HB
    obtain ⟨-, c0, c1, c2, c3⟩ := Bt.of HX1.out
    by_cases hl : (m.length : Int) = T.lits
    · have HR : Hid (mfM T F m = 0) := hide (by unfold mfM; rw [if_neg (by rw [hf]; decide), if_neg (by rw [hl]; exact fun x => x rfl)])
      have hl2 : ((m.length : Int) != T.lits) = false := by simpa using hl
      clear hf
      go_wp2_with fail
      go_ret
      exact ⟨by rw [HR.out]; rfl, HB1.out⟩
    · have HR : Hid (mfM T F m = 3) := hide (by unfold mfM; rw [if_neg (by rw [hf]; decide), if_pos hl])
      have hl2 : ((m.length : Int) != T.lits) = true := by simpa using hl
      clear hf hl
      go_wp2_with fail
      go_ret
      exact ⟨by rw [HR.out]; rfl, HB1.out⟩
  · have HR : Hid (mfM T F m = faultM T F) := hide (by unfold mfM; rw [if_pos hf])
    have hne : (faultM T F != 0) = true := by simpa using hf
    clear hf
    generalize faultM T F = e0 at *
    go_wp2_with (go_at_call 15; refine CF.out.mono ?_; rintro _ w1 ⟨rfl, hw1⟩; have HB1 := hide (HB.out.trans (hw1.mono HB.out.size)); clear hw1)
    go_ret
    exact ⟨by rw [HR.out]; rfl, HB1.out⟩
end
end Go.Proofs.Ytddlhlifkhaokaa
/- naive.Holds. -/
namespace Go.Proofs.Ytddlhlifkhaokaa
open Go.RowKit

def holE (T : Th) (F m : List Int) (t q : Int) : Int := if mfM T F m ≠ 0 then mfM T F m else if t < 1 ∨ 4 < t ∨ q < 0 ∨ T.lits ≤ q then 1 else 0
def holV (T : Th) (F m : List Int) (t q : Int) : Bool := decide (holE T F m t q = 0) && condM T F m t q
theorem holE_bad {T : Th} {F m : List Int} {t q : Int} (h : mfM T F m ≠ 0) : holE T F m t q = mfM T F m := if_pos h
theorem holE_arg {T : Th} {F m : List Int} {t q : Int} (h : mfM T F m = 0) (h2 : t < 1 ∨ 4 < t ∨ q < 0 ∨ T.lits ≤ q) : holE T F m t q = 1 := by unfold holE; rw [if_neg (by omega), if_pos h2]
theorem holE_ok {T : Th} {F m : List Int} {t q : Int} (h : mfM T F m = 0) (h2 : ¬(t < 1 ∨ 4 < t ∨ q < 0 ∨ T.lits ≤ q)) : holE T F m t q = 0 := by unfold holE; rw [if_neg (by omega), if_neg h2]
theorem holV_no {T : Th} {F m : List Int} {t q : Int} (h : holE T F m t q ≠ 0) : holV T F m t q = false := by unfold holV; rw [decide_eq_false h]; rfl
theorem holV_yes {T : Th} {F m : List Int} {t q : Int} (h : holE T F m t q = 0) : holV T F m t q = condM T F m t q := by unfold holV; rw [decide_eq_true h]; rfl
theorem ret2_b {b b' : Bool} {c c' : Int} (h1 : b = b') (h2 : c = c') : (Go.Ending.returned (.tuple #[.bool b, .int .i64 c])) = .returned (.tuple #[.bool b', .int .i64 c']) := by rw [h1, h2]
theorem mf_ok {T : Th} {F m : List Int} (h : mfM T F m = 0) : faultM T F = 0 ∧ m.length = T.lits.toNat := by
  unfold mfM at h
  by_cases hn : faultM T F ≠ 0
  · rw [if_pos hn] at h; exact absurd h hn
  · rw [if_neg hn] at h
    refine ⟨Classical.not_not.1 hn, ?_⟩
    by_cases e : (m.length : Int) ≠ T.lits
    · rw [if_pos e] at h; cases h
    · have := Classical.not_not.1 e
      omega
section
variable {w : World} {T : Th} {F m : List Int} {fa ra ba ea ma : Option Addr} {fc rc bc ec mc : Nat}
set_option maxRecDepth 100000 in
set_option maxHeartbeats 12800000 in
theorem Holds_any (h : TA w.heap.size w T fa fc ra rc ba bc) (hF : Ints w.heap.size w F (.slice ea F.length ec)) (hm : At1 w ma (u8s m)) {t q : Int} :
    Calls Try.prog 4 #[tv T fa fc ra rc ba bc, .slice ea F.length ec, .slice ma m.length mc, .int .i64 t, .int .i64 q] w fun e w' => e = .returned (.tuple #[.bool (holV T F m t q), .int .i64 (holE T F m t q)]) ∧ Below w.heap.size w w' := by
  have hB := below_new w (.cells #[.int .i64 T.lits, .slice fa T.foes.length fc, .slice ra T.rules.length rc, .slice ba T.beats.length bc] 25)
  have hX := heap_alloc_new w (.cells #[.int .i64 T.lits, .slice fa T.foes.length fc, .slice ra T.rules.length rc, .slice ba T.beats.length bc] 25)
  have CF := hide (marksFault_any (m := m) (ma := ma) (mc := mc) (TR.go hB h) (Ints.go hB hF))
  have HTA := hide (TR.go hB h)
  have HF := hide (Ints.go hB hF)
  have HM := hide (hm.below hB)
  have HB := hide hB
  have HX := hide hX
  clear h hB hF hm
  by_cases hf : mfM T F m = 0
  · rw [hf] at CF
    obtain ⟨hf0, hml⟩ := mf_ok hf
    have hpf := pf_of hf0
    have HA1 : Hid ((t < 1 ∨ 4 < t ∨ q < 0 ∨ T.lits ≤ q) → holE T F m t q = 1) := hide (holE_arg hf)
    have HA0 : Hid (¬(t < 1 ∨ 4 < t ∨ q < 0 ∨ T.lits ≤ q) → holE T F m t q = 0) := hide (holE_ok hf)
    obtain ⟨n, hn⟩ : ∃ n, T.lits.toNat = n := ⟨_, rfl⟩
    rw [hn] at hpf hml
    have HP := hide hpf
    have HLN := hide hpf.ln
    have HML := hide hml
    rw [hml] at CF ⊢
    clear hf hf0 hn hpf hml
    go_enter Try.func4, Try.ntmps4
    go_upto_region 1 with fail
    generalize w.alloc (.cells #[.int .i64 T.lits, .slice fa T.foes.length fc, .slice ra T.rules.length rc, .slice ba T.beats.length bc] 25) = W at *
    obtain ⟨-, c0, c1, c2, c3⟩ := Bt.of hX
    clear hX
    go_upto_region 4 with (go_at_call 8; refine CF.out.mono ?_; rintro _ w1 ⟨rfl, hw1⟩; have HW1 := hide hw1; clear hw1)
    have HX1 := hide ((HW1.out.block _ (loc_lt HX.out)).trans HX.out)
    have HTA1 := hide (TR.go HW1.out HTA.out)
    have HF1 := hide (Ints.go HW1.out HF.out)
    have HM1 := hide (HM.out.below HW1.out)
    have HB1 := hide (HB.out.trans (HW1.out.mono HB.out.size))
    clear c0 c1 c2 c3 CF HX HTA HF HB HW1 HM
    obtain ⟨-, c0, c1, c2, c3⟩ := Bt.of HX1.out
    rw [HLN.out] at c0
    by_cases ht0 : t < 1
    · have HE : Hid (holE T F m t q = 1) := hide (HA1.out (.inl ht0))
      go_wp2_with fail
      go_ret2
      exact ⟨ret2_b (holV_no (by rw [HE.out]; decide)).symm HE.out.symm, HB1.out⟩
    · by_cases ht1 : 4 < t
      · have HE : Hid (holE T F m t q = 1) := hide (HA1.out (.inr (.inl ht1)))
        go_wp2_with fail
        go_ret2
        exact ⟨ret2_b (holV_no (by rw [HE.out]; decide)).symm HE.out.symm, HB1.out⟩
      · by_cases hq0 : q < 0
        · have HE : Hid (holE T F m t q = 1) := hide (HA1.out (.inr (.inr (.inl hq0))))
          go_wp2_with fail
          go_ret2
          exact ⟨ret2_b (holV_no (by rw [HE.out]; decide)).symm HE.out.symm, HB1.out⟩
        · by_cases hq1 : (n : Int) ≤ q
          · have HE : Hid (holE T F m t q = 1) := hide (HA1.out (.inr (.inr (.inr (by rw [HLN.out]; exact hq1)))))
            go_wp2_with fail
            go_ret2
            exact ⟨ret2_b (holV_no (by rw [HE.out]; decide)).symm HE.out.symm, HB1.out⟩
          · have HE : Hid (holE T F m t q = 0) := hide (HA0.out (by rw [HLN.out]; omega))
            have HV : Hid (condM T F m t q = holV T F m t q) := hide (holV_yes HE.out).symm
            obtain ⟨x, rfl⟩ := Int.eq_ofNat_of_zero_le (a := q) (by omega)
            have hxn : x < n := by omega
            have CC := hide (conditions_any (w := w1))
            have CN := hide fun (X : World) (hX : Below w1.heap.size w1 X) => newKnown_any (ma := ma) (mc := mc) (TR.go hX HTA1.out) (Ints.go hX HF1.out) HP.out
            have CX : Hid (∀ X, Below w1.heap.size w1 X → X.heap[w.heap.size]? = some (.cells #[.int .i64 T.lits, .slice fa T.foes.length fc, .slice ra T.rules.length rc, .slice ba T.beats.length bc] 25)) := hide fun X hX => (hX.block _ (loc_lt HX1.out)).trans HX1.out
            have htt : t = 1 ∨ t = 2 ∨ t = 3 ∨ t = 4 := by omega
            clear HA0 HA1 ht0 ht1 hq0 hq1
            rcases htt with rfl | rfl | rfl | rfl
            · have HV2 : Hid (plusS T F m x = holV T F m 1 (x : Int)) := hide (by rw [← HV.out]; rfl)
              obtain ⟨ov, hov⟩ : ∃ ov, holV T F m 1 (x : Int) = ov := ⟨_, rfl⟩
              rw [hov] at HV2
              have HOV := hide hov
              clear hov
              clear HV
              go_wp2_with fail
              refine CC.out.mono ?_
              rintro _ w2 ⟨rfl, hb2⟩
              have HB2 := hide hb2
              have hix : (Instr.index 40 (.agg #[.func (.func 16) #[] #[] , .func (.func 17) #[] #[] , .func (.func 18) #[] #[] , .func (.func 19) #[] #[]]) (.int .i64 0)).run Try.prog w2 = .ok (.func (.func 16) #[] #[]) w2 := by kernel_rfl
              clear hb2
              go_upto_region 7 with fail
              clear hix
              clear c0 c1 c2 c3 CC
              obtain ⟨-, c0, c1, c2, c3⟩ := Bt.of (CX.out _ HB2.out)
              have CN2 := hide (CN.out w2 HB2.out)
              go_wp2_with fail
              refine CN2.out.mono ?_
              rintro _ w3 ⟨K, A, rfl, hkq, hta, -, hb3⟩
              have CR := hide (plusStrict_any (hkq.kn HP.out (hta w3 hb3) HML.out ((HM1.out.below HB2.out).below hb3)) hxn)
              rw [HV2.out] at CR
              have HB3 := hide (HB1.out.trans ((HB2.out.trans (hb3.mono HB2.out.size)).mono HB1.out.size))
              clear hkq hta hb3 c0 c1 c2 c3
              go_wp2_with fail
              refine CR.out.mono ?_
              rintro _ w4 ⟨rfl, hb4⟩
              have HB4 := hide (HB3.out.trans (hb4.mono HB3.out.size))
              clear hb4
              go_wp2_with fail
              go_ret2
              exact ⟨ret2_b HOV.out.symm HE.out.symm, HB4.out⟩
            · have HV2 : Hid (minusS T F m x = holV T F m 2 (x : Int)) := hide (by rw [← HV.out]; rfl)
              obtain ⟨ov, hov⟩ : ∃ ov, holV T F m 2 (x : Int) = ov := ⟨_, rfl⟩
              rw [hov] at HV2
              have HOV := hide hov
              clear hov
              clear HV
              go_wp2_with fail
              refine CC.out.mono ?_
              rintro _ w2 ⟨rfl, hb2⟩
              have HB2 := hide hb2
              have hix : (Instr.index 40 (.agg #[.func (.func 16) #[] #[] , .func (.func 17) #[] #[] , .func (.func 18) #[] #[] , .func (.func 19) #[] #[]]) (.int .i64 1)).run Try.prog w2 = .ok (.func (.func 17) #[] #[]) w2 := by kernel_rfl
              clear hb2
              go_upto_region 7 with fail
              clear hix
              clear c0 c1 c2 c3 CC
              obtain ⟨-, c0, c1, c2, c3⟩ := Bt.of (CX.out _ HB2.out)
              have CN2 := hide (CN.out w2 HB2.out)
              go_wp2_with fail
              refine CN2.out.mono ?_
              rintro _ w3 ⟨K, A, rfl, hkq, hta, -, hb3⟩
              have CR := hide (minusStrict_any (hkq.kn HP.out (hta w3 hb3) HML.out ((HM1.out.below HB2.out).below hb3)) hxn)
              rw [HV2.out] at CR
              have HB3 := hide (HB1.out.trans ((HB2.out.trans (hb3.mono HB2.out.size)).mono HB1.out.size))
              clear hkq hta hb3 c0 c1 c2 c3
              go_wp2_with fail
              refine CR.out.mono ?_
              rintro _ w4 ⟨rfl, hb4⟩
              have HB4 := hide (HB3.out.trans (hb4.mono HB3.out.size))
              clear hb4
              go_wp2_with fail
              go_ret2
              exact ⟨ret2_b HOV.out.symm HE.out.symm, HB4.out⟩
            · have HV2 : Hid (plusD T m x = holV T F m 3 (x : Int)) := hide (by rw [← HV.out]; rfl)
              obtain ⟨ov, hov⟩ : ∃ ov, holV T F m 3 (x : Int) = ov := ⟨_, rfl⟩
              rw [hov] at HV2
              have HOV := hide hov
              clear hov
              clear HV
              go_wp2_with fail
              refine CC.out.mono ?_
              rintro _ w2 ⟨rfl, hb2⟩
              have HB2 := hide hb2
              have hix : (Instr.index 40 (.agg #[.func (.func 16) #[] #[] , .func (.func 17) #[] #[] , .func (.func 18) #[] #[] , .func (.func 19) #[] #[]]) (.int .i64 2)).run Try.prog w2 = .ok (.func (.func 18) #[] #[]) w2 := by kernel_rfl
              clear hb2
              go_upto_region 7 with fail
              clear hix
              clear c0 c1 c2 c3 CC
              obtain ⟨-, c0, c1, c2, c3⟩ := Bt.of (CX.out _ HB2.out)
              have CN2 := hide (CN.out w2 HB2.out)
              go_wp2_with fail
              refine CN2.out.mono ?_
              rintro _ w3 ⟨K, A, rfl, hkq, hta, -, hb3⟩
              have CR := hide (plusDefeasible_any (hkq.kn HP.out (hta w3 hb3) HML.out ((HM1.out.below HB2.out).below hb3)) hxn)
              rw [HV2.out] at CR
              have HB3 := hide (HB1.out.trans ((HB2.out.trans (hb3.mono HB2.out.size)).mono HB1.out.size))
              clear hkq hta hb3 c0 c1 c2 c3
              go_wp2_with fail
              refine CR.out.mono ?_
              rintro _ w4 ⟨rfl, hb4⟩
              have HB4 := hide (HB3.out.trans (hb4.mono HB3.out.size))
              clear hb4
              go_wp2_with fail
              go_ret2
              exact ⟨ret2_b HOV.out.symm HE.out.symm, HB4.out⟩
            · have HV2 : Hid (minusD T m x = holV T F m 4 (x : Int)) := hide (by rw [← HV.out]; rfl)
              obtain ⟨ov, hov⟩ : ∃ ov, holV T F m 4 (x : Int) = ov := ⟨_, rfl⟩
              rw [hov] at HV2
              have HOV := hide hov
              clear hov
              clear HV
              go_wp2_with fail
              refine CC.out.mono ?_
              rintro _ w2 ⟨rfl, hb2⟩
              have HB2 := hide hb2
              have hix : (Instr.index 40 (.agg #[.func (.func 16) #[] #[] , .func (.func 17) #[] #[] , .func (.func 18) #[] #[] , .func (.func 19) #[] #[]]) (.int .i64 3)).run Try.prog w2 = .ok (.func (.func 19) #[] #[]) w2 := by kernel_rfl
              clear hb2
              go_upto_region 7 with fail
              clear hix
              clear c0 c1 c2 c3 CC
              obtain ⟨-, c0, c1, c2, c3⟩ := Bt.of (CX.out _ HB2.out)
              have CN2 := hide (CN.out w2 HB2.out)
              go_wp2_with fail
              refine CN2.out.mono ?_
              rintro _ w3 ⟨K, A, rfl, hkq, hta, -, hb3⟩
              have CR := hide (minusDefeasible_any (hkq.kn HP.out (hta w3 hb3) HML.out ((HM1.out.below HB2.out).below hb3)) hxn)
              rw [HV2.out] at CR
              have HB3 := hide (HB1.out.trans ((HB2.out.trans (hb3.mono HB2.out.size)).mono HB1.out.size))
              clear hkq hta hb3 c0 c1 c2 c3
              go_wp2_with fail
              refine CR.out.mono ?_
              rintro _ w4 ⟨rfl, hb4⟩
              have HB4 := hide (HB3.out.trans (hb4.mono HB3.out.size))
              clear hb4
              go_wp2_with fail
              go_ret2
              exact ⟨ret2_b HOV.out.symm HE.out.symm, HB4.out⟩
  · have HE : Hid (holE T F m t q = mfM T F m) := hide (holE_bad hf)
    have HV : Hid (holV T F m t q = false) := hide (holV_no (by rw [HE.out]; exact hf))
    have hne : (mfM T F m != 0) = true := by simpa using hf
    clear hf HTA HF HM
    generalize mfM T F m = e0 at *
    go_enter Try.func4, Try.ntmps4
    go_upto_region 1 with fail
    generalize w.alloc (.cells #[.int .i64 T.lits, .slice fa T.foes.length fc, .slice ra T.rules.length rc, .slice ba T.beats.length bc] 25) = W at *
    obtain ⟨-, c0, c1, c2, c3⟩ := Bt.of hX
    clear hX
    go_wp2_with (go_at_call 8; refine CF.out.mono ?_; rintro _ w1 ⟨rfl, hw1⟩; have HW1 := hide (HB.out.trans (hw1.mono HB.out.size)); clear hw1)
    go_ret2
    exact ⟨ret2_b HV.out.symm HE.out.symm, HW1.out⟩
end
end Go.Proofs.Ytddlhlifkhaokaa
