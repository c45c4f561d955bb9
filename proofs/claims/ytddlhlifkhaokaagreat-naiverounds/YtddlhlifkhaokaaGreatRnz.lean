/- Rounds; the document's Round, Rounds. -/
import Derived.Test.YtddlhlifkhaokaaGreatRnd
import Derived.Test.YtddlhlifkhaokaaGreatRg7
namespace Go.Proofs.YtddlhlifkhaokaaGreat.Rf
open Go.RowKit

theorem mf_ok {T : Th} {F m : List Int} (h : mfM T F m = 0) : faultM T F = 0 ∧ m.length = T.lits.toNat ∧ (m.length : Int) = T.lits := by
  unfold mfM at h
  by_cases hn : faultM T F ≠ 0
  · rw [if_pos hn] at h; exact absurd h hn
  · rw [if_neg hn] at h
    by_cases e : (m.length : Int) ≠ T.lits
    · rw [if_pos e] at h; cases h
    · have := Classical.not_not.1 e
      exact ⟨Classical.not_not.1 hn, by omega, this⟩
section
variable {w : World} {T : Th} {F m : List Int} {fa ra ba ea ma : Option Addr} {fc rc bc ec mc : Nat}
/-- How many rounds there are, or none of a theory that may not be. -/
def Rds (T : Th) (F : List Int) (k : Nat) : Prop := if faultM T F = 0 then ∃ m, Sol T F m k ∧ Lst T F k else k = 0
theorem rds_one {k k' : Nat} (h : Rds T F k) (h' : Rds T F k') : k = k' := by
  unfold Rds at h h'
  by_cases c : faultM T F = 0
  · rw [if_pos c] at h h'
    obtain ⟨m, a, b⟩ := h
    obtain ⟨m', a', b'⟩ := h'
    exact lst_one a b a' b'
  · rw [if_neg c] at h h'
    rw [h, h']
set_option maxRecDepth 100000 in
set_option maxHeartbeats 6400000 in
theorem Rounds_any (h : TA w.heap.size w T fa fc ra rc ba bc) (hF : Ints w.heap.size w F (.slice ea F.length ec)) :
    Calls Tryz.prog 9 #[tv T fa fc ra rc ba bc, .slice ea F.length ec] w fun e w' => ∃ k : Nat, e = .returned (.tuple #[.int .i64 k, .int .i64 (faultM T F)]) ∧ Rds T F k ∧ Below w.heap.size w w' := by
  have hB := below_new w (.cells #[.int .i64 T.lits, .slice fa T.foes.length fc, .slice ra T.rules.length rc, .slice ba T.beats.length bc] 25)
  have hX := heap_alloc_new w (.cells #[.int .i64 T.lits, .slice fa T.foes.length fc, .slice ra T.rules.length rc, .slice ba T.beats.length bc] 25)
  have CF := hide (fault_any (TR.go hB h) (Ints.go hB hF))
  have HTA := hide (TR.go hB h)
  have HF := hide (Ints.go hB hF)
  have HB := hide hB
  have HX := hide hX
  clear h hB hF
  by_cases hf : faultM T F = 0
  · have HFZ := hide hf
    have HP := hide (pf_of hf)
    rw [hf] at CF ⊢
    clear hf
    go_enter Tryz.func9, Tryz.ntmps9
    go_upto_region 1 with fail
    generalize w.alloc (.cells #[.int .i64 T.lits, .slice fa T.foes.length fc, .slice ra T.rules.length rc, .slice ba T.beats.length bc] 25) = W at *
    obtain ⟨-, c0, c1, c2, c3⟩ := Bt.of hX
    clear hX
    go_upto_region 4 with (go_at_call 26; refine CF.out.mono ?_; rintro _ w1 ⟨rfl, hw1⟩; have HW1 := hide hw1; clear hw1)
    have CR := hide (solve_anyL (TR.go HW1.out HTA.out) (Ints.go HW1.out HF.out) HP.out)
    have HB1 := hide (HB.out.trans (HW1.out.mono HB.out.size))
    clear c0 c1 c2 c3 CF
    obtain ⟨-, c0, c1, c2, c3⟩ := Bt.of ((HW1.out.block _ (loc_lt HX.out)).trans HX.out)
    clear HX HTA HF HB HW1
    go_wp2_with (go_at_call 27; refine CR.out.mono ?_; rintro _ w2 ⟨v, m1, k, rfl, ⟨hs, hl⟩, -, hb⟩; have HS := hide hs; have HL := hide hl; have HB2 := hide (HB1.out.trans (hb.mono HB1.out.size)); clear hs hl hb)
    go_ret2
    exact ⟨k, rfl, by unfold Rds; rw [if_pos HFZ.out]; exact ⟨m1, HS.out, HL.out⟩, HB2.out⟩
  · have HR : Hid (Rds T F 0) := hide (by unfold Rds; rw [if_neg hf])
    have hne : (faultM T F != 0) = true := by simpa using hf
    clear hf HTA HF
    generalize faultM T F = z at *
    go_enter Tryz.func9, Tryz.ntmps9
    go_upto_region 1 with fail
    generalize w.alloc (.cells #[.int .i64 T.lits, .slice fa T.foes.length fc, .slice ra T.rules.length rc, .slice ba T.beats.length bc] 25) = W at *
    obtain ⟨-, c0, c1, c2, c3⟩ := Bt.of hX
    clear hX
    go_wp2_with (go_at_call 26; refine CF.out.mono ?_; rintro _ w1 ⟨rfl, hw1⟩; have HW1 := hide (HB.out.trans (hw1.mono HB.out.size)); clear hw1)
    go_ret2
    exact ⟨0, rfl, HR.out, HW1.out⟩
set_option maxRecDepth 100000 in
set_option maxHeartbeats 6400000 in
theorem rRounds_any (h : TA w.heap.size w T fa fc ra rc ba bc) (hF : Ints w.heap.size w F (.slice ea F.length ec)) :
    Calls Tryz.prog 10 #[tv T fa fc ra rc ba bc, .slice ea F.length ec] w fun e w' => ∃ k : Nat, e = .returned (.tuple #[.int .i64 k, .int .i64 (faultM T F)]) ∧ Rds T F k ∧ Below w.heap.size w w' := by
  have hB := below_new w (.cells #[.int .i64 T.lits, .slice fa T.foes.length fc, .slice ra T.rules.length rc, .slice ba T.beats.length bc] 25)
  have hX := heap_alloc_new w (.cells #[.int .i64 T.lits, .slice fa T.foes.length fc, .slice ra T.rules.length rc, .slice ba T.beats.length bc] 25)
  have CF := hide (given_any (TR.go hB h) (Ints.go hB hF))
  have HTA := hide (TR.go hB h)
  have HF := hide (Ints.go hB hF)
  have HB := hide hB
  have HX := hide hX
  clear h hB hF
  by_cases hf : faultM T F = 0
  · have HFZ := hide hf
    have HP := hide (pf_of hf)
    rw [hf] at CF ⊢
    clear hf
    go_enter Tryz.func10, Tryz.ntmps10
    go_upto_region 1 with fail
    generalize w.alloc (.cells #[.int .i64 T.lits, .slice fa T.foes.length fc, .slice ra T.rules.length rc, .slice ba T.beats.length bc] 25) = W at *
    obtain ⟨-, c0, c1, c2, c3⟩ := Bt.of hX
    clear hX
    go_upto_region 4 with (go_at_call 23; refine CF.out.mono ?_; rintro _ w1 ⟨rfl, hw1⟩; have HW1 := hide hw1; clear hw1)
    have CR := hide (rrun_anyL HP.out (TR.go HW1.out HTA.out) (Ints.go HW1.out HF.out))
    have HB1 := hide (HB.out.trans (HW1.out.mono HB.out.size))
    clear c0 c1 c2 c3 CF
    obtain ⟨-, c0, c1, c2, c3⟩ := Bt.of ((HW1.out.block _ (loc_lt HX.out)).trans HX.out)
    clear HX HTA HF HB HW1
    go_wp2_with (go_at_call 28; refine CR.out.mono ?_; rintro _ w2 ⟨va, m1, k, rfl, ⟨⟨hs, hl⟩, -⟩, hb⟩; have HS := hide hs; have HL := hide hl; have HB2 := hide (HB1.out.trans (hb.mono HB1.out.size)); clear hs hl hb)
    go_ret2
    exact ⟨k, rfl, by unfold Rds; rw [if_pos HFZ.out]; exact ⟨m1, HS.out, HL.out⟩, HB2.out⟩
  · have HR : Hid (Rds T F 0) := hide (by unfold Rds; rw [if_neg hf])
    have hne : (faultM T F != 0) = true := by simpa using hf
    clear hf HTA HF
    generalize faultM T F = z at *
    go_enter Tryz.func10, Tryz.ntmps10
    go_upto_region 1 with fail
    generalize w.alloc (.cells #[.int .i64 T.lits, .slice fa T.foes.length fc, .slice ra T.rules.length rc, .slice ba T.beats.length bc] 25) = W at *
    obtain ⟨-, c0, c1, c2, c3⟩ := Bt.of hX
    clear hX
    go_wp2_with (go_at_call 23; refine CF.out.mono ?_; rintro _ w1 ⟨rfl, hw1⟩; have HW1 := hide (HB.out.trans (hw1.mono HB.out.size)); clear hw1)
    go_ret2
    exact ⟨0, rfl, HR.out, HW1.out⟩
set_option maxRecDepth 100000 in
set_option maxHeartbeats 12800000 in
theorem rRound_any (h : TA w.heap.size w T fa fc ra rc ba bc) (hF : Ints w.heap.size w F (.slice ea F.length ec)) (hm : At1 w ma (u8s m)) (hby : Bys m) :
    Calls Tryz.prog 8 #[tv T fa fc ra rc ba bc, .slice ea F.length ec, .slice ma m.length mc] w fun e w' => ∃ va vc, e = .returned (.tuple #[.slice va (if mfM T F m = 0 then roundM T F m else []).length vc, .int .i64 (mfM T F m)]) ∧ At1 w' va (u8s (if mfM T F m = 0 then roundM T F m else [])) ∧ Below w.heap.size w w' := by
  have hB := below_new w (.cells #[.int .i64 T.lits, .slice fa T.foes.length fc, .slice ra T.rules.length rc, .slice ba T.beats.length bc] 25)
  have hX := heap_alloc_new w (.cells #[.int .i64 T.lits, .slice fa T.foes.length fc, .slice ra T.rules.length rc, .slice ba T.beats.length bc] 25)
  have CG := hide (given_any (TR.go hB h) (Ints.go hB hF))
  have HTA := hide (TR.go hB h)
  have HF := hide (Ints.go hB hF)
  have HM := hide (hm.below hB)
  have HBY := hide hby
  have HB := hide hB
  have HX := hide hX
  clear h hB hF hm hby
  by_cases hf : mfM T F m = 0
  · obtain ⟨hf0, hml, hlen⟩ := mf_ok hf
    rw [hf0] at CG
    have hpf := pf_of hf0
    obtain ⟨n, hn⟩ : ∃ n, T.lits.toNat = n := ⟨_, rfl⟩
    rw [hn] at hpf hml
    have HP := hide hpf
    have HLN := hide hpf.ln
    have HML := hide hml
    have HRL : Hid ((roundM T F m).length = n) := hide (by rw [round_len]; exact hml)
    rw [hf, if_pos rfl, hml]
    clear hf hf0 hn hpf hml hlen
    go_enter Tryz.func8, Tryz.ntmps8
    go_upto_region 1 with fail
    generalize w.alloc (.cells #[.int .i64 T.lits, .slice fa T.foes.length fc, .slice ra T.rules.length rc, .slice ba T.beats.length bc] 25) = W at *
    obtain ⟨-, c0, c1, c2, c3⟩ := Bt.of hX
    clear hX
    go_upto_region 2 with (go_at_call 23; refine CG.out.mono ?_; rintro _ w1 ⟨rfl, hw1⟩; have HW1 := hide hw1; clear hw1)
    have HX1 := hide ((HW1.out.block _ (loc_lt HX.out)).trans HX.out)
    have HTA1 := hide (TR.go HW1.out HTA.out)
    have HF1 := hide (Ints.go HW1.out HF.out)
    have HM1 := hide (HM.out.below HW1.out)
    have HB1 := hide (HB.out.trans (HW1.out.mono HB.out.size))
    clear c0 c1 c2 c3 CG HX HTA HF HB HW1 HM
    obtain ⟨-, c0, c1, c2, c3⟩ := Bt.of HX1.out
    rw [HLN.out] at c0
    have hnn : ((n : Int) != (n : Int)) = false := by simp
    have CN := hide (newWorld_any HP.out HTA1.out HF1.out)
    go_upto_region 6 with fail
    rw [← HLN.out] at c0
    go_wp2_with fail
    refine CN.out.mono ?_
    rintro _ w2 ⟨K, rfl, ⟨A, hwd⟩, hb2⟩
    have CR := hide (rround_any (mc := mc) hwd (HM1.out.below hb2) HML.out fun q _ => HBY.out q)
    have HB2 := hide (HB1.out.trans (hb2.mono HB1.out.size))
    clear hwd hb2 CN
    go_wp2_with fail
    refine CR.out.mono ?_
    rintro _ w3 ⟨rfl, hat, hb3⟩
    have HAT := hide hat
    have HB3 := hide (HB2.out.trans (hb3.mono HB2.out.size))
    clear hat hb3
    go_wp2_with fail
    go_ret2
    rw [HRL.out]
    first | exact ⟨_, _, rfl, HAT.out, HB3.out⟩ | exact ⟨_, ⟨_, rfl⟩, HAT.out, HB3.out⟩
  · rw [if_neg hf]
    by_cases h0 : faultM T F = 0
    · have hm3 : mfM T F m = 3 := by
        unfold mfM at hf ⊢
        rw [if_neg (by omega)] at hf ⊢
        by_cases e : (m.length : Int) ≠ T.lits
        · rw [if_pos e]
        · rw [if_neg e] at hf; exact absurd rfl hf
      have hlen : ((m.length : Int) != T.lits) = true := by
        have : (m.length : Int) ≠ T.lits := fun e => by
          unfold mfM at hf
          rw [if_neg (by omega), if_neg (by omega)] at hf
          exact hf rfl
        simpa using this
      rw [h0] at CG
      rw [hm3]
      clear hf h0 hm3 HTA HF HM HBY
      go_enter Tryz.func8, Tryz.ntmps8
      go_upto_region 1 with fail
      generalize w.alloc (.cells #[.int .i64 T.lits, .slice fa T.foes.length fc, .slice ra T.rules.length rc, .slice ba T.beats.length bc] 25) = W at *
      obtain ⟨-, c0, c1, c2, c3⟩ := Bt.of hX
      clear hX
      go_upto_region 2 with (go_at_call 23; refine CG.out.mono ?_; rintro _ w1 ⟨rfl, hw1⟩; have HW1 := hide hw1; clear hw1)
      clear c0 c1 c2 c3 CG
      obtain ⟨-, c0, c1, c2, c3⟩ := Bt.of ((HW1.out.block _ (loc_lt HX.out)).trans HX.out)
      have HB1 := hide (HB.out.trans (HW1.out.mono HB.out.size))
      go_wp2_with fail
      go_ret2
      first | exact ⟨none, 0, rfl, fun i v hi => (by simp [u8s] at hi), HB1.out⟩ | exact ⟨none, ⟨0, rfl⟩, fun i v hi => (by simp [u8s] at hi), HB1.out⟩
    · have hm3 : mfM T F m = faultM T F := by unfold mfM; rw [if_pos h0]
      have hne : (faultM T F != 0) = true := by simpa using h0
      have hne2 : (faultM T F == 0) = false := by simpa using h0
      rw [hm3]
      clear hf h0 hm3 HTA HF HM HBY
      generalize faultM T F = z at *
      go_enter Tryz.func8, Tryz.ntmps8
      go_upto_region 1 with fail
      generalize w.alloc (.cells #[.int .i64 T.lits, .slice fa T.foes.length fc, .slice ra T.rules.length rc, .slice ba T.beats.length bc] 25) = W at *
      obtain ⟨-, c0, c1, c2, c3⟩ := Bt.of hX
      clear hX
      go_wp2_with (go_at_call 23; refine CG.out.mono ?_; rintro _ w1 ⟨rfl, hw1⟩; have HW1 := hide (HB.out.trans (hw1.mono HB.out.size)); clear hw1)
      go_ret2
      first | exact ⟨none, 0, rfl, fun i v hi => (by simp [u8s] at hi), HW1.out⟩ | exact ⟨none, ⟨0, rfl⟩, fun i v hi => (by simp [u8s] at hi), HW1.out⟩
end
end Go.Proofs.YtddlhlifkhaokaaGreat.Rf
