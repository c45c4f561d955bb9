import Derived.Test.YthifoamnmhlghaaGreatWks
import Derived.Test.YthifoamnmhlghaaGreatFlt
set_option maxRecDepth 100000
set_option maxHeartbeats 6400000
namespace Go.Proofs.YthifoamnmhlghaaGreat.Fa
open Go.RowKit
theorem mr {l : List Int} {a b : Option Addr} {c d : Nat} {w : World} (ha : At1 w a (b5 l)) (hb : At1 w b (b5 l)) (hl : l.length ≤ 4096) :
    Calls Tryz.prog 7 #[.slice a l.length c, .slice b l.length d] w fun e w' => e = .returned (.bool true) ∧ Below w.heap.size w w' := by
 have HA := hide ha
 have HB := hide hb
 clear ha hb
 go_enter Tryz.func7, Tryz.ntmps7
 go_wp2_with fail
 go_loopw [5] (fun x wr => ∃ k q : Nat, k ≤ l.length ∧ x = .int .i64 k ∧ wr = w.drewN q) (fun x _ => l.length - (intOf x).toNat)
 case atStart => exact ⟨0, 0, by omega, rfl, rfl⟩
 case round =>
  obtain ⟨k, q, hk, rfl, rfl⟩ := hrel
  by_cases hlt : k < l.length
  · obtain ⟨ga, oa, rfl, a0⟩ := HA.out k _ (eB hlt)
    obtain ⟨gb, ob, rfl, b0⟩ := HB.out k _ (eB hlt)
    generalize l.getD k 0 = x at *
    go_wp2_with fail
    go_quiet (fail)
    go_wp2_with fail
    go_roundw
    case rel => exact ⟨k + 1, _, by omega, by go_num, rfl⟩
    case measure => simp [intOf]; omega
  · go_wp2_with fail
    go_ret
    exact ⟨rfl, au w q⟩
theorem naive_any {w : World} {T : Th} {F : List Int} {fa ra ba ea : Option Addr} {fc rc bc ec : Nat} (h : TA w.heap.size w T fa fc ra rc ba bc) (hF : Ints w.heap.size w F (.slice ea F.length ec)) :
    Calls Tryz.prog 3 #[tv T fa fc ra rc ba bc, .slice ea F.length ec] w fun e w' => e = .returned (.bool true) ∧ Below w.heap.size w w' := by
 have hB := aa w (.cells #[.int .i64 T.lits, .slice fa T.foes.length fc, .slice ra T.rules.length rc, .slice ba T.beats.length bc] 25)
 have hX := heap_alloc_new w (.cells #[.int .i64 T.lits, .slice fa T.foes.length fc, .slice ra T.rules.length rc, .slice ba T.beats.length bc] 25)
 have HTA := hide (TR.go hB h)
 have HF := hide (Ints.go hB hF)
 have HB := hide hB
 have HX := hide hX
 clear h hB hF
 go_enter Tryz.func3, Tryz.ntmps3
 go_upto_region 1 with fail
 generalize w.alloc (.cells #[.int .i64 T.lits, .slice fa T.foes.length fc, .slice ra T.rules.length rc, .slice ba T.beats.length bc] 25) = W at *
 clear hX
 have CA := hide (pO (w := W))
 go_upto_region 3 with (go_at_call 4; refine CA.out.mono ?_; rintro _ w1 ⟨rfl, hw1⟩; have HW1 := hide hw1; clear hw1)
 have HX1 := hide ((HW1.out.block _ (aR HX.out)).trans HX.out)
 have HTA1 := hide (TR.go HW1.out HTA.out)
 have HF1 := hide (Ints.go HW1.out HF.out)
 have HB1 := hide (HB.out.trans (HW1.out.mono HB.out.size))
 clear CA HX HTA HF HB HW1
 obtain ⟨-, c0, c1, c2, c3⟩ := Bt.of HX1.out
 by_cases hf : faultM T F = 0
 · have CS := hide (qx HTA1.out HF1.out hf)
   have HP := hide (kI hf)
   have HF0 := hide hf
   clear hf
   go_upto_region 4 with (go_at_call 5; refine CS.out.mono ?_; rintro _ w2 ⟨v, m, i, rfl, hs, hown, hw2⟩; have HS := hide hs; have HO := hide hown; have HW2 := hide hw2; clear hs hown hw2)
   have HB2 := hide (HB1.out.trans (HW2.out.mono HB1.out.size))
   have HX2 := hide ((HW2.out.block _ (aR HX1.out)).trans HX1.out)
   have CN := hide (YthifoamnmhlghaaGreat.Solve_ok (TR.go HW2.out HTA1.out) (Ints.go HW2.out HF1.out) HF0.out)
   clear c0 c1 c2 c3 CS HTA1 HF1 HB1 HX1 HW2
   obtain ⟨-, c0, c1, c2, c3⟩ := Bt.of HX2.out
   go_upto_region 5 with (go_at_call 6; refine CN.out.mono ?_; rintro _ w3 ⟨v2, m2, i2, rfl, hs2, hown2, hw3⟩; have HS2 := hide hs2; have HO2 := hide hown2; have HW3 := hide hw3; clear hs2 hown2 hw3)
   clear c0 c1 c2 c3
   obtain rfl : m2 = m := lY HS2.out HS.out
   have hml := jJ HP.out HS.out
   have hn4 := HP.out.n4
   have HB3 := hide (HB2.out.trans (HW3.out.mono HB2.out.size))
   have HO3 := owns_keep HO.out fun g hg => HW3.out.block g (aA HO.out hg)
   obtain ⟨va, vc, rfl⟩ := bg HO3
   obtain ⟨ua, uc, rfl⟩ := bg HO2.out
   have CM := hide (mr (c := vc) (d := uc) (cj HO3) (cj HO2.out) (by omega))
   rw [hml] at CM
   clear HO3 HO2 HO HS HS2 HW3 HB2 hml CN HX2 HP HF0
   go_wp2_with (go_at_call 7; refine CM.out.mono ?_; rintro _ w4 ⟨rfl, hw4⟩; have HW4 := hide hw4; clear hw4)
   go_ret
   exact ⟨rfl, HB3.out.trans (HW4.out.mono HB3.out.size)⟩
 · have CS := hide (sV HTA1.out HF1.out hf)
   have HNE := hide hf
   clear hf
   go_upto_region 4 with (go_at_call 5; refine CS.out.mono ?_; rintro _ w2 ⟨rfl, hw2⟩; have HW2 := hide hw2; clear hw2)
   have HB2 := hide (HB1.out.trans (HW2.out.mono HB1.out.size))
   have HX2 := hide ((HW2.out.block _ (aR HX1.out)).trans HX1.out)
   have CN := hide (YthifoamnmhlghaaGreat.Solve_bad (TR.go HW2.out HTA1.out) (Ints.go HW2.out HF1.out) HNE.out)
   clear c0 c1 c2 c3 CS HTA1 HF1 HB1 HX1 HW2
   obtain ⟨-, c0, c1, c2, c3⟩ := Bt.of HX2.out
   generalize faultM T F = e0 at *
   go_upto_region 5 with (go_at_call 6; refine CN.out.mono ?_; rintro _ w3 ⟨rfl, hw3⟩; have HW3 := hide hw3; clear hw3)
   have HB3 := hide (HB2.out.trans (HW3.out.mono HB2.out.size))
   have CM := hide (mr (l := []) (a := none) (b := none) (c := 0) (d := 0) (w := w3) (fun i u hu => by cases hu) (fun i u hu => by cases hu) (by decide))
   clear c0 c1 c2 c3
   go_wp2_with (go_at_call 7; refine CM.out.mono ?_; rintro _ w4 ⟨rfl, hw4⟩; have HW4 := hide hw4; clear hw4)
   go_ret
   exact ⟨rfl, HB3.out.trans (HW4.out.mono HB3.out.size)⟩
end Go.Proofs.YthifoamnmhlghaaGreat.Fa
