/- The document's answer, layer 12: Check, walked. -/
import Derived.Test.YtdmnoeooljofcaaRf4
namespace Go.Proofs.Ytdmnoeooljofcaa.Rf
open Go.RowKit

set_option maxRecDepth 100000 in
set_option maxHeartbeats 25600000 in
theorem rcheck_any {w : World} {T : Th} {fa ra ba : Option Addr} {fc rc bc : Nat} (h : TA w.heap.size w T fa fc ra rc ba bc) :
    Calls Try.prog 27 #[tv T fa fc ra rc ba bc] w fun e w' => e = .returned (dup (checkM T)) ∧ Below w.heap.size w w' := by
  have hB := below_new w (.cells #[.int .i64 T.lits, .slice fa T.foes.length fc, .slice ra T.rules.length rc, .slice ba T.beats.length bc] 27)
  have hX := heap_alloc_new w (.cells #[.int .i64 T.lits, .slice fa T.foes.length fc, .slice ra T.rules.length rc, .slice ba T.beats.length bc] 27)
  have hL := TR.go hB h
  have hfl := h.foes.lim
  have hrl := h.rules.lim
  have hbl := h.beats.lim
  obtain ⟨r, hr⟩ : ∃ r, checkM T = r := ⟨_, rfl⟩
  rw [hr]
  unfold checkM at hr
  have HB := hide hB
  have HL := hide hL
  clear h hB hL
  by_cases hlit : T.lits < 0 ∨ 4096 < T.lits
  · rw [if_pos hlit] at hr
    have HR := hide hr
    clear hr
    have hl2 : T.lits < 0 ∨ (0 ≤ T.lits ∧ 4096 < T.lits) := by omega
    clear hlit
    go_enter Try.func27, Try.ntmps27
    go_upto_region 1 with fail
    generalize w.alloc (.cells #[.int .i64 T.lits, .slice fa T.foes.length fc, .slice ra T.rules.length rc, .slice ba T.beats.length bc] 27) = W at *
    obtain ⟨-, c0, c1, c2, c3⟩ := Bt.of hX
    rcases hl2 with h1 | ⟨h1, h2⟩
    all_goals
      go_wp2_with fail
      go_ret2
      exact ⟨ret_dup HR.out, HB.out⟩
  · rw [if_neg hlit] at hr
    have h0 : 0 ≤ T.lits := by omega
    have h1 : T.lits ≤ 4096 := by omega
    have HS0 : Hid (Stg T 0 r) := hide ⟨fun h => by omega, fun h => by omega, fun h => by omega, hr⟩
    clear hr hlit
    go_enter Try.func27, Try.ntmps27
    go_upto_region 1 with fail
    generalize w.alloc (.cells #[.int .i64 T.lits, .slice fa T.foes.length fc, .slice ra T.rules.length rc, .slice ba T.beats.length bc] 27) = W at *
    obtain ⟨-, c0, c1, c2, c3⟩ := Bt.of hX
    have HX := hide hX
    have HBX := hide (fun (X : World) (hX : Below W.heap.size W X) => HB.out.trans (hX.mono HB.out.size))
    clear hX
    by_cases hfl2 : (T.foes.length : Int) = T.lits
    · have HLen := hide hfl2
      have hfb : ((T.foes.length : Int) != T.lits) = false := by simpa using hfl2
      clear hfl2
      go_wp2_with fail
      clear c0 c1 c2 c3 hfb
      go_loopw [4] (fun x wr => ∃ k : Nat, k ≤ T.foes.length ∧ x = .int .i64 k ∧ Hid (firstB (badFoe T) k (T.foes.drop k) = firstB (badFoe T) 0 T.foes) ∧ Hid (Below W.heap.size W wr)) (fun x _ => T.foes.length - (intOf x).toNat)
      case atStart => exact ⟨0, by omega, rfl, hide (by rw [List.drop_zero]), hide (Below.refl _ _)⟩
      case round =>
        obtain ⟨k, hk, rfl, HK, HW⟩ := hrel
        obtain ⟨-, c0, c1, c2, c3⟩ := Bt.of ((HW.out.block _ (loc_lt HX.out)).trans HX.out)
        have HLW := hide (TR.go HW.out HL.out)
        by_cases hlt : (k : Int) < T.lits
        · have hkf : k < T.foes.length := by have := HLen.out; omega
          obtain ⟨l, hl⟩ := get_at hkf
          have CF := hide (rfoes_any (ra := ra) (ba := ba) (rc := rc) (bc := bc) HLW.out.foes HLen.out hl)
          have HW2 := hide (fun (X : World) (hX : Below wr.heap.size wr X) => HW.out.trans (hX.mono HW.out.size))
          by_cases hbad : badFoe T k l = true
          · have HE : Hid ((121, (k : Int)) = r) := hide (by
              have h1 := foe_at HLen.out (HK.out.symm.trans (first_yes hl hbad))
              have h2 := orM_no HS0.out.c (by rw [h1]; exact fun e => by cases e)
              rw [← h2, h1])
            rw [hbad] at CF
            simp only [Bool.not_true] at CF
            clear HK hl hbad HS0
            go_wp2_with (go_at_call 45; refine CF.out.mono ?_; rintro _ w1 ⟨rfl, hw1⟩; have HX1 := hide (HW2.out w1 hw1); clear hw1)
            go_ret2
            exact ⟨ret_dup HE.out, HBX.out _ HX1.out⟩
          · have hbad' : badFoe T k l = false := by simpa using hbad
            have HN : Hid (firstB (badFoe T) (k + 1) (T.foes.drop (k + 1)) = firstB (badFoe T) 0 T.foes) := hide (by rw [← HK.out, first_no hl hbad'])
            rw [hbad'] at CF
            simp only [Bool.not_false] at CF
            clear HK hl hbad hbad'
            go_wp2_with (go_at_call 45; refine CF.out.mono ?_; rintro _ w1 ⟨rfl, hw1⟩; have HX1 := hide (HW2.out w1 hw1); clear hw1)
            go_roundw
            case rel => exact ⟨k + 1, by omega, by go_num, HN, HX1⟩
            case measure => simp [intOf]; omega
        · have hf0 : (foeM T).1 = 0 := foe_no HLen.out (by rw [← HK.out, drop_end (by have := HLen.out; omega)]; rfl)
          have HF := hide hf0
          have HS1 : Hid (Stg T 1 r) := hide ⟨fun _ => hf0, fun h => by omega, fun h => by omega, orM_go HS0.out.c hf0⟩
          clear HK HS0 hf0
          by_cases hr4 : 4096 < T.rules.length
          · have HE : Hid ((111, 0) = r) := hide (by
              have h1 := rule_len hr4
              have h2 := orM_no HS1.out.c (by rw [h1]; exact fun e => by cases e)
              rw [← h2, h1])
            go_wp2_with fail
            go_ret2
            exact ⟨ret_dup HE.out, HBX.out _ HW.out⟩
          · go_wp2_with fail
            clear c0 c1 c2 c3 HLW hlt hk
            go_loopw [5] (fun x wr => ∃ k : Nat, k ≤ T.rules.length ∧ x = .int .i64 k ∧ Hid (firstB (fun _ r => !okRule T.lits r) k (T.rules.drop k) = firstB (fun _ r => !okRule T.lits r) 0 T.rules) ∧ Hid (Below W.heap.size W wr)) (fun x _ => T.rules.length - (intOf x).toNat)
            case atStart => exact ⟨0, by omega, rfl, hide (by rw [List.drop_zero]), HW⟩
            case round =>
              clear HW
              obtain ⟨k, hk, rfl, HK, HW⟩ := hrel
              have hbw := (HW.out.block _ (loc_lt HX.out)).trans HX.out
              obtain ⟨-, c0, c1, c2, c3⟩ := Bt.of hbw
              have HLW := hide (TR.go HW.out HL.out)
              by_cases hlt : k < T.rules.length
              · obtain ⟨x, hx⟩ := get_at hlt
                obtain ⟨g, of, a2, d2, rfl, -, k0, k1, k2, hc2, hll, hI⟩ := at_R HLW.out.rules hx
                have HY := hide (first_yes (p := fun _ r => !okRule T.lits r) hx)
                have HNo := hide (first_no (p := fun _ r => !okRule T.lits r) hx)
                have hA := below_new wr (.cells #[.int .i64 x.kind, .int .i64 x.head, .slice a2 x.body.length d2] 70)
                have hXr := heap_alloc_new wr (.cells #[.int .i64 x.kind, .int .i64 x.head, .slice a2 x.body.length d2] 70)
                have hbw2 := (hA.block _ (loc_lt hbw)).trans hbw
                have CR := hide (rising_any (c := d2) (hI.at1.below hA) hll T.lits)
                have HA := hide (HW.out.trans (hA.mono HW.out.size))
                clear hx hI hA hbw
                go_upto_region 16 with fail
                generalize wr.alloc (.cells #[.int .i64 x.kind, .int .i64 x.head, .slice a2 x.body.length d2] 70) = W2 at *
                clear c0 c1 c2 c3 k0 k1 k2
                obtain ⟨-, c0, c1, c2, c3⟩ := Bt.of hbw2
                have r0 := cell_of_row W2 _ 0 _ _ _ hXr
                have r1 := cell_of_row W2 _ 1 _ _ _ hXr
                have r2 := cell_of_row W2 _ 2 _ _ _ hXr
                simp only [List.getElem?_toArray, List.getElem?_cons_zero, List.getElem?_cons_succ] at r0 r1 r2
                have HW3 := hide (fun (m : Nat) => HA.out.trans ((below_drewN W2 m).mono HA.out.size))
                have HBad : Hid ((!okRule T.lits x) = true → (122, (k : Int)) = r) := hide fun hb => by
                  have h1 := rule_at hr4 (HK.out.symm.trans (HY.out hb))
                  have h2 := orM_no HS1.out.c (by rw [h1]; exact fun e => by cases e)
                  rw [← h2, h1]
                clear hbw2 hXr
                have hcase : x.kind < 1 ∨ (1 ≤ x.kind ∧ 3 < x.kind) ∨ (1 ≤ x.kind ∧ x.kind ≤ 3 ∧ x.head < 0) ∨ (1 ≤ x.kind ∧ x.kind ≤ 3 ∧ 0 ≤ x.head ∧ T.lits ≤ x.head) ∨ (1 ≤ x.kind ∧ x.kind ≤ 3 ∧ 0 ≤ x.head ∧ x.head < T.lits ∧ 16 < x.body.length) ∨ (1 ≤ x.kind ∧ x.kind ≤ 3 ∧ 0 ≤ x.head ∧ x.head < T.lits ∧ x.body.length ≤ 16) := by omega
                rcases hcase with e1 | ⟨e1, e2⟩ | ⟨e1, e2, e3⟩ | ⟨e1, e2, e3, e4⟩ | ⟨e1, e2, e3, e4, e5⟩ | ⟨e1, e2, e3, e4, e5⟩
                · have HE := hide (HBad.out (okRule_no (by omega)))
                  clear HBad HY HNo HK CR
                  go_wp2_with fail
                  go_ret2
                  exact ⟨ret_dup HE.out, HBX.out _ HA.out⟩
                · have HE := hide (HBad.out (okRule_no (by omega)))
                  clear HBad HY HNo HK CR
                  go_wp2_with fail
                  go_ret2
                  exact ⟨ret_dup HE.out, HBX.out _ HA.out⟩
                · have HE := hide (HBad.out (okRule_no (by omega)))
                  clear HBad HY HNo HK CR
                  go_wp2_with fail
                  go_ret2
                  exact ⟨ret_dup HE.out, HBX.out _ HA.out⟩
                · have HE := hide (HBad.out (okRule_no (by omega)))
                  clear HBad HY HNo HK CR
                  go_wp2_with fail
                  go_ret2
                  exact ⟨ret_dup HE.out, HBX.out _ HA.out⟩
                · have HE := hide (HBad.out (okRule_no (by omega)))
                  clear HBad HY HNo HK CR
                  go_wp2_with fail
                  go_ret2
                  exact ⟨ret_dup HE.out, HBX.out _ HA.out⟩
                · by_cases hri : risesM x.body T.lits = true
                  · have HN : Hid (firstB (fun _ r => !okRule T.lits r) (k + 1) (T.rules.drop (k + 1)) = firstB (fun _ r => !okRule T.lits r) 0 T.rules) := hide (by rw [← HK.out, HNo.out (okRule_yes e1 e2 e3 e4 e5 hri)])
                    rw [hri] at CR
                    clear HBad HY HNo HK hri
                    go_wp2_with (go_at_call 46; refine CR.out.mono ?_; rintro _ w1 ⟨rfl, hd⟩; have HX1 : Hid (Below W.heap.size W w1) := hide (by obtain ⟨m, rfl⟩ := hd; exact HW3.out m); clear hd)
                    go_roundw
                    case rel => exact ⟨k + 1, by omega, by go_num, HN, HX1⟩
                    case measure => simp [intOf]; omega
                  · have hri' : risesM x.body T.lits = false := by simpa using hri
                    have HE := hide (HBad.out (okRule_no (by simp [hri'])))
                    rw [hri'] at CR
                    clear HBad HY HNo HK hri hri'
                    go_wp2_with (go_at_call 46; refine CR.out.mono ?_; rintro _ w1 ⟨rfl, hd⟩; have HX1 : Hid (Below W.heap.size W w1) := hide (by obtain ⟨m, rfl⟩ := hd; exact HW3.out m); clear hd)
                    go_ret2
                    exact ⟨ret_dup HE.out, HBX.out _ HX1.out⟩
              · have hru0 : (ruleM T).1 = 0 := rule_no hr4 (by rw [← HK.out, drop_end (by omega)]; rfl)
                have HRu := hide hru0
                have HS2 : Hid (Stg T 2 r) := hide ⟨fun _ => HF.out, fun _ => hru0, fun h => by omega, orM_go HS1.out.c hru0⟩
                have CP := hide (rpairs_any HLW.out h0 h1 HF.out hru0)
                have HW2 := hide (fun (X : World) (hX : Below wr.heap.size wr X) => HW.out.trans (hX.mono HW.out.size))
                clear HK HS1 hru0 hbw
                by_cases hpb : 65536 < pairsM T
                · have HE : Hid ((113, 0) = r) := hide (by
                    have h1 := (pr_big hpb).2
                    have h2 := orM_no HS2.out.c (by rw [h1]; exact fun e => by cases e)
                    rw [← h2, h1])
                  rw [(pr_big hpb).1] at CP
                  clear hpb HS2
                  go_wp2_with (go_at_call 35; refine CP.out.mono ?_; rintro _ w1 ⟨rfl, hw1⟩; have HX1 := hide (HW2.out w1 hw1); clear hw1)
                  go_ret2
                  exact ⟨ret_dup HE.out, HBX.out _ HX1.out⟩
                · obtain ⟨p1, p2, p3⟩ := pr_small hpb
                  have HS3 : Hid (Stg T 3 r) := hide ⟨fun _ => HF.out, fun _ => HRu.out, fun h => by omega, orM_go HS2.out.c p3⟩
                  generalize prM T = pz at *
                  clear hpb HS2 p3
                  go_upto_region 20 with (go_at_call 35; refine CP.out.mono ?_; rintro _ w1 ⟨rfl, hw1⟩; have HX1 := hide (HW2.out w1 hw1); clear hw1)
                  clear c0 c1 c2 c3 CP HW2 HW HLW hlt hk
                  obtain ⟨-, c0, c1, c2, c3⟩ := Bt.of ((HX1.out.block _ (loc_lt HX.out)).trans HX.out)
                  by_cases hbe : T.beats.length = T.rules.length
                  · have HBE := hide hbe
                    have hbb : ((T.beats.length : Int) != (T.rules.length : Int)) = false := by simp [hbe]
                    clear hbe
                    go_wp2_with fail
                    clear c0 c1 c2 c3 hbb
                    go_loopw [7] (fun x wr => ∃ k : Nat, k ≤ T.beats.length ∧ x = .int .i64 k ∧ Hid (firstB (badBeat T) k (T.beats.drop k) = firstB (badBeat T) 0 T.beats) ∧ Hid (Below W.heap.size W wr)) (fun x _ => T.beats.length - (intOf x).toNat)
                    case atStart => exact ⟨0, by omega, rfl, hide (by rw [List.drop_zero]), HX1⟩
                    case round =>
                      clear HX1
                      obtain ⟨k, hk, rfl, HK, HW⟩ := hrel
                      obtain ⟨-, c0, c1, c2, c3⟩ := Bt.of ((HW.out.block _ (loc_lt HX.out)).trans HX.out)
                      have HLW := hide (TR.go HW.out HL.out)
                      by_cases hlt : k < T.beats.length
                      · obtain ⟨l, hl⟩ := get_at hlt
                        obtain ⟨g, of, a2, d2, rfl, -, kc, hc2, hll, hI⟩ := at_L HLW.out.beats hl
                        have HI := hide hI.at1
                        have CR := hide (fun n => rising_any (w := wr.drewN n) (c := d2) hI.at1 hll (T.rules.length : Int))
                        have HY := hide (first_yes (p := badBeat T) hl)
                        have HNo := hide (first_no (p := badBeat T) hl)
                        have HW3 := hide (fun (m : Nat) => HW.out.trans ((below_drewN wr m).mono HW.out.size))
                        have HBad : Hid (badBeat T k l = true → (123, (k : Int)) = r) := hide fun hb => by
                          have h1 := beat_at HBE.out (HK.out.symm.trans (HY.out hb))
                          have h2 := orM_no HS3.out.c (by rw [h1]; exact fun e => by cases e)
                          rw [← h2, h1]
                        have HL2 := hide hl
                        clear hI hl
                        by_cases hri : risesM l T.rules.length = true
                        · rw [hri] at CR
                          have HBad2 : Hid ((l.all fun b => decide (headOf T b ∈ row T.foes (headOf T k))) = false → badBeat T k l = true) := hide fun h => by unfold badBeat; rw [h]; simp
                          have HOk2 : Hid ((l.all fun b => decide (headOf T b ∈ row T.foes (headOf T k))) = true → badBeat T k l = false) := hide fun h => by unfold badBeat; rw [h, hri]; rfl
                          have HMem : Hid (∀ z ∈ l, 0 ≤ z ∧ z < (T.rules.length : Int)) := hide fun z hz => by have := (rises_iff.1 hri).1 z hz; omega
                          have hkr : k < T.rules.length := by have := HBE.out; omega
                          clear hri HY
                          go_wp2_with fail
                          go_quiet ((go_at_call 46; exact Calls.quiet_of (CR.out _)))
                          have HWq := hide (HW3.out nq)
                          generalize wr.drewN nq = wq at *
                          clear kc c0 c1 c2 c3 HLW HW HW3 CR HI
                          go_wp2_with fail
                          obtain ⟨o, ho⟩ : ∃ o, (l.all fun b => decide (headOf T b ∈ row T.foes (headOf T k))) = o := ⟨_, rfl⟩
                          rw [ho] at HBad2 HOk2
                          go_loopw [8] (fun y ws => ∃ j : Nat, j ≤ l.length ∧ y = .int .i64 j ∧ Hid ((l.drop j).all (fun b => decide (headOf T b ∈ row T.foes (headOf T k))) = o) ∧ Hid (Below W.heap.size W ws)) (fun y _ => l.length - (intOf y).toNat)
                          case atStart => exact ⟨0, by omega, rfl, hide (by rw [List.drop_zero]; exact ho), HWq⟩
                          case round =>
                            clear HWq ho
                            obtain ⟨j, hj, rfl, HJ, HW⟩ := hrel
                            obtain ⟨-, c0, c1, c2, c3⟩ := Bt.of ((HW.out.block _ (loc_lt HX.out)).trans HX.out)
                            have HLW := hide (TR.go HW.out HL.out)
                            obtain ⟨_, _, a2, d2, e2, -, kc, hc2, -, hI⟩ := at_L HLW.out.beats HL2.out
                            cases e2
                            by_cases hlj : j < l.length
                            · obtain ⟨y, hy⟩ := get_at hlj
                              obtain ⟨g3, o3, rfl, ky⟩ := hI.at1.get hy
                              obtain ⟨y0, y1⟩ := HMem.out y (List.mem_of_getElem? hy)
                              obtain ⟨p, rfl⟩ := Int.eq_ofNat_of_zero_le y0
                              have hpr : p < T.rules.length := by omega
                              obtain ⟨x1, hx1⟩ := get_at hkr
                              obtain ⟨x2, hx2⟩ := get_at hpr
                              obtain ⟨gr, ofr, b1, d3, rfl, -, i0, i1, i2, -, -, -⟩ := at_R HLW.out.rules hx1
                              obtain ⟨_, _, b2, d4, e4, -, j0, j1, j2, -, -, -⟩ := at_R HLW.out.rules hx2
                              cases e4
                              obtain ⟨-, -, hh0, hh1, -, -⟩ := (rule_ok HRu.out).2 x1 (List.mem_of_getElem? hx1)
                              obtain ⟨m, hm⟩ := Int.eq_ofNat_of_zero_le hh0
                              have hmf : m < T.foes.length := by have := HLen.out; omega
                              obtain ⟨fl, hfl3⟩ := get_at hmf
                              obtain ⟨gf, off, a5, d5, rfl, -, kf, -, hfll, hIf⟩ := at_L HLW.out.foes hfl3
                              have HS : Hid ((l.drop j).all (fun b => decide (headOf T b ∈ row T.foes (headOf T k))) = (decide (x2.head ∈ fl) && (l.drop (j + 1)).all (fun b => decide (headOf T b ∈ row T.foes (headOf T k))))) := hide (by
                                have q1 : headOf T (k : Int) = (m : Int) := by rw [head_at (x := x1) (by simpa using hx1), hm]
                                have q2 : headOf T (p : Int) = x2.head := head_at (by simpa using hx2)
                                rw [all_step hy, q1, q2, row_get hfl3])
                              have CH := hide (fun n => rin_any (w := wr.drewN n) (c := d5) hIf.at1 hfll x2.head)
                              have HW3 := hide (fun (m : Nat) => HW.out.trans ((below_drewN wr m).mono HW.out.size))
                              rw [hm] at i1
                              clear hy hx1 hx2 hfl3 hI hIf y0 y1 hh0 hh1 hm i0 i2 j0 j2
                              by_cases hin : x2.head ∈ fl
                              · have HN : Hid ((l.drop (j + 1)).all (fun b => decide (headOf T b ∈ row T.foes (headOf T k))) = o) := hide (by have := HJ.out; rw [HS.out, decide_eq_true hin, Bool.true_and] at this; exact this)
                                rw [decide_eq_true hin] at CH
                                clear HJ HS hin HLW
                                go_wp2_with fail
                                go_quiet ((go_at_call 47; exact Calls.quiet_of_same (CH.out _)))
                                go_wp2_with fail
                                go_roundw
                                case rel => exact ⟨j + 1, by omega, by go_num, HN, hide (HW3.out _)⟩
                                case measure => simp [intOf]; omega
                              · have HN : Hid (o = false) := hide (by have := HJ.out; rw [HS.out, decide_eq_false hin, Bool.false_and] at this; exact this.symm)
                                have HE := hide (HBad.out (HBad2.out HN.out))
                                rw [decide_eq_false hin] at CH
                                clear HJ HS hin HLW HN HBad HBad2 HOk2 HK HNo
                                go_wp2_with fail
                                go_quiet ((go_at_call 47; exact Calls.quiet_of_same (CH.out _)))
                                go_wp2_with fail
                                go_ret2
                                exact ⟨ret_dup HE.out, HBX.out _ (HW3.out _)⟩
                            · have HN : Hid (o = true) := hide (by have := HJ.out; rw [drop_end (by omega)] at this; exact this.symm)
                              have HK2 : Hid (firstB (badBeat T) (k + 1) (T.beats.drop (k + 1)) = firstB (badBeat T) 0 T.beats) := hide (by rw [← HK.out, HNo.out (HOk2.out HN.out)])
                              clear HJ HN HBad HBad2 HOk2 HK HNo hI HLW
                              go_wp2_with fail
                              go_roundw
                              case rel => exact ⟨k + 1, by omega, by go_num, HK2, HW⟩
                              case measure => simp [intOf]; omega
                        · have hri' : risesM l T.rules.length = false := by simpa using hri
                          have HE := hide (HBad.out (by unfold badBeat; rw [hri']; simp))
                          rw [hri'] at CR
                          clear hri hri' HBad HK HY HNo HLW
                          go_wp2_with fail
                          go_quiet ((go_at_call 46; exact Calls.quiet_of (CR.out _)))
                          go_wp2_with fail
                          go_ret2
                          exact ⟨ret_dup HE.out, HBX.out _ (HW3.out _)⟩
                      · have hb0 : (beatM T).1 = 0 := beat_no HBE.out (by rw [← HK.out, drop_end (by omega)]; rfl)
                        have HBt := hide hb0
                        have HS4 : Hid (circleM T = r) := hide (orM_go HS3.out.c hb0)
                        have HIn := hide (beats_in hb0)
                        have hb4 : T.beats.length ≤ 4096 := by have := HBE.out; omega
                        clear HK HS3 hb0 HLW
                        go_wp2_with fail
                        clear c0 c1 c2 c3
                        go_loopw [9] (fun x wr => ∃ k : Nat, k ≤ T.beats.length ∧ x = .int .i64 k ∧ Hid (∀ q : Nat, q < k → ¬ Back T.beats q) ∧ Hid (Below W.heap.size W wr)) (fun x _ => T.beats.length - (intOf x).toNat)
                        case atStart => exact ⟨0, by omega, rfl, hide (fun q hq => by omega), HW⟩
                        case round =>
                          clear HW hlt hk
                          obtain ⟨k, hk, rfl, HK, HW⟩ := hrel
                          obtain ⟨-, c0, c1, c2, c3⟩ := Bt.of ((HW.out.block _ (loc_lt HX.out)).trans HX.out)
                          have HLW := hide (TR.go HW.out HL.out)
                          by_cases hlt : k < T.beats.length
                          · obtain ⟨l, hl⟩ := get_at hlt
                            obtain ⟨g, of, a2, d2, rfl, -, kc, hc2, hll, hI⟩ := at_L HLW.out.beats hl
                            have CB := hide (back_any HLW.out.beats hb4 HIn.out hlt)
                            have HW2 := hide (fun (X : World) (hX : Below wr.heap.size wr X) => HW.out.trans (hX.mono HW.out.size))
                            have HRow := hide (row_get hl)
                            clear hI hl HLW
                            by_cases hl0 : 0 < l.length
                            · by_cases hbk : Back T.beats k
                              · have CB2 : Hid (Calls Try.prog 48 #[.slice (some ⟨g, of, none⟩) T.beats.length bc, .int .i64 k] wr fun e w' => e = .returned (.bool true) ∧ Below wr.heap.size wr w') := hide (CB.out.mono fun e w' ⟨⟨b, h1, h2⟩, h3⟩ => ⟨by rw [h1, h2.2 hbk], h3⟩)
                                have HE : Hid ((131, (k : Int)) = r) := hide (by rw [← HS4.out, circ_yes HF.out HRu.out HBt.out hlt hbk HK.out])
                                clear CB hbk HK HS4
                                go_wp2_with (go_at_call 48; refine CB2.out.mono ?_; rintro _ w1 ⟨rfl, hw1⟩; have HX1 := hide (HW2.out w1 hw1); clear hw1)
                                go_ret2
                                exact ⟨ret_dup HE.out, HBX.out _ HX1.out⟩
                              · have CB2 : Hid (Calls Try.prog 48 #[.slice (some ⟨g, of, none⟩) T.beats.length bc, .int .i64 k] wr fun e w' => e = .returned (.bool false) ∧ Below wr.heap.size wr w') := hide (CB.out.mono fun e w' ⟨⟨b, h1, h2⟩, h3⟩ => ⟨by rw [h1, Bool.eq_false_iff.2 fun e => hbk (h2.1 e)], h3⟩)
                                have HN : Hid (∀ q : Nat, q < k + 1 → ¬ Back T.beats q) := hide fun q hq => by
                                  by_cases e : q = k
                                  · subst e; exact hbk
                                  · exact HK.out q (by omega)
                                clear CB hbk HK
                                go_wp2_with (go_at_call 48; refine CB2.out.mono ?_; rintro _ w1 ⟨rfl, hw1⟩; have HX1 := hide (HW2.out w1 hw1); clear hw1)
                                go_roundw
                                case rel => exact ⟨k + 1, by omega, by go_num, HN, HX1⟩
                                case measure => simp [intOf]; omega
                            · have hl1 : l = [] := List.eq_nil_of_length_eq_zero (by omega)
                              have HN : Hid (∀ q : Nat, q < k + 1 → ¬ Back T.beats q) := hide fun q hq => by
                                by_cases e : q = k
                                · subst e
                                  rintro ⟨z, hz, _⟩
                                  rw [HRow.out, hl1] at hz
                                  cases hz
                                · exact HK.out q (by omega)
                              clear CB HK hl1
                              go_wp2_with fail
                              go_roundw
                              case rel => exact ⟨k + 1, by omega, by go_num, HN, HW⟩
                              case measure => simp [intOf]; omega
                          · have HE : Hid ((0, 0) = r) := hide (by rw [← HS4.out, circ_no HF.out HRu.out HBt.out fun q hq => HK.out q (by omega)])
                            clear HK HS4
                            go_wp2_with fail
                            go_ret2
                            exact ⟨ret_dup HE.out, HBX.out _ HW.out⟩
                  · have HE : Hid ((123, 0) = r) := hide (by
                      have h1 := beat_len hbe
                      have h2 := orM_no HS3.out.c (by rw [h1]; exact fun e => by cases e)
                      rw [← h2, h1])
                    have hbb : ((T.beats.length : Int) != (T.rules.length : Int)) = true := by rw [bne_iff_ne]; omega
                    clear HS3 hbe
                    go_wp2_with fail
                    go_ret2
                    exact ⟨ret_dup HE.out, HBX.out _ HX1.out⟩
    · have HE : Hid ((121, 0) = r) := hide (by
        have h1 := foe_len hfl2
        have h2 := orM_no HS0.out.c (by rw [h1]; exact fun e => by cases e)
        rw [← h2, h1])
      have hfb : ((T.foes.length : Int) != T.lits) = true := by simpa using hfl2
      clear HS0 hfl2
      go_wp2_with fail
      go_ret2
      exact ⟨ret_dup HE.out, HB.out⟩
end Go.Proofs.Ytdmnoeooljofcaa.Rf
