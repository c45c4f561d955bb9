/- The document's answer, layer 15: plusd. -/
import Derived.Test.YtcobmbclhhimjaaGreatRg1
import Derived.Test.YtcobmbclhhimjaaGreatLast
namespace Go.Proofs.YtcobmbclhhimjaaGreat.Rf
open Go.RowKit
section
variable {K n : Nat} {A : Wa} {T : Th} {F m : List Int} {ma : Option Addr} {mc : Nat} {w w' : World}
theorem or_step {p : Int → Bool} {l : List Int} {k : Nat} {x : Int} {b o : Bool} (hx : l[k]? = some x) (h : (b || (l.drop k).any p) = o) : ((b || p x) || (l.drop (k + 1)).any p) = o := by
  rw [any_step hx] at h
  rw [← h, Bool.or_assoc]
theorem and_step {p : Int → Bool} {l : List Int} {k : Nat} {x : Int} {b o : Bool} (hx : l[k]? = some x) (h : (b && (l.drop k).all p) = o) : ((b && p x) && (l.drop (k + 1)).all p) = o := by
  rw [all_step hx] at h
  rw [← h, Bool.and_assoc]
set_option maxRecDepth 100000 in
set_option maxHeartbeats 25600000 in
theorem plusd_any (h : Wd K A T F n w) (hm : At1 w ma (u8s m)) (hml : m.length = n) {q : Nat} (hq : q < n) :
    Calls Tryz.prog 57 #[ptr K, .slice ma n mc, .int .i64 q] w fun e w' => e = .returned (.bool (plusD T m q)) ∧ ∃ d, w' = w.drewN d := by
  have HH := hide h
  have HM := hide hm
  have HML := hide hml
  have hn4 := h.pf.n4
  have CB := hide fun W : World => rbit_any (w := W) (t := 1) (.inl rfl)
  obtain ⟨g2, o2, rfl, cm⟩ := hm q _ (u8s_at (by rw [hml]; exact hq))
  obtain ⟨o, ho⟩ : ∃ o, plusD T m (q : Int) = o := ⟨_, rfl⟩
  rw [ho]
  unfold plusD at ho
  rw [any_rules] at ho
  have HZ := hide ho
  have hbit : bitM 1 = 1 := rfl
  rw [hbit] at CB
  clear h hm hml ho hbit
  go_enter Tryz.func57, Tryz.ntmps57
  cases hh : hs m (q : Int) 1 with
  | true =>
    have HN : Hid (true = o) := hide (by rw [← HZ.out, hh]; rfl)
    have hz : (bits .and .u8 (m.getD q 0) 1 != 0) = true := by have := hs_yes2 hh; rwa [Int.toNat_natCast] at this
    generalize m.getD q 0 = z at *
    clear HZ hh
    go_upto_region 1 with fail
    go_quiet ((go_at_call 45; exact Calls.quiet_of_same (CB.out _)))
    go_wp2_with fail
    go_ret
    exact ⟨ret_bool HN.out, _, rfl⟩
  | false =>
  have hz : (bits .and .u8 (m.getD q 0) 1 != 0) = false := by have := hs_no2 hh; rwa [Int.toNat_natCast] at this
  generalize m.getD q 0 = zb at *
  obtain ⟨o1, ho1⟩ : ∃ o1, ((rulesL T kA (q : Int)).any fun r => pAt T kT r && wholeB T m r 3) = o1 := ⟨_, rfl⟩
  have HO1 : Hid ((false || ((rulesL T kA (q : Int)).drop 0).any (fun r => pAt T kT r && wholeB T m r 3)) = o1) := hide (by rw [List.drop_zero]; exact ho1)
  have HZ1 : Hid ((o1 && ((row T.foes (q : Int)).all fun f => hs m f 2) && (row T.foes (q : Int)).all fun f => (rulesL T kA f).all fun s => atkP T m q s) = o) := hide (by rw [← HZ.out, hh, ← ho1]; rfl)
  clear HZ hh ho1
  go_upto_region 1 with fail
  go_quiet ((go_at_call 45; exact Calls.quiet_of_same (CB.out _)))
  have HD0 : Hid (∃ d, w.drewN nq = w.drewN d) := hide ⟨_, rfl⟩
  generalize w.drewN nq = wq at *
  clear cm hz CB
  go_wp2_with fail
  go_loopw [7, 8] (fun y x wr => ∃ (k : Nat) (b : Bool), k ≤ (rulesL T kA (q : Int)).length ∧ x = .int .i64 k ∧ y = .bool b ∧ Hid (∃ d, wr = w.drewN d) ∧ Hid ((b || ((rulesL T kA (q : Int)).drop k).any (fun r => pAt T kT r && wholeB T m r 3)) = o1)) (fun _ x _ => (rulesL T kA (q : Int)).length - (intOf x).toNat)
  case atStart => exact ⟨0, false, by omega, rfl, rfl, HD0, HO1⟩
  case round =>
    clear HO1 HD0
    obtain ⟨k, b, hk, rfl, rfl, HD, HK⟩ := hrel
    have HD2 := hide (quiet_more HD.out)
    have HW := hide (HH.out.go (quiet_below HD.out))
    have k5 := HW.out.bx.get (i := 5) rfl
    obtain ⟨g, of, a2, d2, e, kc, hll, hI⟩ := HW.out.rules hq
    rw [e] at k5
    by_cases hlt : k < (rulesL T kA (q : Int)).length
    · obtain ⟨x, hx⟩ := get_at hlt
      obtain ⟨g3, o3, rfl, kx⟩ := hI.get hx
      obtain ⟨s, rfl, hsr⟩ := rules_mem (List.mem_of_getElem? hx)
      have CS := hide fun d : Nat => support_any (HW.out.drewN d) hsr
      obtain ⟨gr, ofr, a3, d3, er, -, kb, hbl, hB, hBin⟩ := HW.out.rule hsr
      have k2 := HW.out.bx.get (i := 2) rfl
      rw [er] at k2
      have hrl := HW.out.ta.rules.lim
      have CA := hide fun d : Nat => rall_any (w := wr.drewN d) (mc := mc) (c := d3) (HM.out.below (quiet_below (HD2.out d))) HML.out (hB.below (below_drewN wr d)) hbl hBin (t := 3) (.inr (.inr (.inl rfl)))
      rw [show ((bodyM T s).all fun x => hs m x 3) = wholeB T m s 3 from rfl] at CA
      have HC := hide (or_step hx HK.out)
      clear hx HK hI hB hBin
      cases b with
      | true =>
        have HN : Hid ((true || ((rulesL T kA (q : Int)).drop (k + 1)).any (fun r => pAt T kT r && wholeB T m r 3)) = o1) := hide (by have := HC.out; simpa using this)
        clear HC CS CA
        go_wp2_with fail
        go_quiet (fail)
        go_wp2_with fail
        go_roundw
        case rel => exact ⟨k + 1, true, by omega, by go_num, rfl, hide (HD2.out _), HN⟩
        case measure => simp [intOf]; omega
      | false =>
        cases h1 : pAt T kT s with
        | false =>
          have HN : Hid ((false || ((rulesL T kA (q : Int)).drop (k + 1)).any (fun r => pAt T kT r && wholeB T m r 3)) = o1) := hide (by have := HC.out; simp only [h1] at this; exact this)
          rw [h1] at CS
          clear HC CA h1
          go_wp2_with fail
          go_quiet ((go_at_call 85; exact Calls.quiet_of_same (CS.out _)))
          go_wp2_with fail
          go_roundw
          case rel => exact ⟨k + 1, false, by omega, by go_num, rfl, hide (HD2.out _), HN⟩
          case measure => simp [intOf]; omega
        | true =>
          obtain ⟨b2, h2⟩ : ∃ b2, wholeB T m s 3 = b2 := ⟨_, rfl⟩
          have HN : Hid ((b2 || ((rulesL T kA (q : Int)).drop (k + 1)).any (fun r => pAt T kT r && wholeB T m r 3)) = o1) := hide (by have := HC.out; simp only [h1, h2] at this; exact this)
          rw [h1] at CS
          rw [h2] at CA
          clear HC h1 h2
          go_wp2_with fail
          go_quiet (first
            | (go_at_call 85; exact Calls.quiet_of_same (CS.out _))
            | (go_at_call 83; exact Calls.quiet_of (CA.out _)))
          go_wp2_with fail
          go_roundw
          case rel => exact ⟨k + 1, b2, by omega, by go_num, rfl, hide (HD2.out _), HN⟩
          case measure => simp [intOf]; omega
    · have HN : Hid (b = o1) := hide (by have := HK.out; rw [drop_end (by omega)] at this; simpa using this)
      obtain ⟨gf, off, a4, d4, ef, kf, hfl, hF, hqf⟩ := HW.out.foes hq
      have k1 := HW.out.bx.get (i := 1) rfl
      rw [ef] at k1
      have hfl2 := HW.out.ta.foes.lim
      have CA := hide (rall_any (mc := mc) (c := d4) (HM.out.below (quiet_below HD.out)) HML.out hF hfl (HH.out.pf.foe q hq) (t := 2) (.inr (.inl rfl)))
      obtain ⟨A2, hA2⟩ : ∃ A2, ((row T.foes (q : Int)).all fun f => hs m f 2) = A2 := ⟨_, rfl⟩
      rw [hA2] at CA HZ1
      clear HK hI hF hA2
      cases b with
      | false =>
        have HE : Hid (false = o) := hide (by rw [← HZ1.out, ← HN.out]; rfl)
        clear HN HZ1 CA
        go_wp2_with fail
        go_ret
        exact ⟨ret_bool HE.out, HD.out⟩
      | true =>
        cases A2 with
        | false =>
          have HE : Hid (false = o) := hide (by rw [← HZ1.out, ← HN.out]; rfl)
          clear HN HZ1
          go_wp2_with (go_at_call 83; refine CA.out.mono ?_; rintro _ w1 ⟨rfl, hd⟩; have HD3 : Hid (∃ d, w1 = w.drewN d) := hide (by obtain ⟨d, rfl⟩ := hd; exact HD2.out d); clear hd)
          go_ret
          exact ⟨ret_bool HE.out, HD3.out⟩
        | true =>
          have HO2 : Hid (((row T.foes (q : Int)).drop 0).all (fun f => (rulesL T kA f).all fun s => atkP T m q s) = o) := hide (by rw [List.drop_zero, ← HZ1.out, ← HN.out]; rfl)
          clear HN HZ1
          go_wp2_with (go_at_call 83; refine CA.out.mono ?_; rintro _ w1 ⟨rfl, hd⟩; have HD3 : Hid (∃ d, w1 = w.drewN d) := hide (by obtain ⟨d, rfl⟩ := hd; exact HD2.out d); clear hd)
          clear k5 kc k1 kf CA HD HD2 HW hlt hk
          go_loopw [9] (fun x wr => ∃ k : Nat, k ≤ (row T.foes (q : Int)).length ∧ x = .int .i64 k ∧ Hid (∃ d, wr = w.drewN d) ∧ Hid (((row T.foes (q : Int)).drop k).all (fun f => (rulesL T kA f).all fun s => atkP T m q s) = o)) (fun x _ => (row T.foes (q : Int)).length - (intOf x).toNat)
          case atStart => exact ⟨0, by omega, rfl, HD3, HO2⟩
          case round =>
            clear HO2 HD3
            obtain ⟨k, hk, rfl, HD, HK⟩ := hrel
            have HD2 := hide (quiet_more HD.out)
            have HW := hide (HH.out.go (quiet_below HD.out))
            obtain ⟨_, _, a4, d4, ef, kf, -, hF, -⟩ := HW.out.foes hq
            have k1 := HW.out.bx.get (i := 1) rfl
            rw [ef] at k1
            by_cases hlt : k < (row T.foes (q : Int)).length
            · obtain ⟨f, hf⟩ := get_at hlt
              obtain ⟨g5, o5, rfl, kx⟩ := hF.get hf
              obtain ⟨f0, f1⟩ := HH.out.pf.foe q hq f (List.mem_of_getElem? hf)
              obtain ⟨p, rfl⟩ := Int.eq_ofNat_of_zero_le f0
              have hpn : p < n := by omega
              have k5 := HW.out.bx.get (i := 5) rfl
              obtain ⟨g, of, a6, d6, e, kc, hll, hI⟩ := HW.out.rules hpn
              rw [e] at k5
              have HI := hide hI
              obtain ⟨rest, hrest⟩ : ∃ rest, ((row T.foes (q : Int)).drop (k + 1)).all (fun f => (rulesL T kA f).all fun s => atkP T m q s) = rest := ⟨_, rfl⟩
              have HO3 : Hid ((((rulesL T kA (p : Int)).drop 0).all (atkP T m q) && rest) = o) := hide (by have := HK.out; rw [all_step hf, hrest] at this; rw [List.drop_zero]; exact this)
              have HRest := hide hrest
              clear hf HK hI hF f0 f1 hrest
              go_wp2_with fail
              go_quiet (fail)
              have HD3 := hide (HD2.out nq)
              have HI2 : Hid (At1 (wr.drewN nq) a6 (ints (rulesL T kA (p : Int)))) := hide (HI.out.below (below_drewN wr nq))
              generalize wr.drewN nq = wq2 at *
              clear k5 kc k1 kf kx HD HD2 HW HI
              go_wp2_with fail
              have HDq := hide HD3.out
              go_loopw [11] (fun x wr => ∃ j : Nat, j ≤ (rulesL T kA (p : Int)).length ∧ x = .int .i64 j ∧ Hid (∃ d, wr = w.drewN d) ∧ Hid ((((rulesL T kA (p : Int)).drop j).all (atkP T m q) && rest) = o)) (fun x _ => (rulesL T kA (p : Int)).length - (intOf x).toNat)
              case atStart => exact ⟨0, by omega, rfl, HD3, HO3⟩
              case round =>
                clear HO3 HD3
                obtain ⟨j, hj, rfl, HD, HJ⟩ := hrel
                have HD2 := hide (quiet_more HD.out)
                have HW := hide (HH.out.go (quiet_below HD.out))
                have hI := HI2.out.below (below_q HDq.out HD.out)
                by_cases hlj : j < (rulesL T kA (p : Int)).length
                · obtain ⟨x, hx⟩ := get_at hlj
                  obtain ⟨g3, o3, rfl, kx⟩ := hI.get hx
                  obtain ⟨s, rfl, hsr⟩ := rules_mem (List.mem_of_getElem? hx)
                  obtain ⟨gr, ofr, a3, d3, er, -, kb, hbl, hB, hBin⟩ := HW.out.rule hsr
                  have k2 := HW.out.bx.get (i := 2) rfl
                  rw [er] at k2
                  have hrl := HW.out.ta.rules.lim
                  have CA := hide fun d : Nat => rany_any (w := wr.drewN d) (mc := mc) (c := d3) (HM.out.below (quiet_below (HD2.out d))) HML.out (hB.below (below_drewN wr d)) hbl hBin (t := 4) (.inr (.inr (.inr rfl)))
                  rw [show ((bodyM T s).any fun x => hs m x 4) = partB T m s 4 from rfl] at CA
                  have CT := hide fun d : Nat => beaten_any (w := wr.drewN d) (mc := mc) (HW.out.drewN d) (HM.out.below (quiet_below (HD2.out d))) HML.out hq (z := s)
                  have HC := hide HJ.out
                  rw [all_step hx] at HC
                  clear hx HJ hI hB hBin
                  obtain ⟨b2, h2⟩ : ∃ b2, ((rulesL T kT (q : Int)).any fun t => beatB T t s && wholeB T m t 3) = b2 := ⟨_, rfl⟩
                  rw [h2] at CT
                  cases h1 : partB T m s 4 with
                  | true =>
                    have HN : Hid ((((rulesL T kA (p : Int)).drop (j + 1)).all (atkP T m q) && rest) = o) := hide (by have := HC.out; rw [show atkP T m q s = true by unfold atkP; rw [h1]; rfl] at this; simpa using this)
                    rw [h1] at CA
                    clear HC CT h1 h2
                    go_wp2_with fail
                    go_quiet ((go_at_call 84; exact Calls.quiet_of (CA.out _)))
                    go_wp2_with fail
                    go_roundw
                    case rel => exact ⟨j + 1, by omega, by go_num, hide (HD2.out _), HN⟩
                    case measure => simp [intOf]; omega
                  | false =>
                    cases b2 with
                    | true =>
                      have HN : Hid ((((rulesL T kA (p : Int)).drop (j + 1)).all (atkP T m q) && rest) = o) := hide (by have := HC.out; rw [show atkP T m q s = true by unfold atkP; rw [h1, h2]; rfl] at this; simpa using this)
                      rw [h1] at CA
                      clear HC h1 h2
                      go_wp2_with fail
                      go_quiet (first
                        | (go_at_call 84; exact Calls.quiet_of (CA.out _))
                        | (go_at_call 86; exact Calls.quiet_of (CT.out _)))
                      go_wp2_with fail
                      go_roundw
                      case rel => exact ⟨j + 1, by omega, by go_num, hide (HD2.out _), HN⟩
                      case measure => simp [intOf]; omega
                    | false =>
                      have HN : Hid (false = o) := hide (by have := HC.out; rw [show atkP T m q s = false by unfold atkP; rw [h1, h2]; rfl] at this; simpa using this)
                      rw [h1] at CA
                      clear HC h1 h2
                      go_wp2_with fail
                      go_quiet (first
                        | (go_at_call 84; exact Calls.quiet_of (CA.out _))
                        | (go_at_call 86; exact Calls.quiet_of (CT.out _)))
                      go_wp2_with fail
                      go_ret
                      exact ⟨ret_bool HN.out, HD2.out _⟩
                · have HN : Hid (((row T.foes (q : Int)).drop (k + 1)).all (fun f => (rulesL T kA f).all fun s => atkP T m q s) = o) := hide (by have := HJ.out; rw [drop_end (by omega)] at this; rw [HRest.out]; exact this)
                  clear HJ hI
                  go_wp2_with fail
                  go_roundw
                  case rel => exact ⟨k + 1, by omega, by go_num, HD, HN⟩
                  case measure => simp [intOf]; omega
            · have HN : Hid (true = o) := hide (by have := HK.out; rw [drop_end (by omega)] at this; exact this)
              clear HK hF
              go_wp2_with fail
              go_ret
              exact ⟨ret_bool HN.out, HD.out⟩
end
end Go.Proofs.YtcobmbclhhimjaaGreat.Rf
/- The document's answer, layer 15: minusd, Holds. -/
namespace Go.Proofs.YtcobmbclhhimjaaGreat.Rf
open Go.RowKit
section
variable {K n : Nat} {A : Wa} {T : Th} {F m : List Int} {ma : Option Addr} {mc : Nat} {w w' : World}
set_option maxRecDepth 100000 in
set_option maxHeartbeats 25600000 in
theorem minusd_any (h : Wd K A T F n w) (hm : At1 w ma (u8s m)) (hml : m.length = n) {q : Nat} (hq : q < n) :
    Calls Tryz.prog 58 #[ptr K, .slice ma n mc, .int .i64 q] w fun e w' => e = .returned (.bool (minusD T m q)) ∧ ∃ d, w' = w.drewN d := by
  have HH := hide h
  have HM := hide hm
  have HML := hide hml
  have hn4 := h.pf.n4
  have CB := hide fun W : World => rbit_any (w := W) (t := 2) (.inr (.inl rfl))
  obtain ⟨g2, o2, rfl, cm⟩ := hm q _ (u8s_at (by rw [hml]; exact hq))
  obtain ⟨o, ho⟩ : ∃ o, minusD T m (q : Int) = o := ⟨_, rfl⟩
  rw [ho]
  unfold minusD at ho
  rw [all_rules] at ho
  have HZ := hide ho
  have hbit : bitM 2 = 2 := rfl
  rw [hbit] at CB
  clear h hm hml ho hbit
  go_enter Tryz.func58, Tryz.ntmps58
  cases hh : hs m (q : Int) 2 with
  | false =>
    have HN : Hid (false = o) := hide (by rw [← HZ.out, hh]; rfl)
    have hz : (bits .and .u8 (m.getD q 0) 2 == 0) = true := by have := hs_no hh; rwa [Int.toNat_natCast] at this
    generalize m.getD q 0 = z at *
    clear HZ hh
    go_upto_region 1 with fail
    go_quiet ((go_at_call 45; exact Calls.quiet_of_same (CB.out _)))
    go_wp2_with fail
    go_ret
    exact ⟨ret_bool HN.out, _, rfl⟩
  | true =>
  have hz : (bits .and .u8 (m.getD q 0) 2 == 0) = false := by have := hs_yes hh; rwa [Int.toNat_natCast] at this
  generalize m.getD q 0 = zb at *
  obtain ⟨o1, ho1⟩ : ∃ o1, ((rulesL T kA (q : Int)).all fun r => !pAt T kT r || partB T m r 4) = o1 := ⟨_, rfl⟩
  have HO1 : Hid ((true && ((rulesL T kA (q : Int)).drop 0).all (fun r => !pAt T kT r || partB T m r 4)) = o1) := hide (by rw [List.drop_zero]; exact ho1)
  have HZ1 : Hid ((o1 || ((row T.foes (q : Int)).any fun f => hs m f 1) || (row T.foes (q : Int)).any fun f => (rulesL T kA f).any fun s => atkM T m q s) = o) := hide (by rw [← HZ.out, hh, ← ho1]; rfl)
  clear HZ hh ho1
  go_upto_region 1 with fail
  go_quiet ((go_at_call 45; exact Calls.quiet_of_same (CB.out _)))
  have HD0 : Hid (∃ d, w.drewN nq = w.drewN d) := hide ⟨_, rfl⟩
  generalize w.drewN nq = wq at *
  clear cm hz CB
  go_wp2_with fail
  go_loopw [7, 8] (fun y x wr => ∃ (k : Nat) (b : Bool), k ≤ (rulesL T kA (q : Int)).length ∧ x = .int .i64 k ∧ y = .bool b ∧ Hid (∃ d, wr = w.drewN d) ∧ Hid ((b && ((rulesL T kA (q : Int)).drop k).all (fun r => !pAt T kT r || partB T m r 4)) = o1)) (fun _ x _ => (rulesL T kA (q : Int)).length - (intOf x).toNat)
  case atStart => exact ⟨0, true, by omega, rfl, rfl, HD0, HO1⟩
  case round =>
    clear HO1 HD0
    obtain ⟨k, b, hk, rfl, rfl, HD, HK⟩ := hrel
    have HD2 := hide (quiet_more HD.out)
    have HW := hide (HH.out.go (quiet_below HD.out))
    have k5 := HW.out.bx.get (i := 5) rfl
    obtain ⟨g, of, a2, d2, e, kc, hll, hI⟩ := HW.out.rules hq
    rw [e] at k5
    by_cases hlt : k < (rulesL T kA (q : Int)).length
    · obtain ⟨x, hx⟩ := get_at hlt
      obtain ⟨g3, o3, rfl, kx⟩ := hI.get hx
      obtain ⟨s, rfl, hsr⟩ := rules_mem (List.mem_of_getElem? hx)
      have CS := hide (support_any HW.out hsr)
      obtain ⟨gr, ofr, a3, d3, er, -, kb, hbl, hB, hBin⟩ := HW.out.rule hsr
      have k2 := HW.out.bx.get (i := 2) rfl
      rw [er] at k2
      have hrl := HW.out.ta.rules.lim
      have CA := hide (rany_any (mc := mc) (c := d3) (HM.out.below (quiet_below HD.out)) HML.out hB hbl hBin (t := 4) (.inr (.inr (.inr rfl))))
      rw [show ((bodyM T s).any fun x => hs m x 4) = partB T m s 4 from rfl] at CA
      have HC := hide (and_step hx HK.out)
      clear hx HK hI hB hBin
      cases b with
      | false =>
        have HN : Hid ((false && ((rulesL T kA (q : Int)).drop (k + 1)).all (fun r => !pAt T kT r || partB T m r 4)) = o1) := hide (by have := HC.out; simpa using this)
        clear HC CS CA
        go_wp2_with fail
        go_roundw
        case rel => exact ⟨k + 1, false, by omega, by go_num, rfl, HD, HN⟩
        case measure => simp [intOf]; omega
      | true =>
        cases h1 : pAt T kT s with
        | false =>
          have HN : Hid ((true && ((rulesL T kA (q : Int)).drop (k + 1)).all (fun r => !pAt T kT r || partB T m r 4)) = o1) := hide (by have := HC.out; simp only [h1] at this; exact this)
          rw [h1] at CS
          clear HC CA h1
          go_wp2_with (go_at_call 85; refine CS.out.mono ?_; rintro _ w1 ⟨rfl, hw⟩; subst w1)
          go_roundw
          case rel => exact ⟨k + 1, true, by omega, by go_num, rfl, HD, HN⟩
          case measure => simp [intOf]; omega
        | true =>
          obtain ⟨b2, h2⟩ : ∃ b2, partB T m s 4 = b2 := ⟨_, rfl⟩
          have HN : Hid ((b2 && ((rulesL T kA (q : Int)).drop (k + 1)).all (fun r => !pAt T kT r || partB T m r 4)) = o1) := hide (by have := HC.out; simp only [h1, h2] at this; exact this)
          rw [h1] at CS
          rw [h2] at CA
          clear HC h1 h2
          go_wp2_with (first
            | (go_at_call 85; refine CS.out.mono ?_; rintro _ w1 ⟨rfl, hw⟩; subst w1)
            | (go_at_call 84; refine CA.out.mono ?_; rintro _ w1 ⟨rfl, hd⟩; have HD3 : Hid (∃ d, w1 = w.drewN d) := hide (by obtain ⟨d, rfl⟩ := hd; exact HD2.out d); clear hd))
          go_roundw
          case rel => exact ⟨k + 1, b2, by omega, by go_num, rfl, HD3, HN⟩
          case measure => simp [intOf]; omega
    · have HN : Hid (b = o1) := hide (by have := HK.out; rw [drop_end (by omega)] at this; simpa using this)
      obtain ⟨gf, off, a4, d4, ef, kf, hfl, hF, hqf⟩ := HW.out.foes hq
      have k1 := HW.out.bx.get (i := 1) rfl
      rw [ef] at k1
      have hfl2 := HW.out.ta.foes.lim
      have CA := hide (rany_any (mc := mc) (c := d4) (HM.out.below (quiet_below HD.out)) HML.out hF hfl (HH.out.pf.foe q hq) (t := 1) (.inl rfl))
      obtain ⟨A2, hA2⟩ : ∃ A2, ((row T.foes (q : Int)).any fun f => hs m f 1) = A2 := ⟨_, rfl⟩
      rw [hA2] at CA HZ1
      clear HK hI hF hA2
      cases b with
      | true =>
        have HE : Hid (true = o) := hide (by rw [← HZ1.out, ← HN.out]; rfl)
        clear HN HZ1 CA
        go_wp2_with fail
        go_ret
        exact ⟨ret_bool HE.out, HD.out⟩
      | false =>
        cases A2 with
        | true =>
          have HE : Hid (true = o) := hide (by rw [← HZ1.out, ← HN.out]; rfl)
          clear HN HZ1
          go_wp2_with (go_at_call 84; refine CA.out.mono ?_; rintro _ w1 ⟨rfl, hd⟩; have HD3 : Hid (∃ d, w1 = w.drewN d) := hide (by obtain ⟨d, rfl⟩ := hd; exact HD2.out d); clear hd)
          go_ret
          exact ⟨ret_bool HE.out, HD3.out⟩
        | false =>
          have HO2 : Hid (((row T.foes (q : Int)).drop 0).any (fun f => (rulesL T kA f).any fun s => atkM T m q s) = o) := hide (by rw [List.drop_zero, ← HZ1.out, ← HN.out]; rfl)
          clear HN HZ1
          go_wp2_with (go_at_call 84; refine CA.out.mono ?_; rintro _ w1 ⟨rfl, hd⟩; have HD3 : Hid (∃ d, w1 = w.drewN d) := hide (by obtain ⟨d, rfl⟩ := hd; exact HD2.out d); clear hd)
          clear k5 kc k1 kf CA HD HD2 HW hlt hk
          go_loopw [10] (fun x wr => ∃ k : Nat, k ≤ (row T.foes (q : Int)).length ∧ x = .int .i64 k ∧ Hid (∃ d, wr = w.drewN d) ∧ Hid (((row T.foes (q : Int)).drop k).any (fun f => (rulesL T kA f).any fun s => atkM T m q s) = o)) (fun x _ => (row T.foes (q : Int)).length - (intOf x).toNat)
          case atStart => exact ⟨0, by omega, rfl, HD3, HO2⟩
          case round =>
            clear HO2 HD3
            obtain ⟨k, hk, rfl, HD, HK⟩ := hrel
            have HD2 := hide (quiet_more HD.out)
            have HW := hide (HH.out.go (quiet_below HD.out))
            obtain ⟨_, _, a4, d4, ef, kf, -, hF, -⟩ := HW.out.foes hq
            have k1 := HW.out.bx.get (i := 1) rfl
            rw [ef] at k1
            by_cases hlt : k < (row T.foes (q : Int)).length
            · obtain ⟨f, hf⟩ := get_at hlt
              obtain ⟨g5, o5, rfl, kx⟩ := hF.get hf
              obtain ⟨f0, f1⟩ := HH.out.pf.foe q hq f (List.mem_of_getElem? hf)
              obtain ⟨p, rfl⟩ := Int.eq_ofNat_of_zero_le f0
              have hpn : p < n := by omega
              have k5 := HW.out.bx.get (i := 5) rfl
              obtain ⟨g, of, a6, d6, e, kc, hll, hI⟩ := HW.out.rules hpn
              rw [e] at k5
              have HI := hide hI
              obtain ⟨rest, hrest⟩ : ∃ rest, ((row T.foes (q : Int)).drop (k + 1)).any (fun f => (rulesL T kA f).any fun s => atkM T m q s) = rest := ⟨_, rfl⟩
              have HO3 : Hid ((((rulesL T kA (p : Int)).drop 0).any (atkM T m q) || rest) = o) := hide (by have := HK.out; rw [any_step hf, hrest] at this; rw [List.drop_zero]; exact this)
              have HRest := hide hrest
              clear hf HK hI hF f0 f1 hrest
              go_wp2_with fail
              go_quiet (fail)
              have HD3 := hide (HD2.out nq)
              have HI2 : Hid (At1 (wr.drewN nq) a6 (ints (rulesL T kA (p : Int)))) := hide (HI.out.below (below_drewN wr nq))
              generalize wr.drewN nq = wq2 at *
              clear k5 kc k1 kf kx HD HD2 HW HI
              go_wp2_with fail
              have HDq := hide HD3.out
              go_loopw [12] (fun x wr => ∃ j : Nat, j ≤ (rulesL T kA (p : Int)).length ∧ x = .int .i64 j ∧ Hid (∃ d, wr = w.drewN d) ∧ Hid ((((rulesL T kA (p : Int)).drop j).any (atkM T m q) || rest) = o)) (fun x _ => (rulesL T kA (p : Int)).length - (intOf x).toNat)
              case atStart => exact ⟨0, by omega, rfl, HD3, HO3⟩
              case round =>
                clear HO3 HD3
                obtain ⟨j, hj, rfl, HD, HJ⟩ := hrel
                have HD2 := hide (quiet_more HD.out)
                have HW := hide (HH.out.go (quiet_below HD.out))
                have hI := HI2.out.below (below_q HDq.out HD.out)
                by_cases hlj : j < (rulesL T kA (p : Int)).length
                · obtain ⟨x, hx⟩ := get_at hlj
                  obtain ⟨g3, o3, rfl, kx⟩ := hI.get hx
                  obtain ⟨s, rfl, hsr⟩ := rules_mem (List.mem_of_getElem? hx)
                  have CT := hide (stands_any (mc := mc) HW.out (HM.out.below (quiet_below HD.out)) HML.out hq (z := s) hsr)
                  have HC := hide HJ.out
                  rw [any_step hx] at HC
                  clear hx HJ hI
                  cases h1 : atkM T m q s with
                  | false =>
                    have HN : Hid ((((rulesL T kA (p : Int)).drop (j + 1)).any (atkM T m q) || rest) = o) := hide (by have := HC.out; rw [h1] at this; simpa using this)
                    rw [h1] at CT
                    clear HC h1
                    go_wp2_with (go_at_call 87; refine CT.out.mono ?_; rintro _ w1 ⟨rfl, hd⟩; have HD3 : Hid (∃ d, w1 = w.drewN d) := hide (by obtain ⟨d, rfl⟩ := hd; exact HD2.out d); clear hd)
                    go_roundw
                    case rel => exact ⟨j + 1, by omega, by go_num, HD3, HN⟩
                    case measure => simp [intOf]; omega
                  | true =>
                    have HN : Hid (true = o) := hide (by have := HC.out; rw [h1] at this; simpa using this)
                    rw [h1] at CT
                    clear HC h1
                    go_wp2_with (go_at_call 87; refine CT.out.mono ?_; rintro _ w1 ⟨rfl, hd⟩; have HD3 : Hid (∃ d, w1 = w.drewN d) := hide (by obtain ⟨d, rfl⟩ := hd; exact HD2.out d); clear hd)
                    go_ret
                    exact ⟨ret_bool HN.out, HD3.out⟩
                · have HN : Hid (((row T.foes (q : Int)).drop (k + 1)).any (fun f => (rulesL T kA f).any fun s => atkM T m q s) = o) := hide (by have := HJ.out; rw [drop_end (by omega)] at this; rw [HRest.out]; exact this)
                  clear HJ hI
                  go_wp2_with fail
                  go_roundw
                  case rel => exact ⟨k + 1, by omega, by go_num, HD, HN⟩
                  case measure => simp [intOf]; omega
            · have HN : Hid (false = o) := hide (by have := HK.out; rw [drop_end (by omega)] at this; exact this)
              clear HK hF
              go_wp2_with fail
              go_ret
              exact ⟨ret_bool HN.out, HD.out⟩
set_option maxRecDepth 100000 in
set_option maxHeartbeats 6400000 in
theorem holds_any (h : Wd K A T F n w) (hm : At1 w ma (u8s m)) (hml : m.length = n) {q : Nat} (hq : q < n) {t : Int} (ht : isTag t) :
    Calls Tryz.prog 44 #[ptr K, .slice ma n mc, .int .i64 t, .int .i64 q] w fun e w' => e = .returned (.bool (condM T F m t q)) ∧ ∃ d, w' = w.drewN d := by
  have C1 := hide (plusD_any (mc := mc) h hm hml hq)
  have C2 := hide (minusD_any (mc := mc) h hm hml hq)
  have C3 := hide (plusd_any (mc := mc) h hm hml hq)
  have C4 := hide (minusd_any (mc := mc) h hm hml hq)
  clear h hm hml
  rcases ht with rfl | rfl | rfl | rfl
  · rw [show condM T F m 1 q = plusS T F m q from rfl]
    generalize plusS T F m q = o at *
    go_enter Tryz.func44, Tryz.ntmps44
    go_wp2_with (go_at_call 55; refine C1.out.mono ?_; rintro _ w1 ⟨rfl, hd⟩; have HD := hide hd; clear hd)
    go_ret
    exact ⟨rfl, HD.out⟩
  · rw [show condM T F m 2 q = minusS T F m q from rfl]
    generalize minusS T F m q = o at *
    go_enter Tryz.func44, Tryz.ntmps44
    go_wp2_with (go_at_call 56; refine C2.out.mono ?_; rintro _ w1 ⟨rfl, hd⟩; have HD := hide hd; clear hd)
    go_ret
    exact ⟨rfl, HD.out⟩
  · rw [show condM T F m 3 q = plusD T m q from rfl]
    generalize plusD T m q = o at *
    go_enter Tryz.func44, Tryz.ntmps44
    go_wp2_with (go_at_call 57; refine C3.out.mono ?_; rintro _ w1 ⟨rfl, hd⟩; have HD := hide hd; clear hd)
    go_ret
    exact ⟨rfl, HD.out⟩
  · rw [show condM T F m 4 q = minusD T m q from rfl]
    generalize minusD T m q = o at *
    go_enter Tryz.func44, Tryz.ntmps44
    go_wp2_with (go_at_call 58; refine C4.out.mono ?_; rintro _ w1 ⟨rfl, hd⟩; have HD := hide hd; clear hd)
    go_ret
    exact ⟨rfl, HD.out⟩
end
end Go.Proofs.YtcobmbclhhimjaaGreat.Rf
/- The document's answer, layer 15: Round. -/
namespace Go.Proofs.YtcobmbclhhimjaaGreat.Rf
open Go.RowKit

theorem infoM8 : (Tryz.prog.info? 77).map (fun i => (i.zero, i.size, i.bytes)) = some (some (.int .u8 0), 1, 1) := by kernel_rfl
theorem set8 {X : List Int} {q : Nat} {x : Int} : (u8s X).set q (.int .u8 x) = u8s (X.set q x) := by unfold u8s; rw [List.map_set]
/-- A round half made: the rows below are whole, the one at hand is x, the rest is 0. -/
def half (T : Th) (F m : List Int) (q : Nat) (x : Int) : List Int := (List.range m.length).map fun i : Nat => if i < q then addsM T F m i 4 (m.getD i 0) else if i = q then x else 0
section
variable {T : Th} {F m : List Int} {q : Nat} {x y : Int}
theorem half_len : (half T F m q x).length = m.length := by unfold half; simp
theorem half_at {i : Nat} (hi : i < m.length) : (half T F m q x)[i]? = some (if i < q then addsM T F m i 4 (m.getD i 0) else if i = q then x else 0) := by unfold half; rw [List.getElem?_map, List.getElem?_range hi]; rfl
theorem half_ext {l k : List Int} (h1 : l.length = m.length) (h2 : k.length = m.length) (h : ∀ i : Nat, i < m.length → l[i]? = k[i]?) : l = k := by
  apply List.ext_getElem?
  intro i
  by_cases hi : i < m.length
  · exact h i hi
  · rw [List.getElem?_eq_none (by omega), List.getElem?_eq_none (by omega)]
theorem half_start : half T F m 0 0 = List.replicate m.length 0 := by
  refine half_ext (m := m) half_len (by simp) fun i hi => ?_
  rw [half_at hi, List.getElem?_replicate, if_pos hi, if_neg (by omega)]
  split <;> rfl
theorem half_end : half T F m m.length 0 = roundM T F m := by
  refine half_ext (m := m) half_len round_len fun i hi => ?_
  rw [half_at hi, if_pos hi]
  unfold roundM
  rw [List.getElem?_map, List.getElem?_range hi]
  rfl
theorem half_next : half T F m q (addsM T F m q 4 (m.getD q 0)) = half T F m (q + 1) 0 := by
  refine half_ext (m := m) half_len half_len fun i hi => ?_
  rw [half_at hi, half_at hi]
  by_cases h1 : i < q
  · rw [if_pos h1, if_pos (by omega)]
  · by_cases h2 : i = q
    · subst h2; rw [if_neg h1, if_pos rfl, if_pos (by omega)]
    · rw [if_neg h1, if_neg h2, if_neg (by omega)]
      split <;> rfl
theorem half_set (hq : q < m.length) : (half T F m q x).set q y = half T F m q y := by
  refine half_ext (m := m) (by rw [List.length_set, half_len]) half_len fun i hi => ?_
  rw [List.getElem?_set]
  by_cases h2 : q = i
  · subst h2; rw [if_pos rfl, if_pos (by rw [half_len]; exact hq), half_at hi, if_neg (by omega), if_pos rfl]
  · rw [if_neg h2, half_at hi, half_at hi]
    by_cases h1 : i < q
    · rw [if_pos h1, if_pos h1]
    · rw [if_neg h1, if_neg h1, if_neg (fun e => h2 e.symm), if_neg (fun e => h2 e.symm)]
theorem half_val (hq : q < m.length) : (half T F m q x).getD q 0 = x := by
  rw [List.getD_eq_getElem?_getD, half_at hq, if_neg (by omega), if_pos rfl]
  rfl
theorem adds_hb (hx : isByte x) : ∀ k : Nat, k ≤ 4 → isByte (addsM T F m q k x) ∧ ∀ u, isTag u → (k : Int) < u → hb (addsM T F m q k x) u = hb x u
  | 0, _ => ⟨hx, fun _ _ _ => rfl⟩
  | k + 1, hk => by
    obtain ⟨h1, h2⟩ := adds_hb hx k (by omega)
    have ht : isTag ((k : Int) + 1) := by
      unfold isTag
      omega
    show isByte (addM T F m q ((k : Int) + 1) (addsM T F m q k x)) ∧ _
    rw [show addsM T F m q (k + 1) x = addM T F m q ((k : Int) + 1) (addsM T F m q k x) from rfl]
    unfold addM
    split
    · refine ⟨(or_facts h1 ht ht).2.1, fun u hu hlt => ?_⟩
      rw [(or_facts h1 ht hu).1, decide_eq_false (by omega), Bool.or_false]
      exact h2 u hu (by omega)
    · exact ⟨h1, fun u hu hlt => h2 u hu (by omega)⟩
end
structure Rr (X : List Int) (w w' : World) : Prop where
  low : Below w.heap.size w w'
  fx : Fx w.heap.size 77 (u8s X) w'
theorem Rr.go {X : List Int} {w w' w'' : World} (h : Rr X w w') (hb : Below w'.heap.size w' w'') : Rr X w w'' := ⟨h.low.trans (hb.mono h.low.size), h.fx.keep (hb.block _ h.fx.lt)⟩
theorem Rr.set {X : List Int} {w w' : World} (h : Rr X w w') (q : Nat) (x : Int) : Rr (X.set q x) w (w'.setCell ⟨w.heap.size, q, none⟩ (.int .u8 x)) :=
  ⟨h.low.setCell (p := ⟨w.heap.size, q, none⟩) (Nat.le_refl _) _, by rw [← set8]; exact h.fx.set q _⟩
theorem rep8 {n : Nat} : Array.replicate n (.int .u8 0) = (u8s (List.replicate n 0)).toArray := by unfold u8s; simp
section
variable {K n : Nat} {A : Wa} {T : Th} {F m : List Int} {ma : Option Addr} {mc : Nat} {w w' : World}
set_option maxRecDepth 100000 in
set_option maxHeartbeats 12800000 in
theorem rround_any (h : Wd K A T F n w) (hm : At1 w ma (u8s m)) (hml : m.length = n) (hby : ∀ q : Nat, q < n → isByte (m.getD q 0)) :
    Calls Tryz.prog 80 #[ptr K, .slice ma n mc] w fun e w' => e = .returned (.slice (some ⟨w.heap.size, 0, none⟩) n n) ∧ At1 w' (some ⟨w.heap.size, 0, none⟩) (u8s (roundM T F m)) ∧ Below w.heap.size w w' := by
  obtain ⟨iB, hiB, zB0, zB1, zB2⟩ := info_parts infoM8
  have HH := hide h
  have HM := hide hm
  have HML := hide hml
  have HBy := hide hby
  have hn4 := h.pf.n4
  have RR0 : Hid (Rr (half T F m 0 0) w (w.alloc (.cells (Array.replicate n (.int .u8 0)) 77))) := hide ⟨below_new _ _, by
    unfold Fx
    rw [heap_alloc_new, rep8, half_start, hml]⟩
  clear h hm hml hby
  go_enter Tryz.func80, Tryz.ntmps80
  go_upto_region 2 with (at_make; go_must (refine wpList_make_fix _ rfl _ _ 29 rfl 77 iB _ Tryz.underlying29 hiB zB0 zB1 rfl _ _ n rfl rfl rfl rfl (by rw [zB2]; omega) (by unfold maxLen; omega) ?_))
  generalize w.alloc (.cells (Array.replicate n (.int .u8 0)) 77) = W at *
  go_wp2_with fail
  go_loopw [6] (fun x wr => ∃ q : Nat, q ≤ n ∧ x = .int .i64 q ∧ Hid (Rr (half T F m q 0) w wr)) (fun x _ => n - (intOf x).toNat)
  case atStart => exact ⟨0, by omega, rfl, RR0⟩
  case round =>
    clear RR0
    obtain ⟨q, hq, rfl, HR⟩ := hrel
    by_cases hlt : q < n
    · have hqm : q < m.length := by rw [HML.out]; exact hlt
      have HQM := hide hqm
      obtain ⟨gm, om, rfl, cm⟩ := (HM.out.below HR.out.low) q _ (u8s_at hqm)
      have f0 := HR.out.fx.frz q
      have r0 := HR.out.fx.get (u8s_at (l := half T F m q 0) (i := q) (by rw [half_len]; exact hqm))
      have HR1 := hide (HR.out.set q (m.getD q 0))
      rw [half_set hqm, show m.getD q 0 = addsM T F m q 0 (m.getD q 0) from rfl] at HR1
      have HXB := hide (HBy.out q hlt)
      rw [half_val hqm] at r0
      have HV : Hid (hs m (q : Int) = hb (m.getD q 0)) := hide (by funext t; unfold hs; rw [Int.toNat_natCast])
      rw [show addsM T F m q 0 (m.getD q 0) = m.getD q 0 from rfl] at HR1
      have HR1' : Hid (Rr (half T F m q (addsM T F m q 0 (m.getD q 0))) w (wr.setCell ⟨w.heap.size, q, none⟩ (.int .u8 (m.getD q 0)))) := HR1
      generalize hx0 : m.getD q 0 = x0 at *
      have HX0 := hide hx0
      clear HR HR1 hqm hx0
      go_wp2_with fail
      generalize wr.setCell ⟨w.heap.size, q, none⟩ (.int .u8 x0) = wq at *
      clear cm f0 r0
      go_loopw [7] (fun x wr => ∃ k : Nat, k ≤ 4 ∧ x = .int .i64 (k + 1 : Nat) ∧ Hid (Rr (half T F m q (addsM T F m q k x0)) w wr)) (fun x _ => 5 - (intOf x).toNat)
      case atStart => exact ⟨0, by omega, rfl, HR1'⟩
      case round =>
        clear HR1'
        obtain ⟨k, hk4, rfl, HR⟩ := hrel
        by_cases hk : k < 4
        · have ht : isTag ((k + 1 : Nat) : Int) := by unfold isTag; omega
          have CB := hide fun W : World => rbit_any (w := W) ht
          have HW := hide (HH.out.go HR.out.low)
          have CH := hide fun d : Nat => holds_any (w := wr.drewN d) (mc := mc) (HW.out.drewN d) ((HM.out.below HR.out.low).below (below_drewN wr d)) HML.out hlt ht
          have r0 := HR.out.fx.get (u8s_at (l := half T F m q (addsM T F m q k x0)) (i := q) (by rw [half_len]; exact HQM.out))
          have f0 := HR.out.fx.frz q
          rw [half_val HQM.out] at r0
          have HHb : Hid (hb (addsM T F m q k x0) ((k + 1 : Nat) : Int) = hs m (q : Int) ((k + 1 : Nat) : Int)) := hide (by rw [HV.out]; exact (adds_hb HXB.out k (by omega)).2 _ ht (by omega))
          have HAD : Hid (addsM T F m q (k + 1) x0 = if !hs m q ((k + 1 : Nat) : Int) && condM T F m ((k + 1 : Nat) : Int) q then orB (addsM T F m q k x0) ((k + 1 : Nat) : Int) else addsM T F m q k x0) := hide rfl
          have hkt : (((k + 1 : Nat) : Int)) ≤ 4 := by omega
          clear ht
          cases ha : hs m (q : Int) ((k + 1 : Nat) : Int) with
          | true =>
            have hz : (bits .and .u8 (addsM T F m q k x0) (bitM ((k + 1 : Nat) : Int)) == 0) = false := by
              have h1 := HHb.out
              rw [ha] at h1
              unfold hb at h1
              simpa using h1
            have HS : Hid (addsM T F m q (k + 1) x0 = addsM T F m q k x0) := hide (by rw [HAD.out, ha]; rfl)
            generalize addsM T F m q k x0 = x1 at *
            generalize bitM ((k + 1 : Nat) : Int) = y1 at *
            clear ha HHb HAD CH
            go_wp2_with fail
            go_quiet ((go_at_call 45; exact Calls.quiet_of_same (CB.out _)))
            go_wp2_with fail
            go_roundw
            case rel => exact ⟨k + 1, by omega, by go_num, hide (by rw [HS.out]; exact HR.out.go (below_drewN wr _))⟩
            case measure => simp [intOf]; omega
          | false =>
            have hz : (bits .and .u8 (addsM T F m q k x0) (bitM ((k + 1 : Nat) : Int)) == 0) = true := by
              have h1 := HHb.out
              rw [ha] at h1
              unfold hb at h1
              simpa using h1
            cases hc : condM T F m ((k + 1 : Nat) : Int) q with
            | false =>
              have HS : Hid (addsM T F m q (k + 1) x0 = addsM T F m q k x0) := hide (by rw [HAD.out, ha, hc]; rfl)
              rw [hc] at CH
              generalize addsM T F m q k x0 = x1 at *
              generalize bitM ((k + 1 : Nat) : Int) = y1 at *
              clear ha hc HHb HAD
              go_wp2_with fail
              go_quiet (first
                | (go_at_call 45; exact Calls.quiet_of_same (CB.out _))
                | (go_at_call 44; exact Calls.quiet_of (CH.out _)))
              go_wp2_with fail
              go_roundw
              case rel => exact ⟨k + 1, by omega, by go_num, hide (by rw [HS.out]; exact HR.out.go (below_drewN wr _))⟩
              case measure => simp [intOf]; omega
            | true =>
              have HS : Hid (addsM T F m q (k + 1) x0 = bits .or .u8 (addsM T F m q k x0) (bitM ((k + 1 : Nat) : Int))) := hide (by rw [HAD.out, ha, hc]; rfl)
              rw [hc] at CH
              generalize addsM T F m q k x0 = x1 at *
              generalize bitM ((k + 1 : Nat) : Int) = y1 at *
              clear ha hc HHb HAD
              go_wp2_with fail
              go_quiet (first
                | (go_at_call 45; exact Calls.quiet_of_same (CB.out _))
                | (go_at_call 44; exact Calls.quiet_of (CH.out _)))
              have HR6 := hide (HR.out.go (below_drewN wr nq))
              replace r0 : (wr.drewN nq).cell? _ = _ := r0
              replace f0 : (wr.drewN nq).frozen? _ = _ := f0
              generalize wr.drewN nq = w6 at *
              clear CH HW HR hz
              go_upto_region 10 with fail
              refine region_last (by kernel_rfl) (by kernel_rfl) (by kernel_rfl) (by kernel_rfl) (by kernel_rfl) ?_
              dsimp only [List.dropLast, List.getLast, List.cons_append, List.nil_append]
              repeat (go_big_quiet_step ((go_at_call 45; exact Calls.quiet_of_same (CB.out _))))
              refine wpQuiet_nil ?_
              rintro _ ⟨nq2, rfl⟩
              have HR7 : Hid (Rr (half T F m q (addsM T F m q (k + 1) x0)) w ((w6.drewN nq2).setCell ⟨w.heap.size, q, none⟩ (.int .u8 (bits .or .u8 x1 y1)))) := hide (by
                have h1 := (HR6.out.go (below_drewN w6 nq2)).set q (bits .or .u8 x1 y1)
                rw [half_set HQM.out] at h1
                rw [HS.out]
                exact h1)
              have r7 : (w6.drewN nq2).cell? ⟨w.heap.size, q, none⟩ = some (.int .u8 x1) := r0
              have f7 : (w6.drewN nq2).frozen? ⟨w.heap.size, q, none⟩ = false := f0
              go_wp2_with fail
              go_roundw
              case rel => exact ⟨k + 1, by omega, by go_num, HR7⟩
              case measure => simp [intOf]; omega
        · have hk5 : k = 4 := by omega
          subst hk5
          have HN : Hid (Rr (half T F m (q + 1) 0) w wr) := hide (by have := HR.out; rw [← HX0.out, half_next] at this; exact this)
          clear HR
          go_wp2_with fail
          go_roundw
          case rel => exact ⟨q + 1, by omega, by go_num, HN⟩
          case measure => simp [intOf]; omega
    · have HN : Hid (At1 wr (some ⟨w.heap.size, 0, none⟩) (u8s (roundM T F m))) := hide (by
        have hqe : q = m.length := by rw [HML.out]; omega
        have h1 := HR.out.fx
        rw [hqe, half_end] at h1
        exact fun i v hi => ⟨_, _, rfl, by rw [Nat.zero_add]; exact h1.get hi⟩)
      have HLo := hide HR.out.low
      clear HR
      go_wp2_with fail
      go_ret
      exact ⟨rfl, HN.out, HLo.out⟩
end
end Go.Proofs.YtcobmbclhhimjaaGreat.Rf
