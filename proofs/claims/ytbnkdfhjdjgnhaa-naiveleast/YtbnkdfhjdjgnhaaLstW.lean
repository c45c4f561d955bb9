/- NaiveLeast, walked. -/
import Derived.Test.YtbnkdfhjdjgnhaaLstI
namespace Go.Proofs.Ytbnkdfhjdjgnhaa
open Go.RowKit

theorem Round_ok {w : World} {T : Th} {F m : List Int} {n : Nat} {fa ra ba ea ma : Option Addr} {fc rc bc ec mc : Nat} (h : TA w.heap.size w T fa fc ra rc ba bc) (hF : Ints w.heap.size w F (.slice ea F.length ec)) (hm : At1 w ma (u8s m)) (hf : faultM T F = 0) (hn : T.lits = (n : Int)) (hl : m.length = n) :
    Calls Try.prog 11 #[tv T fa fc ra rc ba bc, .slice ea F.length ec, .slice ma n mc] w fun e w' => ∃ va vc, e = .returned (.tuple #[.slice va n vc, .int .i64 0]) ∧ Hid (w'.ownsRow w.heap.size 36 1 (.slice va n vc) n (u8s (roundM T F m))) ∧ Hid (Below w.heap.size w w') := by
  have h0 : mfM T F m = 0 := by
    unfold mfM
    rw [if_neg (by rw [hf]; decide), if_neg (by rw [hl, hn]; exact fun x => x rfl)]
  have := Round_any (mc := mc) h hF hm
  rw [h0, if_pos rfl, hl] at this
  refine this.mono ?_
  rintro e w' ⟨v, h1, h2, h3⟩
  rw [round_len, hl] at h2
  obtain ⟨va, vc, rfl⟩ := owns_slice h2
  exact ⟨va, vc, h1, hide h2, hide h3⟩
/-- Marks, with others laid over the first of them. -/
def orL (m p : List Int) (k : Nat) : List Int := (List.range m.length).map fun q : Nat => if q < k then bits .or .u8 (m.getD q 0) (p.getD q 0) else m.getD q 0
theorem orL_len {m p : List Int} {k : Nat} : (orL m p k).length = m.length := by unfold orL; simp
theorem orL_at {m p : List Int} {k q : Nat} (hq : q < m.length) : (orL m p k)[q]? = some (if q < k then bits .or .u8 (m.getD q 0) (p.getD q 0) else m.getD q 0) := by unfold orL; rw [List.getElem?_map, List.getElem?_range hq]; rfl
theorem orL_get {m p : List Int} {k q : Nat} (hq : q < m.length) : (orL m p k).getD q 0 = if q < k then bits .or .u8 (m.getD q 0) (p.getD q 0) else m.getD q 0 := by rw [List.getD_eq_getElem?_getD, orL_at hq]; rfl
theorem orL_zero {m p : List Int} : orL m p 0 = m := by
  refine part_ext orL_len rfl fun i hi => ?_
  rw [orL_at hi, List.getElem?_eq_getElem hi, if_neg (by omega), List.getD_eq_getElem?_getD, List.getElem?_eq_getElem hi]
  rfl
theorem orL_set {m p : List Int} {k : Nat} (hk : k < m.length) : (orL m p k).set k (bits .or .u8 (m.getD k 0) (p.getD k 0)) = orL m p (k + 1) := by
  refine part_ext (by rw [List.length_set]; exact orL_len) orL_len fun i hi => ?_
  by_cases e : k = i
  · subst e
    rw [List.getElem?_set_self (by rw [orL_len]; exact hk), orL_at hi, if_pos (by omega)]
  · rw [List.getElem?_set_ne e, orL_at hi, orL_at hi]
    by_cases h1 : i < k
    · rw [if_pos h1, if_pos (by omega)]
    · rw [if_neg h1, if_neg (by omega)]
theorem orL_bys {m p : List Int} {k : Nat} (hm : Bys m) (hp : Bys p) : Bys (orL m p k) := by
  intro q
  by_cases hq : q < m.length
  · rw [orL_get hq]
    split
    · exact (or_bit (hm q) (hp q)).1
    · exact hm q
  · rw [getD_far (by rw [orL_len]; omega)]; exact ⟨by omega, by omega⟩
theorem orL_inn {m p : List Int} {k : Nat} (hm : Bys m) (hp : Bys p) : Inn8 m (orL m p k) := by
  intro q i hi
  by_cases hq : q < m.length
  · rw [orL_get hq]
    split
    · rw [(or_bit (hm q) (hp q)).2 i, hi]; rfl
    · exact hi
  · rw [getD_far (by omega)] at hi
    simp at hi
theorem set8 {X : List Int} {q : Nat} {x : Int} : (u8s X).set q (.int .u8 x) = u8s (X.set q x) := by unfold u8s; rw [List.map_set]
set_option maxRecDepth 100000 in
set_option maxHeartbeats 12800000 in
theorem least_any {w : World} {T : Th} {F m p : List Int} {fa ra ba ea ma na : Option Addr} {fc rc bc ec mc nc : Nat} (h : TA w.heap.size w T fa fc ra rc ba bc) (hF : Ints w.heap.size w F (.slice ea F.length ec)) (hm : At1 w ma (u8s m)) (hp : At1 w na (u8s p)) (hbm : Bys m) (hbp : Bys p) :
    Calls Try.prog 3 #[tv T fa fc ra rc ba bc, .slice ea F.length ec, .slice ma m.length mc, .slice na p.length nc] w fun e w' => e = .returned (.bool true) ∧ Below w.heap.size w w' := by
  have hB := below_new w (.cells #[.int .i64 T.lits, .slice fa T.foes.length fc, .slice ra T.rules.length rc, .slice ba T.beats.length bc] 25)
  have hX := heap_alloc_new w (.cells #[.int .i64 T.lits, .slice fa T.foes.length fc, .slice ra T.rules.length rc, .slice ba T.beats.length bc] 25)
  have HTA := hide h
  have HF := hide hF
  have HM := hide hm
  have HNN := hide hp
  have HBM := hide hbm
  have HBP := hide hbp
  have HB := hide hB
  have HX := hide hX
  clear h hB hF hm hp hbm hbp
  go_enter Try.func3, Try.ntmps3
  go_upto_region 1 with fail
  generalize w.alloc (.cells #[.int .i64 T.lits, .slice fa T.foes.length fc, .slice ra T.rules.length rc, .slice ba T.beats.length bc] 25) = W at *
  clear hX
  have CA := hide (alive_any (w := W))
  go_upto_region 3 with (go_at_call 8; refine CA.out.mono ?_; rintro _ w1 ⟨rfl, hw1⟩; have HW1 := hide hw1; clear hw1)
  have HX1 := hide ((HW1.out.block _ (loc_lt HX.out)).trans HX.out)
  have HB1 := hide (HB.out.trans (HW1.out.mono HB.out.size))
  clear CA HX HB HW1
  obtain ⟨-, c0, c1, c2, c3⟩ := Bt.of HX1.out
  by_cases hf : faultM T F = 0
  · have CS := hide (Solve_ok (TR.go HB1.out HTA.out) (Ints.go HB1.out HF.out) hf)
    have HP := hide (pf_of hf)
    have HFZ := hide hf
    clear hf
    go_upto_region 4 with (go_at_call 9; refine CS.out.mono ?_; rintro _ w2 ⟨v, s, i, rfl, hs, hown, hw2⟩; have HS := hide hs; have HO := hide hown; have HW2 := hide hw2; clear hs hown hw2)
    have CN := hide fun X : World => num_still X 0
    have HB2 := hide (HB1.out.trans (HW2.out.mono HB1.out.size))
    have HX2 := hide ((HW2.out.block _ (loc_lt HX1.out)).trans HX1.out)
    clear c0 c1 c2 c3 CS HB1 HX1 HW2
    obtain ⟨n, hn⟩ : ∃ n, T.lits.toNat = n := ⟨_, rfl⟩
    have HML : Hid (s.length = n) := hide (by rw [← hn]; exact sol_len HP.out HS.out)
    rw [hn] at HO HP
    have hn4 := HP.out.n4
    clear hn
    obtain ⟨va, vc, rfl⟩ := owns_slice HO.out
    have HSA := hide (owns_at1 HO.out)
    clear HO
    obtain ⟨-, c0, c1, c2, c3⟩ := Bt.of HX2.out
    have CR : Hid (∀ (X : World) (q : List Int) (qa : Option Addr) (qc : Nat), Below w.heap.size w X → At1 X qa (u8s q) → q.length = n → Calls Try.prog 11 #[tv T fa fc ra rc ba bc, .slice ea F.length ec, .slice qa n qc] X fun e w' => ∃ va vc, e = .returned (.tuple #[.slice va n vc, .int .i64 0]) ∧ Hid (w'.ownsRow X.heap.size 36 1 (.slice va n vc) n (u8s (roundM T F q))) ∧ Hid (Below X.heap.size X w')) := hide fun X q qa qc hX hq hl => Round_ok (TR.go hX HTA.out) (Ints.go hX HF.out) hq HFZ.out HP.out.ln hl
    have CR1 := hide (CR.out w2 s va vc HB2.out HSA.out HML.out)
    rw [HS.out.2] at CR1
    go_upto_region 7 with (first | (go_at_call 10; refine (CN.out _).mono ?_; rintro _ w6 ⟨rfl, rfl⟩) | (go_at_call 11; refine CR1.out.mono ?_; rintro _ w3 ⟨ra1, rc1, rfl, HR1, HW3⟩))
    clear c0 c1 c2 c3 CR1
    have HB3 := hide (HB2.out.trans (HW3.out.mono HB2.out.size))
    have HX3 := hide ((HW3.out.block _ (loc_lt HX2.out)).trans HX2.out)
    have HSA3 := hide (HSA.out.below HW3.out)
    have CE := hide (sameM_yes (c := rc1) (d := vc) (owns_at1 HR1.out) HSA3.out (by rw [HML.out]; exact hn4))
    rw [HML.out] at CE
    clear HX2 HSA HR1 HW3 HB2
    go_upto_region 9 with (first | (go_at_call 10; refine (CN.out _).mono ?_; rintro _ w6 ⟨rfl, rfl⟩) | (go_at_call 12; refine CE.out.mono ?_; rintro _ w4 ⟨rfl, hw4⟩; have HW4 := hide hw4; clear hw4))
    have HB4 := hide (HB3.out.trans (HW4.out.mono HB3.out.size))
    have HX4 := hide ((HW4.out.block _ (loc_lt HX3.out)).trans HX3.out)
    have HSA4 := hide (HSA3.out.below HW4.out)
    clear CE CN HX3 HSA3 HW4 HB3
    by_cases h1 : m.length = n
    · by_cases h2 : p.length = n
      · rw [h1, h2]
        have HM4 := hide (HM.out.below HB4.out)
        have HN4 := hide (HNN.out.below HB4.out)
        have HL1 := hide h1
        have HL2 := hide h2
        have CC := hide (copyM_any (c := mc) HM4.out (by rw [h1]; exact hn4))
        rw [h1] at CC
        go_upto_region 13 with (go_at_call 13; refine CC.out.mono ?_; rintro _ w5 ⟨v5, rfl, ho5, hw5⟩; have HO5 := hide ho5; have HW5 := hide hw5; clear ho5 hw5)
        clear CC h1 h2
        obtain ⟨xa, xc, rfl⟩ := owns_slice HO5.out
        have HO5b : Hid (w5.ownsRow w4.heap.size 36 1 (.slice xa n xc) n (u8s (orL m p 0))) := hide (by rw [orL_zero]; exact HO5.out)
        clear HO5
        go_loopw [14] (fun x wr => ∃ k : Nat, k ≤ n ∧ x = .int .i64 k ∧ Hid (wr.ownsRow w4.heap.size 36 1 (.slice xa n xc) n (u8s (orL m p k))) ∧ Hid (Below w4.heap.size w4 wr)) (fun x _ => n - (intOf x).toNat)
        case atStart => exact ⟨0, by omega, rfl, HO5b, HW5⟩
        case round =>
          clear HO5b HW5
          obtain ⟨k, hk, rfl, HO, HW⟩ := hrel
          by_cases hlt : k < n
          · obtain ⟨g, c, old, e1, hbg, hgl, -, f0, hset⟩ := own_set HO.out hlt
            cases e1
            obtain ⟨_, _, e2, x0⟩ := owns_at1 HO.out k _ (u8s_at (by rw [orL_len, HL1.out]; exact hlt))
            cases e2
            rw [Nat.zero_add, orL_get (by rw [HL1.out]; exact hlt), if_neg (by omega)] at x0
            obtain ⟨gn, on, rfl, y0⟩ := (HN4.out.below HW.out) k _ (u8s_at (by rw [HL2.out]; exact hlt))
            have HO2 : Hid ((wr.setCell ⟨g, k, none⟩ (.int .u8 (bits .or .u8 (m.getD k 0) (p.getD k 0)))).ownsRow w4.heap.size 36 1 (.slice (some ⟨g, 0, none⟩) n xc) n (u8s (orL m p (k + 1)))) := hide (by
              have := hset (.int .u8 (bits .or .u8 (m.getD k 0) (p.getD k 0)))
              rw [set8, orL_set (by rw [HL1.out]; exact hlt)] at this
              exact this)
            have HW2 := hide (HW.out.setCell (p := ⟨g, k, none⟩) hbg (.int .u8 (bits .or .u8 (m.getD k 0) (p.getD k 0))))
            clear hset HO HW hgl hbg
            generalize m.getD k 0 = mx at *
            generalize p.getD k 0 = px at *
            go_upto_region 15 with fail
            refine region_last (by kernel_rfl) (by kernel_rfl) (by kernel_rfl) (by kernel_rfl) (by kernel_rfl) ?_
            dsimp only [List.dropLast, List.getLast, List.cons_append, List.nil_append]
            repeat (go_big_quiet_step (fail))
            refine wpQuiet_nil ?_
            rintro _ ⟨nq, rfl⟩
            have x1 : (wr.drewN nq).cell? ⟨g, k, none⟩ = some (.int .u8 mx) := x0
            have f1 : (wr.drewN nq).frozen? ⟨g, k, none⟩ = false := f0
            have HO3 : Hid (((wr.drewN nq).setCell ⟨g, k, none⟩ (.int .u8 (bits .or .u8 mx px))).ownsRow w4.heap.size 36 1 (.slice (some ⟨g, 0, none⟩) n xc) n (u8s (orL m p (k + 1)))) := hide (owns_keep HO2.out fun _ _ => rfl)
            have HW3 : Hid (Below w4.heap.size w4 ((wr.drewN nq).setCell ⟨g, k, none⟩ (.int .u8 (bits .or .u8 mx px)))) := hide ⟨HW2.out.os, HW2.out.tape, HW2.out.output, HW2.out.size, HW2.out.block⟩
            clear HO2 HW2
            go_wp2_with fail
            go_roundw
            case rel => exact ⟨k + 1, by omega, by go_num, HO3, HW3⟩
            case measure => simp [intOf]; omega
          · have hkn : k = n := by omega
            subst hkn
            obtain ⟨mo, hmo⟩ : ∃ mo, orL m p k = mo := ⟨_, rfl⟩
            have HMO : Hid (Bys mo ∧ mo.length = k ∧ Inn8 m mo) := hide (by rw [← hmo]; exact ⟨orL_bys HBM.out HBP.out, by rw [orL_len]; exact HL1.out, orL_inn HBM.out HBP.out⟩)
            rw [hmo] at HO
            clear hmo
            have HBr := hide (HB4.out.trans (HW.out.mono HB4.out.size))
            have HXr := hide ((HW.out.block _ (loc_lt HX4.out)).trans HX4.out)
            have HSr := hide (HSA4.out.below HW.out)
            have CRa := hide (CR.out wr m ma mc HBr.out (HM.out.below HBr.out) HL1.out)
            obtain ⟨-, c0, c1, c2, c3⟩ := Bt.of HXr.out
            go_upto_region 17 with (go_at_call 11; refine CRa.out.mono ?_; rintro _ w6 ⟨aa, ac, rfl, HA6, HW6⟩)
            clear c0 c1 c2 c3 CRa
            have HB6 := hide (HBr.out.trans (HW6.out.mono HBr.out.size))
            have HX6 := hide ((HW6.out.block _ (loc_lt HXr.out)).trans HXr.out)
            have HS6 := hide (HSr.out.below HW6.out)
            have HO6 := hide (owns_down (owns_keep HO.out fun g e => HW6.out.block g (owns_lt HO.out e)) (Nat.zero_le _))
            have CRb := hide (CR.out w6 mo xa xc HB6.out (owns_at1 HO6.out) HMO.out.2.1)
            clear HBr HXr HSr HO
            obtain ⟨-, c0, c1, c2, c3⟩ := Bt.of HX6.out
            go_upto_region 18 with (go_at_call 11; refine CRb.out.mono ?_; rintro _ w7 ⟨ba7, bc7, rfl, HA7, HW7⟩)
            clear c0 c1 c2 c3 CRb
            have HB7 := hide (HB6.out.trans (HW7.out.mono HB6.out.size))
            have HX7 := hide ((HW7.out.block _ (loc_lt HX6.out)).trans HX6.out)
            have HS7 := hide (HS6.out.below HW7.out)
            have HO7 := hide (owns_keep HO6.out fun g e => HW7.out.block g (owns_lt HO6.out e))
            have CI := hide (in_any (c := ac) (d := bc7) ((owns_at1 HA6.out).below HW7.out) (owns_at1 HA7.out) (by rw [round_len, HL1.out]; exact hn4) (by rw [round_len, round_len, HL1.out, HMO.out.2.1]) (round_bys HBM.out) (round_bys HMO.out.1) (round_inn HP.out HBM.out HMO.out.1 HL1.out HMO.out.2.1 HMO.out.2.2))
            rw [round_len, round_len, HL1.out, HMO.out.2.1] at CI
            clear HX6 HS6 HO6 HA6 HA7 HB6 HW7 HW6
            go_upto_region 21 with (go_at_call 14; refine CI.out.mono ?_; rintro _ w8 ⟨rfl, hw8⟩; have HW8 := hide hw8; clear hw8)
            have HB8 := hide (HB7.out.trans (HW8.out.mono HB7.out.size))
            have HX8 := hide ((HW8.out.block _ (loc_lt HX7.out)).trans HX7.out)
            have HS8 := hide (HS7.out.below HW8.out)
            have HO8 := hide (owns_keep HO7.out fun g e => HW8.out.block g (owns_lt HO7.out e))
            clear CI HX7 HS7 HO7 HB7 HW hlt hk
            go_loopw [13, 19] (fun y x wz => ∃ (i : Nat) (mo : List Int) (za : Option Addr) (zc : Nat), i ≤ 4 * k ∧ x = .int .i64 i ∧ y = .slice za k zc ∧ Hid (Bys mo ∧ mo.length = k ∧ i ≤ cntF mo k) ∧ Hid (wz.ownsRow 0 36 1 (.slice za k zc) k (u8s mo)) ∧ Hid (Below w8.heap.size w8 wz)) (fun _ x _ => 4 * k + 1 - (intOf x).toNat)
            case atStart => exact ⟨0, mo, xa, xc, by omega, rfl, rfl, hide ⟨HMO.out.1, HMO.out.2.1, by omega⟩, HO8, hide (Below.refl _ _)⟩
            case round =>
              clear HO8 HMO HW8
              obtain ⟨i, mo, za, zc, hi, rfl, rfl, HMO, HO, HW⟩ := hrel
              have hi2 : (i : Int) ≤ 4 * (k : Int) := by omega
              have HBz := hide (HB8.out.trans (HW.out.mono HB8.out.size))
              have HXz := hide ((HW.out.block _ (loc_lt HX8.out)).trans HX8.out)
              have CRz := hide (CR.out wr mo za zc HBz.out (owns_at1 HO.out) HMO.out.2.1)
              obtain ⟨-, c0, c1, c2, c3⟩ := Bt.of HXz.out
              go_upto_region 24 with (go_at_call 11; refine CRz.out.mono ?_; rintro _ w9 ⟨ta, tc, rfl, HA9, HW9⟩)
              clear c0 c1 c2 c3 CRz HXz
              have HO9 := hide (owns_keep HO.out fun g e => HW9.out.block g (owns_lt HO.out e))
              have HB9 := hide (HBz.out.trans (HW9.out.mono HBz.out.size))
              have HW89 := hide (HW.out.trans (HW9.out.mono HW.out.size))
              have CE := hide (sameM_any (c := tc) (d := zc) (owns_at1 HA9.out) (owns_at1 HO9.out) (by rw [round_len, HMO.out.2.1]; exact hn4) (by rw [round_len]))
              rw [round_len, HMO.out.2.1] at CE
              clear HO HBz HW HW9
              by_cases he : roundM T F mo = mo
              · rw [decide_eq_true he] at CE
                have CI : Hid (∀ X, Below w9.heap.size w9 X → Calls Try.prog 14 #[.slice va k vc, .slice za k zc] X fun e w' => e = .returned (.bool true) ∧ Below X.heap.size X w') := hide fun X hX => by
                  have := in_any (c := vc) (d := zc) ((HS8.out.below HW89.out).below hX) ((owns_at1 HO9.out).below hX) (by rw [HML.out]; exact hn4) (by rw [HML.out, HMO.out.2.1]) (sol_bys HS.out) HMO.out.1 (sol_least HP.out HS.out HMO.out.1 HMO.out.2.1 he)
                  rw [HML.out, HMO.out.2.1] at this
                  exact this
                clear he
                go_wp2_with (first | (go_at_call 12; refine CE.out.mono ?_; rintro _ wa ⟨rfl, hqa⟩; have HWA : Hid (Below w9.heap.size w9 wa) := (hide (by obtain ⟨q, rfl⟩ := hqa; exact below_drewN w9 q)); clear hqa) | (go_at_call 14; refine (CI.out _ HWA.out).mono ?_; rintro _ wb ⟨rfl, hwb⟩; have HWB := hide hwb; clear hwb))
                go_ret
                exact ⟨rfl, HB9.out.trans ((HWA.out.trans (HWB.out.mono HWA.out.size)).mono HB9.out.size)⟩
              · have HC : Hid (i + 1 ≤ cntF (roundM T F mo) k) := hide (by
                  have h1 := round_more (T := T) (F := F) (m := mo) HMO.out.1 he
                  rw [HMO.out.2.1] at h1
                  have := HMO.out.2.2
                  omega)
                have hi4 : i + 1 ≤ 4 * k := by have := HC.out; have := cntF_le (m := roundM T F mo) (k := k); omega
                rw [decide_eq_false he] at CE
                have CI : Hid (∀ X, Below w9.heap.size w9 X → Calls Try.prog 14 #[.slice za k zc, .slice ta k tc] X fun e w' => e = .returned (.bool true) ∧ Below X.heap.size X w') := hide fun X hX => by
                  have := in_any (c := zc) (d := tc) ((owns_at1 HO9.out).below hX) ((owns_at1 HA9.out).below hX) (by rw [HMO.out.2.1]; exact hn4) (by rw [round_len]) HMO.out.1 (round_bys HMO.out.1) (round_own (T := T) (F := F) HMO.out.1)
                  rw [round_len, HMO.out.2.1] at this
                  exact this
                clear he
                go_wp2_with (first | (go_at_call 12; refine CE.out.mono ?_; rintro _ wa ⟨rfl, hqa⟩; have HWA : Hid (Below w9.heap.size w9 wa) := (hide (by obtain ⟨q, rfl⟩ := hqa; exact below_drewN w9 q)); clear hqa) | (go_at_call 14; refine (CI.out _ HWA.out).mono ?_; rintro _ wb ⟨rfl, hwb⟩; have HWB := hide (HWA.out.trans (hwb.mono HWA.out.size)); clear hwb))
                have HOB : Hid (wb.ownsRow 0 36 1 (.slice ta k tc) k (u8s (roundM T F mo))) := hide (owns_down (owns_keep HA9.out fun g e => HWB.out.block g (owns_lt HA9.out e)) (Nat.zero_le _))
                have HWC := hide (HW89.out.trans (HWB.out.mono HW89.out.size))
                go_roundw
                case rel => exact ⟨i + 1, roundM T F mo, ta, tc, hi4, by go_num, rfl, hide ⟨round_bys HMO.out.1, by rw [round_len]; exact HMO.out.2.1, HC.out⟩, HOB, HWC⟩
                case measure => simp [intOf]; omega
      · have e1 : ((m.length : Int) != (n : Int)) = false := by simp [h1]
        have e2 : ((p.length : Int) != (n : Int)) = true := by simp; omega
        go_wp2_with fail
        go_ret
        exact ⟨rfl, HB4.out⟩
    · have e1 : ((m.length : Int) != (n : Int)) = true := by simp; omega
      go_wp2_with fail
      go_ret
      exact ⟨rfl, HB4.out⟩
  · have CS := hide (Solve_bad (TR.go HB1.out HTA.out) (Ints.go HB1.out HF.out) hf)
    have hne : (faultM T F != 0) = true := by simpa using hf
    clear hf
    generalize faultM T F = e0 at *
    have CN := hide fun w : World => num_still w e0
    go_wp2_with (first | (go_at_call 9; refine CS.out.mono ?_; rintro _ w2 ⟨rfl, hw2⟩; have HW2 := hide hw2; clear hw2) | (go_at_call 10; refine (CN.out _).mono ?_; rintro _ w6 ⟨rfl, rfl⟩))
    go_ret
    exact ⟨rfl, HB1.out.trans (HW2.out.mono HB1.out.size)⟩
end Go.Proofs.Ytbnkdfhjdjgnhaa
