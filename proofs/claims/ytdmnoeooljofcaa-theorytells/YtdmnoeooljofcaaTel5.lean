/- The document's Cone, walked. -/
import Derived.Test.YtdmnoeooljofcaaTel4
namespace Go.Proofs.Ytdmnoeooljofcaa.Rf
open Go.RowKit Cz

set_option maxRecDepth 100000 in
set_option maxHeartbeats 12800000 in
theorem rCone_any {w : World} {T : Th} {fa ra ba : Option Addr} {fc rc bc : Nat} {l : List Int} {a : Option Addr} {c : Nat} (h : TA w.heap.size w T fa fc ra rc ba bc) (hli : Ints w.heap.size w l (.slice a l.length c)) :
    Calls Try.prog 19 #[tv T fa fc ra rc ba bc, .slice a l.length c] w fun e w' => rCnd T l e w' ∧ Below w.heap.size w w' := by
  obtain ⟨iB, hiB, zB0, zB1, zB2⟩ := info_parts infoBo
  have hB := below_new w (.cells #[.int .i64 T.lits, .slice fa T.foes.length fc, .slice ra T.rules.length rc, .slice ba T.beats.length bc] 27)
  have hX := heap_alloc_new w (.cells #[.int .i64 T.lits, .slice fa T.foes.length fc, .slice ra T.rules.length rc, .slice ba T.beats.length bc] 27)
  have HLI := hide (Ints.go hB hli)
  have hlim := hli.lim
  have hL := TR.go hB h
  have CC := hide (rcheck_any hL)
  have HL := hide hL
  have HB := hide hB
  have HX := hide hX
  obtain ⟨e0, p0, hab⟩ : ∃ a b, checkM T = (a, b) := ⟨_, _, rfl⟩
  rw [hab] at CC
  unfold dup at CC
  simp only at CC
  have HE : Hid ((checkM T).1 = e0) := hide (by rw [hab])
  clear h hB hL hab hli
  go_enter Try.func19, Try.ntmps19
  go_upto_region 1 with fail
  generalize w.alloc (.cells #[.int .i64 T.lits, .slice fa T.foes.length fc, .slice ra T.rules.length rc, .slice ba T.beats.length bc] 27) = W at *
  obtain ⟨-, c0, c1, c2, c3⟩ := Bt.of hX
  clear hX
  by_cases ha : e0 = 0
  · subst ha
    have hok := check_ok HE.out
    have hwh := ok_wh hok
    obtain ⟨n, hn⟩ : ∃ n, T.lits.toNat = n := ⟨_, rfl⟩
    rw [hn] at hwh
    have HN := hide hn
    have HW := hide hwh
    have hn4 := hwh.n4
    have HFL := hide hwh.fl
    have HLN := hide hwh.ln
    have hrl := hwh.rl
    clear hok hwh hn
    go_upto_region 4 with (go_at_call 27; refine CC.out.mono ?_; rintro _ w1 ⟨rfl, hw1⟩; have HB1 := hide (HB.out.trans (hw1.mono HB.out.size)); have HL1 := hide (TR.go hw1 HL.out); have HI1 := hide (Ints.go hw1 HLI.out); have HX1 := hide ((hw1.block _ (loc_lt HX.out)).trans HX.out); clear hw1)
    clear c0 c1 c2 c3 CC HL HB HX HLI
    obtain ⟨-, c0, c1, c2, c3⟩ := Bt.of HX1.out
    go_upto_region 5 with (at_make; go_must (refine wpList_make_fix _ rfl _ _ 80 rfl 4 iB _ Try.underlying80 hiB zB0 zB1 rfl _ _ n rfl rfl HLN.out HLN.out (by rw [zB2]; omega) (by unfold maxLen; omega) ?_))
    have hA := below_new w1 (.cells (Array.replicate n (.bool false)) 4)
    have HM0 : Hid (Bm2 w1.heap.size n (List.replicate n false) (w1.alloc (.cells (Array.replicate n (.bool false)) 4))) := hide ⟨by
      have e := heap_alloc_new w1 (.cells (Array.replicate n (.bool false)) 4)
      have e2 : bools (List.replicate n false) = List.replicate n (.bool false) := by simp [bools]
      unfold Fx
      rw [e2]
      simpa using e, by simp⟩
    have HBc := hide hA
    generalize w1.alloc (.cells (Array.replicate n (.bool false)) 4) = wc at *
    obtain ⟨B, hBs⟩ : ∃ B, w1.heap.size = B := ⟨_, rfl⟩
    have HBS := hide hBs
    rw [hBs] at HM0 HBc ⊢
    clear hA hBs c0 c1 c2 c3
    have HXz := hide (fun X (hX : Below B w1 X) => (hX.block _ (by have := loc_lt HX1.out; have := HBS.out; omega)).trans HX1.out)
    have HTz := hide (fun X (hX : Below B w1 X) => TR.keep (w' := X) (fun g hg => hX.block g (by have := HBS.out; omega)) HL1.out)
    have HIz := hide (fun X (hX : Below B w1 X) => Ints.keep (w' := X) (fun g hg => hX.block g (by have := HBS.out; omega)) HI1.out)
    have HBz := hide (fun X (hX : Below B w1 X) => HB1.out.trans (hX.mono (by have := HBS.out; have := HB1.out.size; omega)))
    clear HX1 HL1 HI1 HB1
    go_wp2_with fail
    go_loopw [9] (fun x wr => ∃ (k : Nat) (R : List Bool), k ≤ l.length ∧ x = .int .i64 k ∧ Hid (∀ x ∈ l.take k, 0 ≤ x ∧ x < (n : Int)) ∧ Hid (Cr T (l.take k) n R) ∧ Hid (Bm2 B n R wr) ∧ Hid (Below B w1 wr)) (fun x _ => l.length - (intOf x).toNat)
    case atStart => exact ⟨0, _, by omega, rfl, hide (by simp), hide (by rw [List.take_zero]; exact Cr.zero), HM0, HBc⟩
    case round =>
      clear HM0 HBc
      obtain ⟨k, R, hk, rfl, HA, HCR, HM, HBr⟩ := hrel
      obtain ⟨-, c0, c1, c2, c3⟩ := Bt.of (HXz.out _ HBr.out)
      rw [HLN.out] at c0
      have hBw : B ≤ wr.heap.size := by have := HBr.out.size; have := HBS.out; omega
      by_cases hlt : k < l.length
      · obtain ⟨x, hx⟩ := get_at hlt
        obtain ⟨ga, oa, rfl, hga, cx⟩ := at_I (HIz.out _ HBr.out) hx
        have HIn := hide (List.mem_of_getElem? hx)
        by_cases hx0 : x < 0
        · have HR : Hid (∃ x ∈ l, ¬ (0 ≤ x ∧ x < T.lits)) := hide ⟨x, HIn.out, by omega⟩
          have HD := hide (fun m => HBz.out _ (HBr.out.trans ((below_drewN wr m).mono hBw)))
          clear hx HA HCR HM
          go_upto_region 8 with fail
          go_quiet (fail)
          go_wp2_with fail
          go_ret2
          exact ⟨.inr (.inl ⟨HE.out, HR.out, rfl⟩), HD.out _⟩
        · by_cases hx1 : (n : Int) ≤ x
          · have HR : Hid (∃ x ∈ l, ¬ (0 ≤ x ∧ x < T.lits)) := hide ⟨x, HIn.out, by have := HLN.out; omega⟩
            have HD := hide (fun m => HBz.out _ (HBr.out.trans ((below_drewN wr m).mono hBw)))
            clear hx HA HCR HM
            go_upto_region 8 with fail
            go_quiet (fail)
            go_wp2_with fail
            go_ret2
            exact ⟨.inr (.inl ⟨HE.out, HR.out, rfl⟩), HD.out _⟩
          · obtain ⟨xm, rfl⟩ := Int.eq_ofNat_of_zero_le (a := x) (by omega)
            have hxn : xm < n := by omega
            have HR : Hid (∀ x ∈ l.take (k + 1), 0 ≤ x ∧ x < (n : Int)) := hide (by
              intro y hy
              rw [take_snoc hx] at hy
              rcases List.mem_append.1 hy with h | h
              · exact HA.out y h
              · have : y = (xm : Int) := by simpa using h
                omega)
            have HC2 : Hid (Cr T (l.take (k + 1)) n (R.set xm true)) := hide (by rw [take_snoc hx]; exact HCR.out.more hxn fun y hy => (HA.out y hy).1)
            have hm := HM.out.get hxn
            have hf := HM.out.fx.frz xm
            have HM2 : Hid (∀ m, Bm2 B n (R.set xm true) ((wr.drewN m).setCell ⟨B, xm, none⟩ (.bool true))) := hide fun m => (HM.out.go (below_drewN wr m)).set xm
            have HD := hide (fun m => (HBr.out.trans ((below_drewN wr m).mono hBw)).setCell (p := ⟨B, xm, none⟩) (Nat.le_refl B) (.bool true))
            generalize R.getD xm false = ob at *
            clear hx HA HCR HM HBr
            go_upto_region 8 with fail
            go_quiet (fail)
            go_wp2_with fail
            go_roundw
            case rel => exact ⟨k + 1, R.set xm true, by omega, by go_num, HR, HC2, HM2.out _, hide (HD.out _)⟩
            case measure => simp [intOf]; omega
      · have HAL : Hid (∀ x ∈ l, 0 ≤ x ∧ x < (n : Int)) := hide (by have := HA.out; rwa [List.take_of_length_le (by omega)] at this)
        have HCL : Hid (Cr T l n R) := hide (by have := HCR.out; rwa [List.take_of_length_le (by omega)] at this)
        clear HA HCR
        go_wp2_with fail
        clear c0 c1 c2 c3 hlt hk
        have HNN : Hid (∀ x ∈ l, 0 ≤ x) := hide fun x hx => (HAL.out x hx).1
        have hnf1 : n ≤ T.foes.length := by have := HFL.out; omega
        go_loopw [10] (fun x wr => ∃ (b : Bool) (R : List Bool), x = .bool b ∧ Hid (Cr T l n R) ∧ Hid (b = false → CloF T R n ∧ CloR T R T.rules.length) ∧ Hid (Bm2 B n R wr) ∧ Hid (Below B w1 wr)) (fun x wr => swp B x wr)
        case atStart => exact ⟨true, R, rfl, HCL, hide (fun h => by cases h), HM, HBr⟩
        case round =>
          clear HCL HM HBr hBw
          obtain ⟨b, R, rfl, HCR, HCl, HM, HBr⟩ := hrel
          have hBw : B ≤ wr.heap.size := by have := HBr.out.size; have := HBS.out; omega
          cases b with
          | false =>
            have CP := rnumbers_any (c := n) HM.out.fx (by rw [HM.out.ln]; omega)
            rw [HM.out.ln] at CP
            have HCP := hide CP
            have HBo := hide (HBz.out _ HBr.out)
            have HCd := hide (HCR.out.done (HCl.out rfl).1 (HCl.out rfl).2)
            have HRL : Hid (R.length = T.lits.toNat) := hide (by rw [HM.out.ln]; exact HN.out.symm)
            clear CP HM HCR HCl HBr
            go_wp2_with (go_at_call 37; refine HCP.out.mono ?_; rintro _ wz ⟨xa, xc, rfl, ho, hwz⟩; have HO := hide ho; have HWz := hide hwz; clear ho hwz)
            go_ret2
            exact ⟨.inr (.inr ⟨HE.out, by intro x hx; rw [HLN.out]; exact HAL.out x hx, R, xa, xc, HRL.out, HCd.out, rfl, HO.out⟩), HBo.out.trans (HWz.out.mono HBo.out.size)⟩
          | true =>
            have HTD := hide (swp_of HM.out true)
            clear HCl
            go_wp2_with fail
            go_loopw [10, 11] (fun y x ws => ∃ (b : Bool) (R2 : List Bool) (q : Nat), q ≤ n ∧ x = .int .i64 q ∧ y = .bool b ∧ Hid (Sw T l n R b R2) ∧ Hid (b = false → CloF T R2 q) ∧ Hid (Bm2 B n R2 ws) ∧ Hid (Below B w1 ws)) (fun _ x _ => n - (intOf x).toNat)
            case atStart => exact ⟨false, R, 0, by omega, rfl, rfl, hide ⟨HCR.out, by simp⟩, hide (fun _ x hx => absurd hx (by omega)), HM, HBr⟩
            case round =>
              clear HCR HM HBr hBw
              obtain ⟨b, R2, q, hq, rfl, rfl, HSw, HCF, HM, HBr⟩ := hrel
              obtain ⟨-, c0, c1, c2, c3⟩ := Bt.of (HXz.out _ HBr.out)
              rw [HLN.out] at c0
              by_cases hlt : q < n
              · obtain ⟨fl, hfl⟩ := get_at (l := T.foes) (i := q) (by omega)
                have HFLq := hide hfl
                have hll : fl.length ≤ 140737488351232 := by obtain ⟨_, _, _, _, _, _, _, _, h, _⟩ := at_L (HTz.out _ HBr.out).foes hfl; exact h
                have HRow : Hid (row T.foes (q : Int) = fl) := hide (by unfold row; rw [Int.toNat_natCast, List.getD_eq_getElem?_getD, hfl]; rfl)
                clear hfl
                go_wp2_with fail
                clear c0 c1 c2 c3
                go_loopw [10, 12] (fun y x wt => ∃ (b : Bool) (R3 : List Bool) (k : Nat), k ≤ fl.length ∧ x = .int .i64 k ∧ y = .bool b ∧ Hid (Sw T l n R b R3) ∧ Hid (b = false → CloF T R3 q ∧ ∀ y ∈ fl.take k, R3.getD q false = true → hit R3 y = true) ∧ Hid (Bm2 B n R3 wt) ∧ Hid (Below B w1 wt)) (fun _ x _ => fl.length - (intOf x).toNat)
                case atStart => exact ⟨b, R2, 0, by omega, rfl, rfl, HSw, hide (fun h => ⟨HCF.out h, by simp⟩), HM, HBr⟩
                case round =>
                  clear HSw HCF HM HBr
                  obtain ⟨b, R3, k, hk, rfl, rfl, HSw, HCF, HM, HBr⟩ := hrel
                  obtain ⟨-, c0, c1, c2, c3⟩ := Bt.of (HXz.out _ HBr.out)
                  rw [HLN.out] at c0
                  obtain ⟨g, of, a2, d2, rfl, -, kc, hc2, -, hI⟩ := at_L (HTz.out _ HBr.out).foes HFLq.out
                  have hm := HM.out.get hlt
                  by_cases hkl : k < fl.length
                  · cases hq3 : R3.getD q false with
                    | false =>
                      rw [hq3] at hm
                      have HN2 : Hid (b = false → CloF T R3 (q + 1)) := hide fun hb => (HCF.out hb).1.next fun y _ hh => by rw [hit_nat, hq3] at hh; cases hh
                      clear hq3 HCF hI
                      go_wp2_with fail
                      go_roundw
                      case rel => exact ⟨b, R3, q + 1, by omega, by go_num, rfl, HSw, HN2, HM, HBr⟩
                      case measure => simp [intOf]; omega
                    | true =>
                      rw [hq3] at hm
                      obtain ⟨y, hy⟩ := get_at hkl
                      obtain ⟨g3, o3, rfl, kc3⟩ := hI.at1.get hy
                      have hyr := HW.out.inn.foe (q : Int) y (by rw [HRow.out]; exact List.mem_of_getElem? hy)
                      rw [HLN.out] at hyr
                      obtain ⟨ym, rfl⟩ := Int.eq_ofNat_of_zero_le hyr.1
                      have hyn : ym < n := by omega
                      have hm2 := HM.out.get hyn
                      have HYm : Hid ((ym : Int) ∈ row T.foes (q : Int)) := hide (by rw [HRow.out]; exact List.mem_of_getElem? hy)
                      have HTk : Hid (fl.take (k + 1) = fl.take k ++ [(ym : Int)]) := hide (take_snoc hy)
                      have HQ3 := hide hq3
                      clear hq3 hy hyr hI
                      cases hy3 : R3.getD ym false with
                      | true =>
                        rw [hy3] at hm2
                        have HN2 : Hid (b = false → CloF T R3 q ∧ ∀ y ∈ fl.take (k + 1), R3.getD q false = true → hit R3 y = true) := hide fun hb => ⟨(HCF.out hb).1, fun z hz hh => by
                          rw [HTk.out] at hz
                          rcases List.mem_append.1 hz with hz | hz
                          · exact (HCF.out hb).2 z hz hh
                          · have : z = (ym : Int) := by simpa using hz
                            subst this
                            rw [hit_nat]; exact hy3⟩
                        clear hy3 HCF
                        go_wp2_with fail
                        go_roundw
                        case rel => exact ⟨b, R3, k + 1, by omega, by go_num, rfl, HSw, HN2, HM, HBr⟩
                        case measure => simp [intOf]; omega
                      | false =>
                        rw [hy3] at hm2
                        have HS2 : Hid (Sw T l n R true (R3.set ym true)) := hide (HSw.out.set hyn (.step (HSw.out.cr.snd (q : Int) (by omega) (by rw [hit_nat]; exact HQ3.out)) (.inl HYm.out)) HNN.out hy3)
                        have hf := HM.out.fx.frz ym
                        have HM2 := hide (HM.out.set ym)
                        have HB2 := hide (HBr.out.setCell (p := ⟨B, ym, none⟩) (Nat.le_refl B) (.bool true))
                        clear hy3 HCF HSw HM HBr
                        go_wp2_with fail
                        go_roundw
                        case rel => exact ⟨true, R3.set ym true, k + 1, by omega, by go_num, rfl, HS2, hide (fun h => by cases h), HM2, HB2⟩
                        case measure => simp [intOf]; omega
                  · have HN2 : Hid (b = false → CloF T R3 (q + 1)) := hide fun hb => (HCF.out hb).1.next fun y hy hh => by
                      rw [HRow.out] at hy
                      rw [hit_nat] at hh
                      exact (HCF.out hb).2 y (by rw [List.take_of_length_le (by omega)]; exact hy) hh
                    generalize R3.getD q false = ob at *
                    clear HCF hI
                    go_wp2_with fail
                    go_roundw
                    case rel => exact ⟨b, R3, q + 1, by omega, by go_num, rfl, HSw, HN2, HM, HBr⟩
                    case measure => simp [intOf]; omega
              · have HCF2 : Hid (b = false → CloF T R2 n) := hide (by have := HCF.out; rwa [show q = n by omega] at this)
                clear HCF
                go_wp2_with fail
                clear c0 c1 c2 c3
                go_loopw [10, 13] (fun y x ws => ∃ (b : Bool) (R2 : List Bool) (i : Nat), i ≤ T.rules.length ∧ x = .int .i64 i ∧ y = .bool b ∧ Hid (Sw T l n R b R2) ∧ Hid (b = false → CloF T R2 n ∧ CloR T R2 i) ∧ Hid (Bm2 B n R2 ws) ∧ Hid (Below B w1 ws)) (fun _ x _ => T.rules.length - (intOf x).toNat)
                case atStart => exact ⟨b, R2, 0, by omega, rfl, rfl, HSw, hide (fun h => ⟨HCF2.out h, fun j r hj => absurd hj (by omega)⟩), HM, HBr⟩
                case round =>
                  clear HSw HCF2 HM HBr hlt hq
                  obtain ⟨b, R2, i, hi, rfl, rfl, HSw, HCF, HM, HBr⟩ := hrel
                  have hBw : B ≤ wr.heap.size := by have := HBr.out.size; have := HBS.out; omega
                  obtain ⟨-, c0, c1, c2, c3⟩ := Bt.of (HXz.out _ HBr.out)
                  by_cases hir : i < T.rules.length
                  · obtain ⟨r, hr⟩ := get_at hir
                    obtain ⟨gr, go, bd, bp, rfl, hgr, x0, x1, x2, -, hbl, hbody⟩ := at_R (HTz.out _ HBr.out).rules hr
                    have hmem := List.mem_of_getElem? hr
                    have hb16 := HW.out.bl r hmem
                    have hbi := HW.out.bi r hmem
                    have hhd := HW.out.inn.head r hmem
                    rw [HLN.out] at hhd
                    obtain ⟨hm, hhm⟩ := Int.eq_ofNat_of_zero_le hhd.1
                    have hhn : hm < n := by omega
                    have HRr := hide hr
                    have HMem := hide hmem
                    have HHD := hide hhm
                    have HBI := hide hbi
                    have hA := below_new wr (.cells #[.int .i64 r.kind, .int .i64 r.head, .slice bd r.body.length bp] 70)
                    have HQ : Hid (Fx wr.heap.size 70 [.int .i64 r.kind, .int .i64 r.head, .slice bd r.body.length bp] (wr.alloc (.cells #[.int .i64 r.kind, .int .i64 r.head, .slice bd r.body.length bp] 70))) := hide (heap_alloc_new wr _)
                    have HMq := hide (HM.out.go hA)
                    have HBq := hide (HBr.out.trans (hA.mono hBw))
                    have HIB := hide (fun X (hX : Below B w1 X) => Ints.keep (w' := X) (fun g hg => (hX.block g (by have := HBS.out; omega)).trans (HBr.out.block g (by have := HBS.out; omega)).symm) hbody)
                    have HNE : Hid (wr.heap.size ≠ B) := hide (by have := HM.out.fx.lt; omega)
                    clear hr hmem hbi hA hbody HM HBr hBw hgr hbl
                    rw [hhm] at HQ HMq HBq x1
                    clear hhm
                    go_upto_region 27 with fail
                    generalize wr.alloc (.cells #[.int .i64 r.kind, .int .i64 hm, .slice bd r.body.length bp] 70) = wq at *
                    generalize wr.heap.size = gq at *
                    clear x0 x1 x2 c0 c1 c2 c3 hhd
                    generalize hbn : r.body.length = bn at *
                    have HBN := hide hbn
                    clear hbn
                    go_wp2_with fail
                    go_loopw [10, 15] (fun y x wt => ∃ (b : Bool) (R3 : List Bool) (k : Nat), k ≤ bn ∧ x = .int .i64 k ∧ y = .bool b ∧ Hid (Sw T l n R b R3) ∧ Hid (b = false → CloF T R3 n ∧ CloR T R3 i ∧ ∀ y ∈ r.body.take k, hit R3 y = true → hit R3 r.head = true) ∧ Hid (Bm2 B n R3 wt) ∧ Hid (Below B w1 wt) ∧ Hid (Fx gq 70 [.int .i64 r.kind, .int .i64 hm, .slice bd bn bp] wt)) (fun _ x _ => bn - (intOf x).toNat)
                    case atStart => exact ⟨b, R2, 0, by omega, rfl, rfl, HSw, hide (fun h => ⟨(HCF.out h).1, (HCF.out h).2, by simp⟩), HMq, HBq, HQ⟩
                    case round =>
                      clear HSw HCF HMq HBq HQ
                      obtain ⟨b, R3, k, hk, rfl, rfl, HSw, HCF, HM, HBr, HQ⟩ := hrel
                      have y1 := HQ.out.get (i := 1) rfl
                      have y2 := HQ.out.get (i := 2) rfl
                      by_cases hkl : k < bn
                      · obtain ⟨x, hx⟩ := get_at (l := r.body) (i := k) (by have := HBN.out; omega)
                        obtain ⟨g3, o3, rfl, -, kc3⟩ := at_I (HIB.out _ HBr.out) hx
                        have hxr := HBI.out x (List.mem_of_getElem? hx)
                        obtain ⟨xm, rfl⟩ := Int.eq_ofNat_of_zero_le hxr.1
                        have hxn : xm < n := by omega
                        have hm1 := HM.out.get hxn
                        have hm2 := HM.out.get hhn
                        have HXM := hide (List.mem_of_getElem? hx)
                        have HTk : Hid (r.body.take (k + 1) = r.body.take k ++ [(xm : Int)]) := hide (take_snoc hx)
                        have keep : (b = false → R3.getD xm false = true → R3.getD hm false = true) → Hid (b = false → CloF T R3 n ∧ CloR T R3 i ∧ ∀ y ∈ r.body.take (k + 1), hit R3 y = true → hit R3 r.head = true) := fun hok => hide fun hb => ⟨(HCF.out hb).1, (HCF.out hb).2.1, fun z hz hh => by
                          rw [HTk.out] at hz
                          rcases List.mem_append.1 hz with hz | hz
                          · exact (HCF.out hb).2.2 z hz hh
                          · have : z = (xm : Int) := by simpa using hz
                            subst this
                            rw [HHD.out, hit_nat]
                            rw [hit_nat] at hh
                            exact hok hb hh⟩
                        clear hx hxr
                        cases hx3 : R3.getD xm false with
                        | false =>
                          rw [hx3] at hm1
                          have HN2 := keep fun _ h => by rw [hx3] at h; cases h
                          generalize R3.getD hm false = ob at hm2
                          clear hx3 HCF keep
                          go_wp2_with fail
                          go_roundw
                          case rel => exact ⟨b, R3, k + 1, by omega, by go_num, rfl, HSw, HN2, HM, HBr, HQ⟩
                          case measure => simp [intOf]; omega
                        | true =>
                          rw [hx3] at hm1
                          cases hh3 : R3.getD hm false with
                          | true =>
                            rw [hh3] at hm2
                            have HN2 := keep fun _ _ => hh3
                            clear hx3 hh3 HCF keep
                            go_wp2_with fail
                            go_roundw
                            case rel => exact ⟨b, R3, k + 1, by omega, by go_num, rfl, HSw, HN2, HM, HBr, HQ⟩
                            case measure => simp [intOf]; omega
                          | false =>
                            rw [hh3] at hm2
                            have HS2 : Hid (Sw T l n R true (R3.set hm true)) := hide (HSw.out.set hhn (.step (HSw.out.cr.snd (xm : Int) (by omega) (by rw [hit_nat]; exact hx3)) (.inr ⟨r, HMem.out, HXM.out, HHD.out.symm⟩)) HNN.out hh3)
                            have hf := HM.out.fx.frz hm
                            have HM2 := hide (HM.out.set hm)
                            have HB2 := hide (HBr.out.setCell (p := ⟨B, hm, none⟩) (Nat.le_refl B) (.bool true))
                            have HQ2 := hide (HQ.out.keep (w' := wr.setCell ⟨B, hm, none⟩ (.bool true)) (other_set HNE.out))
                            clear hx3 hh3 HCF keep HSw HM HBr HQ
                            go_wp2_with fail
                            go_roundw
                            case rel => exact ⟨true, R3.set hm true, k + 1, by omega, by go_num, rfl, HS2, hide (fun h => by cases h), HM2, HB2, HQ2⟩
                            case measure => simp [intOf]; omega
                      · have HN2 : Hid (b = false → CloF T R3 n ∧ CloR T R3 (i + 1)) := hide fun hb => ⟨(HCF.out hb).1, (HCF.out hb).2.1.next HRr.out fun y hy hh => (HCF.out hb).2.2 y (by rw [List.take_of_length_le (by have := HBN.out; omega)]; exact hy) hh⟩
                        clear HCF
                        go_wp2_with fail
                        go_roundw
                        case rel => exact ⟨b, R3, i + 1, by omega, by go_num, rfl, HSw, HN2, HM, HBr⟩
                        case measure => simp [intOf]; omega
                  · have HEi : Hid (i = T.rules.length) := hide (by omega)
                    have HCF2 : Hid (b = false → CloF T R2 n ∧ CloR T R2 T.rules.length) := hide (by have := HCF.out; rwa [HEi.out] at this)
                    have HM2 : Hid (swp B (.bool b) wr < 2 * offC R + 1) := hide (by
                      rw [swp_of HM.out b]
                      have := HSw.out.off
                      cases b <;> simp at this ⊢ <;> omega)
                    clear HCF
                    go_wp2_with fail
                    go_roundw
                    case rel => exact ⟨b, R2, rfl, hide HSw.out.cr, HCF2, HM, HBr⟩
                    case measure =>
                      rw [HTD.out]
                      exact HM2.out
  · have hab2 : (e0 != 0) = true := by simpa using ha
    go_wp2_with (go_at_call 27; refine CC.out.mono ?_; rintro _ w1 ⟨rfl, hw1⟩; have HB1 := hide (HB.out.trans (hw1.mono HB.out.size)); clear hw1)
    go_ret2
    refine ⟨.inl ⟨by rw [HE.out]; exact ha, ?_⟩, HB1.out⟩
    rw [HE.out]; rfl
end Go.Proofs.Ytdmnoeooljofcaa.Rf
