/- Lists of numbers in memory of their own are apart (Ints). -/
import Derived.Test.YtfnobccminhjpabGreatBkLot
import Derived.Deep.RegionLaw
namespace Go.Proofs.YtfnobccminhjpabGreat
open Go.RowKit

theorem infoIntsL : (Tryz.prog.info? 61).map (fun i => (i.zero, i.size, i.bytes)) = some (some (.slice none 0 0), 1, 24) := by kernel_rfl

set_option maxRecDepth 100000 in
set_option maxHeartbeats 4000000 in
theorem apartInts_some (bb B g cm m : Nat) (b n c : Nat → Nat) (ys : Nat → List Value) (w : World) (hm0 : 1 ≤ m) (hm : m ≤ 1000000) (hn : ∀ j, j < m → 1 ≤ n j ∧ n j ≤ 6000000000000) (hbd : ∀ i j, i < m → j < m → i ≠ j → b i ≠ b j)
    (hbook : w.cell? ⟨bb, 1, none⟩ = some (.slice (some ⟨g, 0, none⟩) m cm)) (hM : Marking B 3 1 61 g cm m b n c w w ys) :
    Calls Tryz.prog 30 #[.pointer (some ⟨bb, 0, none⟩)] w fun e w' => e = .returned (.bool true) ∧ Below B w w' ∧ ∀ k, k < w.heap.size → (∀ j, j < m → k ≠ b j) → w'.heap[k]? = w.heap[k]? := by
  obtain ⟨iM, hiM, zM0, zM1, zM2⟩ := info_parts' infoI
  obtain ⟨iL, hiL, zL0, zL1, zL2⟩ := info_parts' infoIntsL
  have CM := hide markInts_any
  have HN := hide hn
  have HBD := hide hbd
  have HM := hide hM
  clear hn hbd hM
  go_enter Tryz.func30, Tryz.ntmps30
  go_wp2_with fail
  go_loopw [4] (fun x wr => ∃ (i : Nat) (ys : Nat → List Value), i ≤ m ∧ x = .int .i64 i ∧ Hid (Marking B 3 1 61 g cm m b n c w wr ys) ∧ Hid (∀ j, j < i → ys j = marksOf mkVI j (n j * 1))) (fun x _ => m - (intOf x).toNat)
  case atStart => exact ⟨0, ys, Nat.zero_le _, rfl, HM, fun j hj => by omega⟩
  case round =>
    obtain ⟨i, ys1, hi, rfl, HK, HY⟩ := hrel
    by_cases hlt : i < m
    · have hni := HN.out i hlt
      go_wp2_with fail
      go_loopw [5] (fun x wx => ∃ (k : Nat) (ys2 : Nat → List Value), k ≤ n i ∧ x = .int .i64 k ∧ Hid (Marking B 3 1 61 g cm m b n c w wx ys2) ∧ Hid (∀ j, j < i → ys2 j = marksOf mkVI j (n j * 1)) ∧ Hid ((ys2 i).take k = marksOf mkVI i k)) (fun x _ => n i - (intOf x).toNat)
      case atStart => exact ⟨0, ys1, Nat.zero_le _, rfl, HK, HY, by simp [Hid, marksOf]⟩
      case round =>
        clear HK HY
        obtain ⟨k, ys2, hk, rfl, HK, HY, HT⟩ := hrel
        have hcell := HK.out.at hlt
        by_cases hlk : k < n i
        · have hown := HK.out.own i hlt
          have hfz := hown.frozenAt k
          have hcl : wr.cell? ⟨b i, k, none⟩ = some ((ys2 i).getD k (.int .i64 0)) := by
            rw [hown.cellAt k (by omega)]
            have : k < (ys2 i).length := by rw [hown.1]; omega
            simp [List.getD, this]
          have HL : Hid (k < (ys2 i).length) := by unfold Hid; rw [hown.1]; omega
          clear hown
          go_wp2_with fail
          go_region_with ((go_at_call 68; refine (CM.out _ _ _ (by omega) (by omega)).mono ?_; rintro e w' ⟨rfl, rfl⟩))
          all_goals
            go_wp2_with fail
            go_roundw
            case rel =>
              refine ⟨k + 1, _, by omega, by go_num, (HK.out.put (by decide) HBD.out hlt (k := k) (mkVI i k)).drew, fun j hj => ?_, ?_⟩
              · simp only [if_neg (Nat.ne_of_lt hj)]; exact HY.out j hj
              · unfold Hid; simp only [if_pos]; rw [take_set_succ _ _ _ HL.out, HT.out, marksOf_succ]
            case measure => simp [intOf]; omega
        · have hke : k = n i := by omega
          go_wp2_with fail
          go_roundw
          case rel =>
            refine ⟨i + 1, ys2, by omega, by go_num, HK, fun j hj => ?_⟩
            by_cases e2 : j = i
            · subst e2
              have h1 := HT.out
              rw [hke, List.take_of_length_le (by rw [(HK.out.own j hlt).1]; omega)] at h1
              rw [Nat.mul_one]
              exact h1
            · exact HY.out j (by omega)
          case measure => simp [intOf]; omega
    · have hie : i = m := by omega
      subst hie
      have HG : Hid (Growing B 3 1 61 g cm i b n c mkVI w wr 0 (fun _ => 0) (fun _ => 0) (.slice none 0 0)) := Growing.start HK.out HY.out
      clear HK HY HM hlt hi hbook
      go_wp2_with fail
      go_loopw [6, 7] (fun G x wx => ∃ (i0 : Nat) (bg cg : Nat → Nat), i0 ≤ i ∧ x = .int .i64 i0 ∧ Hid (Growing B 3 1 61 g cm i b n c mkVI w wx i0 bg cg G)) (fun _ x _ => i - (intOf x).toNat)
      case atStart => exact ⟨0, _, _, Nat.zero_le _, rfl, HG⟩
      case round =>
        clear HG
        obtain ⟨i0, bg, cg, hi0, rfl, HG⟩ := hrel
        by_cases hlt : i0 < i
        · have hni := HN.out i0 hlt
          have hcell := HG.out.at hlt
          have HE := hide (HG.out.enter hlt HBD.out)
          clear HG
          go_wp2_with fail
          go_loopw [8, 9] (fun v x wy => ∃ q bc cc : Nat, q ≤ 20 ∧ x = .int .i64 q ∧ v = .slice (some ⟨bc, 0, none⟩) (n i0 + q) cc ∧ Hid (Grows B 3 1 61 g cm i b n c mkVI w wy i0 bg cg u6 q bc cc)) (fun _ x _ => 20 - (intOf x).toNat)
          case atStart => exact ⟨0, b i0, c i0, by omega, rfl, rfl, HE⟩
          case round =>
            clear HE hcell
            obtain ⟨q, bc, cc, hq, rfl, rfl, HE⟩ := hrel
            have hBs : B ≤ wr.heap.size := by have := HE.out.cont.lt g rfl; omega
            by_cases hlq : q < 20
            · go_wp2_with (first
                | (go_at_call 68; refine (CM.out i0 (n i0 + q) _ (by omega) (by omega)).mono ?_; rintro e w' ⟨rfl, hww⟩; subst w')
                | (at_builtin; go_must (refine wpList_append_two _ rfl _ _ 61 rfl B 3 iM (.int .i64 0) 1 8 Tryz.underlying61 hiM zM0 zM1 zM2 rfl (by decide) _ _ _ rfl (HE.out.cur.alloc _) ⟨wr.heap.size, 0, none⟩ 1 [mkVI i0 (n i0 + q)] rfl rfl (cell_one_new _ _ _) (by intro u hu; simp at hu; subst hu; rfl) (by unfold maxLen; omega) (by omega) (by simp; omega) ?_)))
              intro g' cap' w1 hown' hg'
              have hown2 : w1.ownsRow B 3 1 (.slice (some ⟨g', 0, none⟩) (n i0 + q + 1) cap') (n i0 + q + 1) (marksOf mkVI i0 ((n i0 + q + 1) * 1)) := by
                rw [Nat.mul_one, marksOf_succ]
                simpa using hown'
              have HE2 := hide ((HE.out.alloc _).step (by decide) (fun j hj => by have := (HN.out j hj).1; omega) hlt hown2 (hg'.imp id (fun h => ⟨by rw [h.1]; simp, h.2⟩)))
              clear hown' hown2 hg' HE
              go_wp2_with fail
              go_roundw
              case rel => exact ⟨q + 1, g', cap', by omega, by go_num, rfl, HE2⟩
              case measure => simp [intOf]; omega
            · have hqe : q = 20 := by omega
              subst hqe
              go_wp2_with (at_builtin; go_must (refine wpList_append_two _ rfl _ _ 37 rfl B 61 iL (.slice none 0 0) 1 24 Tryz.underlying37 hiL zL0 zL1 zL2 rfl (by decide) _ _ _ rfl (HE.out.grownC.alloc _) ⟨wr.heap.size, 0, none⟩ 1 [.slice (some ⟨bc, 0, none⟩) (n i0 + 20) cc] rfl rfl (cell_one_new _ _ _) (by simp [Value.oneCell']) (by unfold maxLen; omega) (by omega) (by simp; omega) ?_))
              intro g' cap' w1 hown' hg'
              have HG2 := hide ((HE.out.alloc _).leave (by decide) (fun j hj => by have := (HN.out j hj).1; omega) hlt hown' (hg'.imp id (fun h => ⟨by rw [h.1]; simp, h.2⟩)))
              clear hown' hg' HE
              go_wp2_with fail
              go_roundw
              case rel => exact ⟨i0 + 1, _, _, by omega, by go_num, HG2⟩
              case measure => simp [intOf]; omega
        · have hie : i0 = i := by omega
          subst hie
          obtain ⟨gg, cG, hu6, _⟩ := own_some HG.out.grownC (by omega) (by decide)
          subst hu6
          clear hlt hi0
          go_wp2_with fail
          go_loop [10] (fun x => ∃ i1 : Nat, i1 ≤ i0 ∧ x = .int .i64 i1) (fun x => i0 - (intOf x).toNat)
          case atStart => exact ⟨0, Nat.zero_le _, rfl⟩
          case round =>
            obtain ⟨i1, hi1, rfl⟩ := hrel
            by_cases hlt : i1 < i0
            · have hni := HN.out i1 hlt
              have hcl : wr.cell? ⟨g, i1, none⟩ = some (.slice (some ⟨b i1, 0, none⟩) (n i1) (c i1)) := HG.out.at hlt
              have hcg : wr.cell? ⟨gg, i1, none⟩ = some (.slice (some ⟨bg i1, 0, none⟩) (n i1 + 20) (cg i1)) := by
                rw [HG.out.grownC.cellAt i1 (by omega)]; simp [hlt, rowV]
              go_wp2_with fail
              go_loop [11, 12] (fun x _ => ∃ k1 : Nat, k1 ≤ n i1 + 20 ∧ x = .int .i64 k1) (fun x _ => n i1 + 20 - (intOf x).toNat)
              case atStart => exact ⟨0, Nat.zero_le _, rfl⟩
              case round =>
                obtain ⟨k1, hk1, rfl⟩ := hrel
                by_cases hlk : k1 < n i1 + 20
                · have hcx : wr.cell? ⟨bg i1, k1, none⟩ = some (.int .i64 (mkI i1 k1)) := by
                    have hgr : wr.ownsRow B 3 1 (.slice (some ⟨bg i1, 0, none⟩) (n i1 + 20) (cg i1)) (n i1 + 20) (marksOf mkVI i1 ((n i1 + 20) * 1)) := HG.out.grown i1 hlt
                    rw [hgr.cellAt k1 (by omega)]; exact marksOf_at mkVI i1 _ k1 (by omega)
                  by_cases hl2 : k1 < n i1
                  · have hco : wr.cell? ⟨b i1, k1, none⟩ = some (.int .i64 (mkI i1 k1)) := HG.out.old i1 hlt k1 (by omega)
                    generalize hmv : mkI i1 k1 = mv at hcx hco
                    have HMV := hide hmv
                    clear hmv
                    go_wp2_with (go_at_call 68; refine (CM.out i1 k1 _ (by omega) (by omega)).mono ?_; rintro e w' ⟨rfl, hww⟩; subst w'; rw [HMV.out])
                    go_round
                    case rel => exact ⟨k1 + 1, by omega, by go_num⟩
                    case measure => simp [intOf]; omega
                  · generalize hmv : mkI i1 k1 = mv at hcx
                    have HMV := hide hmv
                    clear hmv
                    go_wp2_with (go_at_call 68; refine (CM.out i1 k1 _ (by omega) (by omega)).mono ?_; rintro e w' ⟨rfl, hww⟩; subst w'; rw [HMV.out])
                    go_round
                    case rel => exact ⟨k1 + 1, by omega, by go_num⟩
                    case measure => simp [intOf]; omega
                · go_wp2_with fail
                  go_round
                  case rel => exact ⟨i1 + 1, by omega, by go_num⟩
                  case measure => simp [intOf]; omega
            · go_wp2_with fail
              go_ret
              exact ⟨rfl, HG.out.bel, HG.out.keep⟩

end Go.Proofs.YtfnobccminhjpabGreat
/- Lists of numbers in memory of their own are apart (Kinds). -/
namespace Go.Proofs.YtfnobccminhjpabGreat
open Go.RowKit

theorem infoO9 : (Tryz.prog.info? 112).map (fun i => (i.zero, i.size, i.bytes)) = some (some (.int .i64 0), 1, 8) := by kernel_rfl
theorem infoKindsL : (Tryz.prog.info? 75).map (fun i => (i.zero, i.size, i.bytes)) = some (some (.slice none 0 0), 1, 24) := by kernel_rfl

set_option maxRecDepth 100000 in
set_option maxHeartbeats 4000000 in
theorem apartKinds_some (bb B g cm m : Nat) (b n c : Nat → Nat) (ys : Nat → List Value) (w : World) (hm0 : 1 ≤ m) (hm : m ≤ 1000000) (hn : ∀ j, j < m → 1 ≤ n j ∧ n j ≤ 6000000000000) (hbd : ∀ i j, i < m → j < m → i ≠ j → b i ≠ b j)
    (hbook : w.cell? ⟨bb, 15, none⟩ = some (.slice (some ⟨g, 0, none⟩) m cm)) (hM : Marking B 112 1 75 g cm m b n c w w ys) :
    Calls Tryz.prog 37 #[.pointer (some ⟨bb, 0, none⟩)] w fun e w' => e = .returned (.bool true) ∧ Below B w w' ∧ ∀ k, k < w.heap.size → (∀ j, j < m → k ≠ b j) → w'.heap[k]? = w.heap[k]? := by
  obtain ⟨iM, hiM, zM0, zM1, zM2⟩ := info_parts' infoO9
  obtain ⟨iL, hiL, zL0, zL1, zL2⟩ := info_parts' infoKindsL
  have CM := hide markKinds_any
  have HN := hide hn
  have HBD := hide hbd
  have HM := hide hM
  clear hn hbd hM
  go_enter Tryz.func37, Tryz.ntmps37
  go_wp2_with fail
  go_loopw [4] (fun x wr => ∃ (i : Nat) (ys : Nat → List Value), i ≤ m ∧ x = .int .i64 i ∧ Hid (Marking B 112 1 75 g cm m b n c w wr ys) ∧ Hid (∀ j, j < i → ys j = marksOf mkVK j (n j * 1))) (fun x _ => m - (intOf x).toNat)
  case atStart => exact ⟨0, ys, Nat.zero_le _, rfl, HM, fun j hj => by omega⟩
  case round =>
    obtain ⟨i, ys1, hi, rfl, HK, HY⟩ := hrel
    by_cases hlt : i < m
    · have hni := HN.out i hlt
      go_wp2_with fail
      go_loopw [5] (fun x wx => ∃ (k : Nat) (ys2 : Nat → List Value), k ≤ n i ∧ x = .int .i64 k ∧ Hid (Marking B 112 1 75 g cm m b n c w wx ys2) ∧ Hid (∀ j, j < i → ys2 j = marksOf mkVK j (n j * 1)) ∧ Hid ((ys2 i).take k = marksOf mkVK i k)) (fun x _ => n i - (intOf x).toNat)
      case atStart => exact ⟨0, ys1, Nat.zero_le _, rfl, HK, HY, by simp [Hid, marksOf]⟩
      case round =>
        clear HK HY
        obtain ⟨k, ys2, hk, rfl, HK, HY, HT⟩ := hrel
        have hcell := HK.out.at hlt
        by_cases hlk : k < n i
        · have hown := HK.out.own i hlt
          have hfz := hown.frozenAt k
          have hcl : wr.cell? ⟨b i, k, none⟩ = some ((ys2 i).getD k (.int .i64 0)) := by
            rw [hown.cellAt k (by omega)]
            have : k < (ys2 i).length := by rw [hown.1]; omega
            simp [List.getD, this]
          have HL : Hid (k < (ys2 i).length) := by unfold Hid; rw [hown.1]; omega
          clear hown
          go_wp2_with fail
          go_region_with ((go_at_call 75; refine (CM.out _ _ _ (by omega) (by omega)).mono ?_; rintro e w' ⟨rfl, rfl⟩))
          all_goals
            go_wp2_with fail
            go_roundw
            case rel =>
              refine ⟨k + 1, _, by omega, by go_num, (HK.out.put (by decide) HBD.out hlt (k := k) (mkVK i k)).drew, fun j hj => ?_, ?_⟩
              · simp only [if_neg (Nat.ne_of_lt hj)]; exact HY.out j hj
              · unfold Hid; simp only [if_pos]; rw [take_set_succ _ _ _ HL.out, HT.out, marksOf_succ]
            case measure => simp [intOf]; omega
        · have hke : k = n i := by omega
          go_wp2_with fail
          go_roundw
          case rel =>
            refine ⟨i + 1, ys2, by omega, by go_num, HK, fun j hj => ?_⟩
            by_cases e2 : j = i
            · subst e2
              have h1 := HT.out
              rw [hke, List.take_of_length_le (by rw [(HK.out.own j hlt).1]; omega)] at h1
              rw [Nat.mul_one]
              exact h1
            · exact HY.out j (by omega)
          case measure => simp [intOf]; omega
    · have hie : i = m := by omega
      subst hie
      have HG : Hid (Growing B 112 1 75 g cm i b n c mkVK w wr 0 (fun _ => 0) (fun _ => 0) (.slice none 0 0)) := Growing.start HK.out HY.out
      clear HK HY HM hlt hi hbook
      go_wp2_with fail
      go_loopw [6, 7] (fun G x wx => ∃ (i0 : Nat) (bg cg : Nat → Nat), i0 ≤ i ∧ x = .int .i64 i0 ∧ Hid (Growing B 112 1 75 g cm i b n c mkVK w wx i0 bg cg G)) (fun _ x _ => i - (intOf x).toNat)
      case atStart => exact ⟨0, _, _, Nat.zero_le _, rfl, HG⟩
      case round =>
        clear HG
        obtain ⟨i0, bg, cg, hi0, rfl, HG⟩ := hrel
        by_cases hlt : i0 < i
        · have hni := HN.out i0 hlt
          have hcell := HG.out.at hlt
          have HE := hide (HG.out.enter hlt HBD.out)
          clear HG
          go_wp2_with fail
          go_loopw [8, 9] (fun v x wy => ∃ q bc cc : Nat, q ≤ 20 ∧ x = .int .i64 q ∧ v = .slice (some ⟨bc, 0, none⟩) (n i0 + q) cc ∧ Hid (Grows B 112 1 75 g cm i b n c mkVK w wy i0 bg cg u6 q bc cc)) (fun _ x _ => 20 - (intOf x).toNat)
          case atStart => exact ⟨0, b i0, c i0, by omega, rfl, rfl, HE⟩
          case round =>
            clear HE hcell
            obtain ⟨q, bc, cc, hq, rfl, rfl, HE⟩ := hrel
            have hBs : B ≤ wr.heap.size := by have := HE.out.cont.lt g rfl; omega
            by_cases hlq : q < 20
            · go_wp2_with (first
                | (go_at_call 75; refine (CM.out i0 (n i0 + q) _ (by omega) (by omega)).mono ?_; rintro e w' ⟨rfl, hww⟩; subst w')
                | (at_builtin; go_must (refine wpList_append_two _ rfl _ _ 75 rfl B 112 iM (.int .i64 0) 1 8 Tryz.underlying75 hiM zM0 zM1 zM2 rfl (by decide) _ _ _ rfl (HE.out.cur.alloc _) ⟨wr.heap.size, 0, none⟩ 1 [mkVK i0 (n i0 + q)] rfl rfl (cell_one_new _ _ _) (by intro u hu; simp at hu; subst hu; rfl) (by unfold maxLen; omega) (by omega) (by simp; omega) ?_)))
              intro g' cap' w1 hown' hg'
              have hown2 : w1.ownsRow B 112 1 (.slice (some ⟨g', 0, none⟩) (n i0 + q + 1) cap') (n i0 + q + 1) (marksOf mkVK i0 ((n i0 + q + 1) * 1)) := by
                rw [Nat.mul_one, marksOf_succ]
                simpa using hown'
              have HE2 := hide ((HE.out.alloc _).step (by decide) (fun j hj => by have := (HN.out j hj).1; omega) hlt hown2 (hg'.imp id (fun h => ⟨by rw [h.1]; simp, h.2⟩)))
              clear hown' hown2 hg' HE
              go_wp2_with fail
              go_roundw
              case rel => exact ⟨q + 1, g', cap', by omega, by go_num, rfl, HE2⟩
              case measure => simp [intOf]; omega
            · have hqe : q = 20 := by omega
              subst hqe
              go_wp2_with (at_builtin; go_must (refine wpList_append_two _ rfl _ _ 50 rfl B 75 iL (.slice none 0 0) 1 24 Tryz.underlying50 hiL zL0 zL1 zL2 rfl (by decide) _ _ _ rfl (HE.out.grownC.alloc _) ⟨wr.heap.size, 0, none⟩ 1 [.slice (some ⟨bc, 0, none⟩) (n i0 + 20) cc] rfl rfl (cell_one_new _ _ _) (by simp [Value.oneCell']) (by unfold maxLen; omega) (by omega) (by simp; omega) ?_))
              intro g' cap' w1 hown' hg'
              have HG2 := hide ((HE.out.alloc _).leave (by decide) (fun j hj => by have := (HN.out j hj).1; omega) hlt hown' (hg'.imp id (fun h => ⟨by rw [h.1]; simp, h.2⟩)))
              clear hown' hg' HE
              go_wp2_with fail
              go_roundw
              case rel => exact ⟨i0 + 1, _, _, by omega, by go_num, HG2⟩
              case measure => simp [intOf]; omega
        · have hie : i0 = i := by omega
          subst hie
          obtain ⟨gg, cG, hu6, _⟩ := own_some HG.out.grownC (by omega) (by decide)
          subst hu6
          clear hlt hi0
          go_wp2_with fail
          go_loop [10] (fun x => ∃ i1 : Nat, i1 ≤ i0 ∧ x = .int .i64 i1) (fun x => i0 - (intOf x).toNat)
          case atStart => exact ⟨0, Nat.zero_le _, rfl⟩
          case round =>
            obtain ⟨i1, hi1, rfl⟩ := hrel
            by_cases hlt : i1 < i0
            · have hni := HN.out i1 hlt
              have hcl : wr.cell? ⟨g, i1, none⟩ = some (.slice (some ⟨b i1, 0, none⟩) (n i1) (c i1)) := HG.out.at hlt
              have hcg : wr.cell? ⟨gg, i1, none⟩ = some (.slice (some ⟨bg i1, 0, none⟩) (n i1 + 20) (cg i1)) := by
                rw [HG.out.grownC.cellAt i1 (by omega)]; simp [hlt, rowV]
              go_wp2_with fail
              go_loop [11, 12] (fun x _ => ∃ k1 : Nat, k1 ≤ n i1 + 20 ∧ x = .int .i64 k1) (fun x _ => n i1 + 20 - (intOf x).toNat)
              case atStart => exact ⟨0, Nat.zero_le _, rfl⟩
              case round =>
                obtain ⟨k1, hk1, rfl⟩ := hrel
                by_cases hlk : k1 < n i1 + 20
                · have hcx : wr.cell? ⟨bg i1, k1, none⟩ = some (.int .i64 (mkK i1 k1)) := by
                    have hgr : wr.ownsRow B 112 1 (.slice (some ⟨bg i1, 0, none⟩) (n i1 + 20) (cg i1)) (n i1 + 20) (marksOf mkVK i1 ((n i1 + 20) * 1)) := HG.out.grown i1 hlt
                    rw [hgr.cellAt k1 (by omega)]; exact marksOf_at mkVK i1 _ k1 (by omega)
                  by_cases hl2 : k1 < n i1
                  · have hco : wr.cell? ⟨b i1, k1, none⟩ = some (.int .i64 (mkK i1 k1)) := HG.out.old i1 hlt k1 (by omega)
                    generalize hmv : mkK i1 k1 = mv at hcx hco
                    have HMV := hide hmv
                    clear hmv
                    go_wp2_with (go_at_call 75; refine (CM.out i1 k1 _ (by omega) (by omega)).mono ?_; rintro e w' ⟨rfl, hww⟩; subst w'; rw [HMV.out])
                    go_round
                    case rel => exact ⟨k1 + 1, by omega, by go_num⟩
                    case measure => simp [intOf]; omega
                  · generalize hmv : mkK i1 k1 = mv at hcx
                    have HMV := hide hmv
                    clear hmv
                    go_wp2_with (go_at_call 75; refine (CM.out i1 k1 _ (by omega) (by omega)).mono ?_; rintro e w' ⟨rfl, hww⟩; subst w'; rw [HMV.out])
                    go_round
                    case rel => exact ⟨k1 + 1, by omega, by go_num⟩
                    case measure => simp [intOf]; omega
                · go_wp2_with fail
                  go_round
                  case rel => exact ⟨i1 + 1, by omega, by go_num⟩
                  case measure => simp [intOf]; omega
            · go_wp2_with fail
              go_ret
              exact ⟨rfl, HG.out.bel, HG.out.keep⟩

end Go.Proofs.YtfnobccminhjpabGreat
/- Lists of texts in memory of their own are apart. -/
namespace Go.Proofs.YtfnobccminhjpabGreat
open Go.RowKit

def mkS (i k : Nat) : Value := .string (bookB i k)

theorem marksS (i n : Nat) : marksOf mkS i ((n + 1) * 1) = marksOf mkS i n ++ [.string (bookB i n)] := by rw [Nat.mul_one, marksOf_succ]; rfl

theorem infoStrs : (Tryz.prog.info? 22).map (fun i => (i.zero, i.size, i.bytes)) = some (some (.slice none 0 0), 1, 24) := by kernel_rfl

theorem cell_one_at (w : World) (x : Value) (t : TypeId) (a : Nat) (ha : a = w.heap.size) : ∀ j u, [x][j]? = some u → (w.alloc (.cells #[x] t)).cell? ((⟨a, 0, none⟩ : Addr).add j) = some u := by
  subst ha
  exact cell_one_new w x t

set_option maxRecDepth 100000 in
set_option maxHeartbeats 4000000 in
theorem apartStrings_some (bb B g cm m : Nat) (b n c : Nat → Nat) (ys : Nat → List Value) (w : World) (hm0 : 1 ≤ m) (hm : m ≤ 1000000) (hn : ∀ j, j < m → 1 ≤ n j ∧ n j ≤ 1000000) (hbd : ∀ i j, i < m → j < m → i ≠ j → b i ≠ b j)
    (hbook : w.cell? ⟨bb, 2, none⟩ = some (.slice (some ⟨g, 0, none⟩) m cm)) (hM : Marking B 9 1 22 g cm m b n c w w ys) :
    Calls Tryz.prog 31 #[.pointer (some ⟨bb, 0, none⟩)] w fun e w' => e = .returned (.bool true) ∧ Below B w w' ∧ ∀ k, k < w.heap.size → (∀ j, j < m → k ≠ b j) → w'.heap[k]? = w.heap[k]? := by
  obtain ⟨iM, hiM, zM0, zM1, zM2⟩ := info_parts' infoS
  obtain ⟨iL, hiL, zL0, zL1, zL2⟩ := info_parts' infoStrs
  have CM := hide markStrings_any
  have HN := hide hn
  have HBD := hide hbd
  have HM := hide hM
  clear hn hbd hM
  go_enter Tryz.func31, Tryz.ntmps31
  go_wp2_with fail
  go_loopw [4] (fun x wr => ∃ (i : Nat) (ys : Nat → List Value), i ≤ m ∧ x = .int .i64 i ∧ Hid (Marking B 9 1 22 g cm m b n c w wr ys) ∧ Hid (∀ j, j < i → ys j = marksOf mkS j (n j * 1))) (fun x _ => m - (intOf x).toNat)
  case atStart => exact ⟨0, ys, Nat.zero_le _, rfl, HM, fun j hj => by omega⟩
  case round =>
    obtain ⟨i, ys1, hi, rfl, HK, HY⟩ := hrel
    by_cases hlt : i < m
    · have hni := HN.out i hlt
      go_wp2_with fail
      go_loopw [5] (fun x wx => ∃ (k : Nat) (ys2 : Nat → List Value), k ≤ n i ∧ x = .int .i64 k ∧ Hid (Marking B 9 1 22 g cm m b n c w wx ys2) ∧ Hid (∀ j, j < i → ys2 j = marksOf mkS j (n j * 1)) ∧ Hid ((ys2 i).take (k * 1) = marksOf mkS i (k * 1))) (fun x _ => n i - (intOf x).toNat)
      case atStart => exact ⟨0, ys1, Nat.zero_le _, rfl, HK, HY, by simp [Hid, marksOf]⟩
      case round =>
        clear HK HY
        obtain ⟨k, ys2, hk, rfl, HK, HY, HT⟩ := hrel
        have hcell := HK.out.at hlt
        by_cases hlk : k < n i
        · have hown := HK.out.own i hlt
          have hf0 := hown.frozenAt k
          have hbl := (hown.lt (b i) rfl).2
          have hlen : (ys2 i).length = n i * 1 := hown.1
          obtain ⟨v0, hv0⟩ : ∃ v, wr.cell? ⟨b i, k, none⟩ = some v := ⟨_, (hown.cellAt k (by omega)).trans (List.getElem?_eq_getElem (by omega))⟩
          have HL := hide hlen
          clear hlen
          have hgl := (HK.out.cont.lt g rfl).2
          clear hown
          have HP := hide (((HK.out.put (by decide) HBD.out hlt (k := k) (.string (bookB i k))).below ((Below.refl _ _).alloc (Nat.le_refl _) (.cells (bookC i k) 5))).drew)
          go_wp2_with fail
          go_region_law (go_simp; go_wp2_with (go_at_call 69; refine (CM.out _ _ _ (by omega) (by omega)).mono ?_; rintro e w' ⟨rfl, rfl⟩))
          all_goals
            go_wp2_with fail
            go_roundw
            case rel =>
              refine ⟨k + 1, _, by omega, by go_num, HP, fun j hj => ?_, ?_⟩
              · simp only [if_neg (Nat.ne_of_lt hj)]; exact HY.out j hj
              · unfold Hid; simp only [if_pos]; have h1 := HT.out; rw [Nat.mul_one] at h1; rw [Nat.mul_one, take_set_succ _ _ _ (by rw [HL.out]; omega), h1, marksOf_succ]; rfl
            case measure => simp [intOf]; omega
        · have hke : k = n i := by omega
          go_wp2_with fail
          go_roundw
          case rel =>
            refine ⟨i + 1, ys2, by omega, by go_num, HK, fun j hj => ?_⟩
            by_cases e2 : j = i
            · subst e2
              have h1 := HT.out
              rwa [hke, List.take_of_length_le (by rw [(HK.out.own j hlt).1]; omega)] at h1
            · exact HY.out j (by omega)
          case measure => simp [intOf]; omega
    · have hie : i = m := by omega
      subst hie
      have HG : Hid (Growing B 9 1 22 g cm i b n c mkS w wr 0 (fun _ => 0) (fun _ => 0) (.slice none 0 0)) := Growing.start HK.out HY.out
      clear HK HY HM hlt hi hbook
      go_wp2_with fail
      go_loopw [6, 7] (fun G x wx => ∃ (i0 : Nat) (bg cg : Nat → Nat), i0 ≤ i ∧ x = .int .i64 i0 ∧ Hid (Growing B 9 1 22 g cm i b n c mkS w wx i0 bg cg G)) (fun _ x _ => i - (intOf x).toNat)
      case atStart => exact ⟨0, _, _, Nat.zero_le _, rfl, HG⟩
      case round =>
        clear HG
        obtain ⟨i0, bg, cg, hi0, rfl, HG⟩ := hrel
        by_cases hlt : i0 < i
        · have hni := HN.out i0 hlt
          have hcell := HG.out.at hlt
          have HE := hide (HG.out.enter hlt HBD.out)
          clear HG
          go_wp2_with fail
          go_loopw [8, 9] (fun v x wy => ∃ q bc cc : Nat, q ≤ 20 ∧ x = .int .i64 q ∧ v = .slice (some ⟨bc, 0, none⟩) (n i0 + q) cc ∧ Hid (Grows B 9 1 22 g cm i b n c mkS w wy i0 bg cg u6 q bc cc)) (fun _ x _ => 20 - (intOf x).toNat)
          case atStart => exact ⟨0, b i0, c i0, by omega, rfl, rfl, HE⟩
          case round =>
            clear HE hcell
            obtain ⟨q, bc, cc, hq, rfl, rfl, HE⟩ := hrel
            have hBs : B ≤ wr.heap.size := by have := HE.out.cont.lt g rfl; omega
            by_cases hlq : q < 20
            · have HE0 := hide (HE.out.alloc (.cells (bookC i0 (n i0 + q)) 5))
              go_wp2_with (first
                | (go_at_call 69; refine (CM.out i0 (n i0 + q) _ (by omega) (by omega)).mono ?_; rintro e w' ⟨rfl, hww⟩; subst w')
                | (at_builtin; go_must (refine wpList_append_two _ rfl _ _ 22 rfl B 9 iM _ 1 16 Tryz.underlying22 hiM zM0 zM1 zM2 rfl (by decide) _ _ _ rfl (HE0.out.cur.alloc _) ⟨wr.heap.size + 1, 0, none⟩ 1 [.string (bookB i0 (n i0 + q))] rfl rfl (cell_one_at _ _ _ _ (by simp)) (by intro u hu; simp at hu; subst hu; rfl) (by unfold maxLen; omega) (by omega) (by simp; omega) ?_)))
              intro g' cap' w1 hown' hg'
              rw [← marksS] at hown'
              have HE2 := hide ((HE0.out.alloc _).step (by decide) (fun j hj => by have := (HN.out j hj).1; omega) hlt hown' (hg'.imp id (fun h => ⟨by rw [h.1]; simp, h.2⟩)))
              clear hown' hg' HE HE0
              go_wp2_with fail
              go_roundw
              case rel => exact ⟨q + 1, g', cap', by omega, by go_num, rfl, HE2⟩
              case measure => simp [intOf]; omega
            · have hqe : q = 20 := by omega
              subst hqe
              go_wp2_with (at_builtin; go_must (refine wpList_append_two _ rfl _ _ 25 rfl B 22 iL (.slice none 0 0) 1 24 Tryz.underlying25 hiL zL0 zL1 zL2 rfl (by decide) _ _ _ rfl (HE.out.grownC.alloc _) ⟨wr.heap.size, 0, none⟩ 1 [.slice (some ⟨bc, 0, none⟩) (n i0 + 20) cc] rfl rfl (cell_one_new _ _ _) (by simp [Value.oneCell']) (by unfold maxLen; omega) (by omega) (by simp; omega) ?_))
              intro g' cap' w1 hown' hg'
              have HG2 := hide ((HE.out.alloc _).leave (by decide) (fun j hj => by have := (HN.out j hj).1; omega) hlt hown' (hg'.imp id (fun h => ⟨by rw [h.1]; simp, h.2⟩)))
              clear hown' hg' HE
              go_wp2_with fail
              go_roundw
              case rel => exact ⟨i0 + 1, _, _, by omega, by go_num, HG2⟩
              case measure => simp [intOf]; omega
        · have hie : i0 = i := by omega
          subst hie
          obtain ⟨gg, cG, hu6, _⟩ := own_some HG.out.grownC (by omega) (by decide)
          subst hu6
          clear hlt hi0
          have HGB : Hid (∀ wx, Below wr.heap.size wr wx → Below B w wx ∧ ∀ k, k < w.heap.size → (∀ j, j < i0 → k ≠ b j) → wx.heap[k]? = w.heap[k]?) := fun wx hx =>
            ⟨HG.out.bel.trans (hx.mono (by have := HG.out.cont.lt g rfl; omega)), fun k hk hf => (hx.block k (Nat.lt_of_lt_of_le hk HG.out.bel.size)).trans (HG.out.keep k hk hf)⟩
          obtain ⟨W, hW⟩ : ∃ W, W = wr := ⟨_, rfl⟩
          rw [← hW] at HG HGB
          have HWW := hide hW
          go_wp2_with fail
          go_loopw [10] (fun x wx => ∃ i1 : Nat, i1 ≤ i0 ∧ x = .int .i64 i1 ∧ Hid (Below W.heap.size W wx)) (fun x _ => i0 - (intOf x).toNat)
          case atStart => exact ⟨0, Nat.zero_le _, rfl, by rw [hW]; exact Below.refl _ _⟩
          case round =>
            clear hW HWW
            obtain ⟨i1, hi1, rfl, HB⟩ := hrel
            by_cases hlt : i1 < i0
            · have hni := HN.out i1 hlt
              have HCL : Hid (W.cell? ⟨g, i1, none⟩ = some (.slice (some ⟨b i1, 0, none⟩) (n i1) (c i1))) := HG.out.at hlt
              have HCG : Hid (W.cell? ⟨gg, i1, none⟩ = some (.slice (some ⟨bg i1, 0, none⟩) (n i1 + 20) (cg i1))) := by
                unfold Hid; rw [HG.out.grownC.cellAt i1 (by omega)]; simp [hlt, rowV]
              have hcl := (HB.out.cell (p := ⟨g, i1, none⟩) (World.block_lt_of_cell? _ _ HCL.out)).trans HCL.out
              have hcg := (HB.out.cell (p := ⟨gg, i1, none⟩) (World.block_lt_of_cell? _ _ HCG.out)).trans HCG.out
              go_wp2_with fail
              clear hcl hcg
              go_loopw [11, 12] (fun x _ wx => ∃ k1 : Nat, k1 ≤ n i1 + 20 ∧ x = .int .i64 k1 ∧ Hid (Below W.heap.size W wx)) (fun x _ _ => n i1 + 20 - (intOf x).toNat)
              case atStart => exact ⟨0, Nat.zero_le _, rfl, HB⟩
              case round =>
                clear HB
                obtain ⟨k1, hk1, rfl, HB⟩ := hrel
                have hcl := (HB.out.cell (p := ⟨g, i1, none⟩) (World.block_lt_of_cell? _ _ HCL.out)).trans HCL.out
                have hcg := (HB.out.cell (p := ⟨gg, i1, none⟩) (World.block_lt_of_cell? _ _ HCG.out)).trans HCG.out
                by_cases hlk : k1 < n i1 + 20
                · have hgr : W.ownsRow B 9 1 (.slice (some ⟨bg i1, 0, none⟩) (n i1 + 20) (cg i1)) (n i1 + 20) (marksOf mkS i1 ((n i1 + 20) * 1)) := HG.out.grown i1 hlt
                  have hx0 : wr.cell? ⟨bg i1, k1, none⟩ = some (.string (bookB i1 k1)) := by
                    have h1 : W.cell? ⟨bg i1, k1, none⟩ = some (mkS i1 k1) := by rw [hgr.cellAt k1 (by omega)]; exact marksOf_at mkS i1 _ k1 (by omega)
                    exact (HB.out.cell (p := ⟨bg i1, k1, none⟩) (World.block_lt_of_cell? _ _ h1)).trans h1
                  clear hgr
                  have hsz : W.heap.size ≤ wr.heap.size := HB.out.size
                  have HB2 : Hid (Below W.heap.size W (wr.alloc (.cells (bookC i1 k1) 5))) := HB.out.alloc hsz _
                  have hold : ∀ a v, wr.cell? a = some v → (wr.alloc (.cells (bookC i1 k1) 5)).cell? a = some v := fun a v h => by
                    have hb : a.block < wr.heap.size := World.block_lt_of_cell? _ _ h
                    exact (((Below.refl wr.heap.size wr).alloc (Nat.le_refl _) _).cell hb).trans h
                  generalize hbk : bookB i1 k1 = bk at hx0
                  have HBK := hide hbk
                  clear hbk
                  by_cases hl2 : k1 < n i1
                  · have ho0 : wr.cell? ⟨b i1, k1, none⟩ = some (.string bk) := by
                      have h1 : W.cell? ⟨b i1, k1, none⟩ = some (mkS i1 k1) := HG.out.old i1 hlt k1 (by omega)
                      rw [← HBK.out]
                      exact (HB.out.cell (p := ⟨b i1, k1, none⟩) (World.block_lt_of_cell? _ _ h1)).trans h1
                    have HH := hide hold
                    clear hold
                    go_wp2_with (go_at_call 69; refine (CM.out i1 k1 _ (by omega) (by omega)).mono ?_; rintro e w' ⟨rfl, hww⟩; subst w'; rw [HBK.out]; replace hcl := HH.out _ _ hcl; replace hcg := HH.out _ _ hcg; replace hx0 := HH.out _ _ hx0; replace ho0 := HH.out _ _ ho0; generalize hWe : wr.alloc (.cells (bookC i1 k1) 5) = W2 at *; clear hWe HH)
                    go_roundw
                    case rel => exact ⟨k1 + 1, by omega, by go_num, ⟨HB2.out.os, HB2.out.tape, HB2.out.output, HB2.out.size, HB2.out.block⟩⟩
                    case measure => simp [intOf]; omega
                  · have HH := hide hold
                    clear hold
                    go_wp2_with (go_at_call 69; refine (CM.out i1 k1 _ (by omega) (by omega)).mono ?_; rintro e w' ⟨rfl, hww⟩; subst w'; rw [HBK.out]; replace hcl := HH.out _ _ hcl; replace hcg := HH.out _ _ hcg; replace hx0 := HH.out _ _ hx0; generalize hWe : wr.alloc (.cells (bookC i1 k1) 5) = W2 at *; clear hWe HH)
                    go_roundw
                    case rel => exact ⟨k1 + 1, by omega, by go_num, ⟨HB2.out.os, HB2.out.tape, HB2.out.output, HB2.out.size, HB2.out.block⟩⟩
                    case measure => simp [intOf]; omega
                · go_wp2_with fail
                  go_roundw
                  case rel => exact ⟨i1 + 1, by omega, by go_num, HB⟩
                  case measure => simp [intOf]; omega
            · go_wp2_with fail
              go_ret
              exact ⟨rfl, HGB.out _ HB.out⟩

end Go.Proofs.YtfnobccminhjpabGreat
