/- Lists of amounts in memory of their own are apart: apartMoney returns true. -/
import Derived.Test.YthpbadnedhjncabGreatDoorLot
import Derived.Test.YthpbadnedhjncabGreatDoorSmall
import Derived.Deep.RegionWith
namespace Go.Proofs.YthpbadnedhjncabGreatDoor
open Go.RowKit

def mkM (i k : Nat) : Int := -1 - 100003 * ((i : Int) + 1) - 7 * k
def mkV (i k : Nat) : Value := .int .i64 (mkM i k)

theorem markMoney_any (i k : Nat) (w : World) (hi : i ≤ 1000000) (hk : k ≤ 1000000000) : Calls Tryz.prog 57 #[.int .i64 i, .int .i64 k] w fun e w' => e = .returned (.int .i64 (mkM i k)) ∧ w' = w := by
  go_enter Tryz.func57, Tryz.ntmps57
  go_wp2
  go_ret
  exact ⟨congrArg (fun x => Ending.returned (.int .i64 x)) (by unfold mkM; omega), rfl⟩

theorem infoList : (Tryz.prog.info? 51).map (fun i => (i.zero, i.size, i.bytes)) = some (some (.slice none 0 0), 1, 24) := by kernel_rfl

set_option maxRecDepth 100000 in
set_option maxHeartbeats 4000000 in
theorem apartMoney_some (bb B g cm m : Nat) (b n c : Nat → Nat) (ys : Nat → List Value) (w : World) (hm0 : 1 ≤ m) (hm : m ≤ 1000000) (hn : ∀ j, j < m → 1 ≤ n j ∧ n j ≤ 1000000) (hbd : ∀ i j, i < m → j < m → i ≠ j → b i ≠ b j)
    (hbook : w.cell? ⟨bb, 5, none⟩ = some (.slice (some ⟨g, 0, none⟩) m cm)) (hM : Marking B 22 51 g cm m b n c w w ys) :
    Calls Tryz.prog 20 #[.pointer (some ⟨bb, 0, none⟩)] w fun e w' => e = .returned (.bool true) ∧ Below B w w' := by
  obtain ⟨iM, hiM, zM0, zM1, zM2⟩ := info_parts infoMoney
  obtain ⟨iL, hiL, zL0, zL1, zL2⟩ := info_parts infoList
  have CM := hide markMoney_any
  have HN := hide hn
  have HBD := hide hbd
  have HM := hide hM
  clear hn hbd hM
  go_enter Tryz.func20, Tryz.ntmps20
  go_wp2_with fail
  go_loopw [4] (fun x wr => ∃ (i : Nat) (ys : Nat → List Value), i ≤ m ∧ x = .int .i64 i ∧ Hid (Marking B 22 51 g cm m b n c w wr ys) ∧ Hid (∀ j, j < i → ys j = marksOf mkV j (n j))) (fun x _ => m - (intOf x).toNat)
  case atStart => exact ⟨0, ys, Nat.zero_le _, rfl, HM, fun j hj => by omega⟩
  case round =>
    obtain ⟨i, ys1, hi, rfl, HK, HY⟩ := hrel
    by_cases hlt : i < m
    · have hni := HN.out i hlt
      go_wp2_with fail
      go_loopw [5] (fun x wx => ∃ (k : Nat) (ys2 : Nat → List Value), k ≤ n i ∧ x = .int .i64 k ∧ Hid (Marking B 22 51 g cm m b n c w wx ys2) ∧ Hid (∀ j, j < i → ys2 j = marksOf mkV j (n j)) ∧ Hid ((ys2 i).take k = marksOf mkV i k)) (fun x _ => n i - (intOf x).toNat)
      case atStart => exact ⟨0, ys1, Nat.zero_le _, rfl, HK, HY, by simp [Hid, marksOf]⟩
      case round =>
        clear HK HY
        obtain ⟨k, ys2, hk, rfl, HK, HY, HT⟩ := hrel
        have hcell := HK.out.at hlt
        by_cases hlk : k < n i
        · have hown := HK.out.own i hlt
          have hfz := hown.frozenAt k
          have hcl : wr.cell? ⟨b i, k, none⟩ = some ((ys2 i).getD k (.int .i64 0)) := by
            rw [hown.cellAt k (by omega)]
            have : k < (ys2 i).length := by rw [hown.1]; omega
            simp [List.getD, this]
          have HL : Hid (k < (ys2 i).length) := by unfold Hid; rw [hown.1]; omega
          clear hown
          go_wp2_with fail
          go_region_with ((go_at_call 57; refine (CM.out _ _ _ (by omega) (by omega)).mono ?_; rintro e w' ⟨rfl, rfl⟩))
          all_goals
            go_wp2_with fail
            go_roundw
            case rel =>
              refine ⟨k + 1, _, by omega, by go_num, (HK.out.put (by decide) HBD.out hlt (mkV i k)).drew, fun j hj => ?_, ?_⟩
              · simp only [if_neg (Nat.ne_of_lt hj)]; exact HY.out j hj
              · unfold Hid; simp only [if_pos]; rw [take_set_succ _ _ _ HL.out, HT.out, marksOf_succ]
            case measure => simp [intOf]; omega
        · have hke : k = n i := by omega
          go_wp2_with fail
          go_roundw
          case rel =>
            refine ⟨i + 1, ys2, by omega, by go_num, HK, fun j hj => ?_⟩
            by_cases e2 : j = i
            · subst e2
              have h1 := HT.out
              rwa [hke, List.take_of_length_le (by rw [(HK.out.own j hlt).1]; omega)] at h1
            · exact HY.out j (by omega)
          case measure => simp [intOf]; omega
    · have hie : i = m := by omega
      subst hie
      have HG : Hid (Growing B 22 51 g cm i b n c mkV w wr 0 (fun _ => 0) (fun _ => 0) (.slice none 0 0)) := Growing.start HK.out HY.out
      clear HK HY HM hlt hi hbook
      go_wp2_with fail
      go_loopw [6, 7] (fun G x wx => ∃ (i0 : Nat) (bg cg : Nat → Nat), i0 ≤ i ∧ x = .int .i64 i0 ∧ Hid (Growing B 22 51 g cm i b n c mkV w wx i0 bg cg G)) (fun _ x _ => i - (intOf x).toNat)
      case atStart => exact ⟨0, _, _, Nat.zero_le _, rfl, HG⟩
      case round =>
        clear HG
        obtain ⟨i0, bg, cg, hi0, rfl, HG⟩ := hrel
        by_cases hlt : i0 < i
        · have hni := HN.out i0 hlt
          have hcell := HG.out.at hlt
          have HE := hide (HG.out.enter hlt HBD.out)
          clear HG
          go_wp2_with fail
          go_loopw [8, 9] (fun v x wy => ∃ q bc cc : Nat, q ≤ 20 ∧ x = .int .i64 q ∧ v = .slice (some ⟨bc, 0, none⟩) (n i0 + q) cc ∧ Hid (Grows B 22 51 g cm i b n c mkV w wy i0 bg cg u6 q bc cc)) (fun _ x _ => 20 - (intOf x).toNat)
          case atStart => exact ⟨0, b i0, c i0, by omega, rfl, rfl, HE⟩
          case round =>
            clear HE hcell
            obtain ⟨q, bc, cc, hq, rfl, rfl, HE⟩ := hrel
            have hBs : B ≤ wr.heap.size := by have := HE.out.cont.lt g rfl; omega
            by_cases hlq : q < 20
            · go_wp2_with (first
                | (go_at_call 57; refine (CM.out i0 (n i0 + q) _ (by omega) (by omega)).mono ?_; rintro e w' ⟨rfl, hww⟩; subst w')
                | (at_builtin; go_must (refine wpList_append_two _ rfl _ _ 51 rfl B 22 iM (.int .i64 0) 1 8 Tryz.underlying51 hiM zM0 zM1 zM2 rfl (by decide) _ _ _ rfl (HE.out.cur.alloc _) ⟨wr.heap.size, 0, none⟩ 1 [mkV i0 (n i0 + q)] rfl rfl (cell_one_new _ _ _) (one_cell _ _) (by unfold maxLen; omega) (by omega) (by simp; omega) ?_)))
              intro g' cap' w1 hown' hg'
              have HE2 := hide ((HE.out.alloc _).step (by decide) (fun j hj => (HN.out j hj).1) hlt hown' (hg'.imp id (fun h => ⟨by rw [h.1]; simp, h.2⟩)))
              clear hown' hg' HE
              go_wp2_with fail
              go_roundw
              case rel => exact ⟨q + 1, g', cap', by omega, by go_num, rfl, HE2⟩
              case measure => simp [intOf]; omega
            · have hqe : q = 20 := by omega
              subst hqe
              go_wp2_with (at_builtin; go_must (refine wpList_append_two _ rfl _ _ 30 rfl B 51 iL (.slice none 0 0) 1 24 Tryz.underlying30 hiL zL0 zL1 zL2 rfl (by decide) _ _ _ rfl (HE.out.grownC.alloc _) ⟨wr.heap.size, 0, none⟩ 1 [.slice (some ⟨bc, 0, none⟩) (n i0 + 20) cc] rfl rfl (cell_one_new _ _ _) (by simp [Value.oneCell']) (by unfold maxLen; omega) (by omega) (by simp; omega) ?_))
              intro g' cap' w1 hown' hg'
              have HG2 := hide ((HE.out.alloc _).leave (by decide) (fun j hj => (HN.out j hj).1) hlt hown' (hg'.imp id (fun h => ⟨by rw [h.1]; simp, h.2⟩)))
              clear hown' hg' HE
              go_wp2_with fail
              go_roundw
              case rel => exact ⟨i0 + 1, _, _, by omega, by go_num, HG2⟩
              case measure => simp [intOf]; omega
        · have hie : i0 = i := by omega
          subst hie
          obtain ⟨gg, cG, hu6, _⟩ := own_some HG.out.grownC (by omega)
          subst hu6
          clear hlt hi0
          go_wp2_with fail
          go_loop [10] (fun x => ∃ i1 : Nat, i1 ≤ i0 ∧ x = .int .i64 i1) (fun x => i0 - (intOf x).toNat)
          case atStart => exact ⟨0, Nat.zero_le _, rfl⟩
          case round =>
            obtain ⟨i1, hi1, rfl⟩ := hrel
            by_cases hlt : i1 < i0
            · have hni := HN.out i1 hlt
              have hcl : wr.cell? ⟨g, i1, none⟩ = some (.slice (some ⟨b i1, 0, none⟩) (n i1) (c i1)) := HG.out.at hlt
              have hcg : wr.cell? ⟨gg, i1, none⟩ = some (.slice (some ⟨bg i1, 0, none⟩) (n i1 + 20) (cg i1)) := by
                rw [HG.out.grownC.cellAt i1 (by omega)]; simp [hlt, rowV]
              go_wp2_with fail
              go_loop [11, 12] (fun x _ => ∃ k1 : Nat, k1 ≤ n i1 + 20 ∧ x = .int .i64 k1) (fun x _ => n i1 + 20 - (intOf x).toNat)
              case atStart => exact ⟨0, Nat.zero_le _, rfl⟩
              case round =>
                obtain ⟨k1, hk1, rfl⟩ := hrel
                by_cases hlk : k1 < n i1 + 20
                · have hcx : wr.cell? ⟨bg i1, k1, none⟩ = some (.int .i64 (mkM i1 k1)) := by
                    have hgr : wr.ownsRow B 22 1 (.slice (some ⟨bg i1, 0, none⟩) (n i1 + 20) (cg i1)) (n i1 + 20) (marksOf mkV i1 (n i1 + 20)) := HG.out.grown i1 hlt
                    rw [hgr.cellAt k1 (by omega)]; exact marksOf_at mkV i1 _ k1 hlk
                  by_cases hl2 : k1 < n i1
                  · have hco : wr.cell? ⟨b i1, k1, none⟩ = some (.int .i64 (mkM i1 k1)) := HG.out.old i1 hlt k1 hl2
                    generalize hmv : mkM i1 k1 = mv at hcx hco
                    have HMV := hide hmv
                    clear hmv
                    go_wp2_with (go_at_call 57; refine (CM.out i1 k1 _ (by omega) (by omega)).mono ?_; rintro e w' ⟨rfl, hww⟩; subst w'; rw [HMV.out])
                    go_round
                    case rel => exact ⟨k1 + 1, by omega, by go_num⟩
                    case measure => simp [intOf]; omega
                  · generalize hmv : mkM i1 k1 = mv at hcx
                    have HMV := hide hmv
                    clear hmv
                    go_wp2_with (go_at_call 57; refine (CM.out i1 k1 _ (by omega) (by omega)).mono ?_; rintro e w' ⟨rfl, hww⟩; subst w'; rw [HMV.out])
                    go_round
                    case rel => exact ⟨k1 + 1, by omega, by go_num⟩
                    case measure => simp [intOf]; omega
                · go_wp2_with fail
                  go_round
                  case rel => exact ⟨i1 + 1, by omega, by go_num⟩
                  case measure => simp [intOf]; omega
            · go_wp2_with fail
              go_ret
              exact ⟨rfl, HG.out.bel⟩

end Go.Proofs.YthpbadnedhjncabGreatDoor
