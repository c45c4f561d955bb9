/- Lists of tokens in memory of their own are apart. -/
import Derived.Test.YtlllgndbcagkgabMarks
namespace Go.Proofs.Ytlllgndbcagkgab
open Go.RowKit

/-- The marks of a row of tokens, cell by cell. -/
def mkT (i c : Nat) : Value := if c % 3 = 0 then .int .i64 (tokK (c / 3)) else if c % 3 = 1 then .string ⟨#[]⟩ else .int .i64 (tokK i)

theorem mkT0 (i k : Nat) : mkT i (k * 3) = .int .i64 (tokK k) := by unfold mkT; rw [if_pos (by omega), show k * 3 / 3 = k by omega]
theorem mkT1 (i k : Nat) : mkT i (k * 3 + 1) = .string ⟨#[]⟩ := by unfold mkT; rw [if_neg (by omega), if_pos (by omega)]
theorem mkT2 (i k : Nat) : mkT i (k * 3 + 2) = .int .i64 (tokK i) := by unfold mkT; rw [if_neg (by omega), if_neg (by omega)]

theorem marks3 (i n : Nat) : marksOf mkT i ((n + 1) * 3) = marksOf mkT i (n * 3) ++ [.int .i64 (tokK n), .string ⟨#[]⟩, .int .i64 (tokK i)] := by
  rw [show (n + 1) * 3 = n * 3 + 1 + 1 + 1 by omega, marksOf_succ, marksOf_succ, marksOf_succ, mkT0, mkT1, show n * 3 + 1 + 1 = n * 3 + 2 by omega, mkT2]
  simp

theorem take_set3 (l : List Value) (o : Nat) (u v x : Value) (h : o + 2 < l.length) : (((l.set o u).set (o + 1) v).set (o + 2) x).take (o + 3) = l.take o ++ [u, v, x] := by
  rw [take_set_succ _ (o + 2) _ (by simpa using h), show o + 2 = o + 1 + 1 from rfl, take_set_succ _ (o + 1) _ (by simp; omega), take_set_succ _ o _ (by omega)]
  simp

theorem infoToks : (Try.prog.info? 49).map (fun i => (i.zero, i.size, i.bytes)) = some (some (.slice none 0 0), 1, 24) := by kernel_rfl

section
variable {B e sz f g cm m : Nat} {b n c : Nat → Nat} {w wr : World} {ys : Nat → List Value}
theorem Marking.put3 (h : Marking B e sz f g cm m b n c w wr ys) (hne : e ≠ f) (hbd : ∀ i j, i < m → j < m → i ≠ j → b i ≠ b j) {i o : Nat} (hi : i < m) (u v x : Value) (ob : Obj) :
    ∃ ys', Marking B e sz f g cm m b n c w ((((wr.setCell ⟨b i, o, none⟩ u).setCell ⟨b i, o + 1, none⟩ v).setCell ⟨b i, o + 2, none⟩ x).alloc ob).drew ys' ∧ (∀ j, j ≠ i → ys' j = ys j) ∧ ys' i = (((ys i).set o u).set (o + 1) v).set (o + 2) x := by
  have h3 := ((h.put hne hbd hi (k := o) u).put hne hbd hi (k := o + 1) v).put hne hbd hi (k := o + 2) x
  exact ⟨_, (h3.below ((Below.refl _ _).alloc (Nat.le_refl _) ob)).drew, fun j hj => by simp [hj], by simp⟩
end

theorem cell_three_new (w : World) (x y z : Value) (t : TypeId) (a : Nat) (ha : a = w.heap.size) : ∀ j u, [x, y, z][j]? = some u → (w.alloc (.cells #[x, y, z] t)).cell? ((⟨a, 0, none⟩ : Addr).add j) = some u := by
  subst ha
  intro j u hj
  have h1 : (⟨w.heap.size, 0, none⟩ : Addr).add j = ⟨w.heap.size, j, none⟩ := by simp [Addr.add] <;> omega
  rw [h1, cell_of_row _ _ _ _ _ _ (heap_alloc_new w _)]
  simpa using hj

set_option maxRecDepth 100000 in
set_option maxHeartbeats 4000000 in
theorem apartTokens_some (bb B g cm m : Nat) (b n c : Nat → Nat) (ys : Nat → List Value) (w : World) (hm0 : 1 ≤ m) (hm : m ≤ 1000000) (hn : ∀ j, j < m → 1 ≤ n j ∧ n j ≤ 1000000) (hbd : ∀ i j, i < m → j < m → i ≠ j → b i ≠ b j)
    (hbook : w.cell? ⟨bb, 13, none⟩ = some (.slice (some ⟨g, 0, none⟩) m cm)) (hM : Marking B 64 3 49 g cm m b n c w w ys) :
    Calls Try.prog 20 #[.pointer (some ⟨bb, 0, none⟩)] w fun e w' => e = .returned (.bool true) ∧ Below B w w' ∧ ∀ k, k < w.heap.size → (∀ j, j < m → k ≠ b j) → w'.heap[k]? = w.heap[k]? := by
  obtain ⟨iM, hiM, zM0, zM1, zM2⟩ := info_parts infoTok
  obtain ⟨iL, hiL, zL0, zL1, zL2⟩ := info_parts infoToks
  have CM := hide markTokens_any
  have HN := hide hn
  have HBD := hide hbd
  have HM := hide hM
  clear hn hbd hM
  go_enter Try.func20, Try.ntmps20
  go_wp2_with fail
  go_loopw [4] (fun x wr => ∃ (i : Nat) (ys : Nat → List Value), i ≤ m ∧ x = .int .i64 i ∧ Hid (Marking B 64 3 49 g cm m b n c w wr ys) ∧ Hid (∀ j, j < i → ys j = marksOf mkT j (n j * 3))) (fun x _ => m - (intOf x).toNat)
  case atStart => exact ⟨0, ys, Nat.zero_le _, rfl, HM, fun j hj => by omega⟩
  case round =>
    obtain ⟨i, ys1, hi, rfl, HK, HY⟩ := hrel
    by_cases hlt : i < m
    · have hni := HN.out i hlt
      go_wp2_with fail
      go_loopw [5] (fun x wx => ∃ (k : Nat) (ys2 : Nat → List Value), k ≤ n i ∧ x = .int .i64 k ∧ Hid (Marking B 64 3 49 g cm m b n c w wx ys2) ∧ Hid (∀ j, j < i → ys2 j = marksOf mkT j (n j * 3)) ∧ Hid ((ys2 i).take (k * 3) = marksOf mkT i (k * 3))) (fun x _ => n i - (intOf x).toNat)
      case atStart => exact ⟨0, ys1, Nat.zero_le _, rfl, HK, HY, by simp [Hid, marksOf]⟩
      case round =>
        clear HK HY
        obtain ⟨k, ys2, hk, rfl, HK, HY, HT⟩ := hrel
        have hcell := HK.out.at hlt
        by_cases hlk : k < n i
        · have hown := HK.out.own i hlt
          have hf0 := hown.frozenAt (k * 3)
          have hf1 := hown.frozenAt (k * 3 + 1)
          have hf2 := hown.frozenAt (k * 3 + 2)
          have hbl := (hown.lt (b i) rfl).2
          have hkl : k * 3 + 2 < n i * 3 := by omega
          have hlen : (ys2 i).length = n i * 3 := hown.1
          obtain ⟨v0, hv0⟩ : ∃ v, wr.cell? ⟨b i, k * 3, none⟩ = some v := ⟨_, (hown.cellAt (k * 3) (by omega)).trans (List.getElem?_eq_getElem (by omega))⟩
          obtain ⟨v1, hv1⟩ : ∃ v, wr.cell? ⟨b i, k * 3 + 1, none⟩ = some v := ⟨_, (hown.cellAt (k * 3 + 1) (by omega)).trans (List.getElem?_eq_getElem (by omega))⟩
          obtain ⟨v2, hv2⟩ : ∃ v, wr.cell? ⟨b i, k * 3 + 2, none⟩ = some v := ⟨_, (hown.cellAt (k * 3 + 2) (by omega)).trans (List.getElem?_eq_getElem (by omega))⟩
          have HL := hide hlen
          clear hlen
          have hgl := (HK.out.cont.lt g rfl).2
          clear hown
          have HP := hide (HK.out.put3 (by decide) HBD.out hlt (o := k * 3) (.int .i64 (tokK k)) (.string ⟨#[]⟩) (.int .i64 (tokK i)) (.cells (tokC i k) 64))
          go_wp2_with fail
          go_region_law (go_simp; go_wp2_with (go_at_call 45; refine (CM.out _ _ _ (by omega) (by omega)).mono ?_; rintro e w' ⟨rfl, rfl⟩))
          all_goals
            go_wp2_with fail
            go_roundw
            case rel =>
              obtain ⟨ys', hK', ho, hi'⟩ := HP.out
              refine ⟨k + 1, ys', by omega, by go_num, hK', fun j hj => (ho j (Nat.ne_of_lt hj)).trans (HY.out j hj), ?_⟩
              unfold Hid
              rw [hi', show (k + 1) * 3 = k * 3 + 3 by omega, take_set3 _ _ _ _ _ (by rw [HL.out]; omega), HT.out, ← marks3, show (k + 1) * 3 = k * 3 + 3 by omega]
            case measure => simp [intOf]; omega
        · have hke : k = n i := by omega
          go_wp2_with fail
          go_roundw
          case rel =>
            refine ⟨i + 1, ys2, by omega, by go_num, HK, fun j hj => ?_⟩
            by_cases e2 : j = i
            · subst e2
              have h1 := HT.out
              rwa [hke, List.take_of_length_le (by rw [(HK.out.own j hlt).1]; omega)] at h1
            · exact HY.out j (by omega)
          case measure => simp [intOf]; omega
    · have hie : i = m := by omega
      subst hie
      have HG : Hid (Growing B 64 3 49 g cm i b n c mkT w wr 0 (fun _ => 0) (fun _ => 0) (.slice none 0 0)) := Growing.start HK.out HY.out
      clear HK HY HM hlt hi hbook
      go_wp2_with fail
      go_loopw [6, 7] (fun G x wx => ∃ (i0 : Nat) (bg cg : Nat → Nat), i0 ≤ i ∧ x = .int .i64 i0 ∧ Hid (Growing B 64 3 49 g cm i b n c mkT w wx i0 bg cg G)) (fun _ x _ => i - (intOf x).toNat)
      case atStart => exact ⟨0, _, _, Nat.zero_le _, rfl, HG⟩
      case round =>
        clear HG
        obtain ⟨i0, bg, cg, hi0, rfl, HG⟩ := hrel
        by_cases hlt : i0 < i
        · have hni := HN.out i0 hlt
          have hcell := HG.out.at hlt
          have HE := hide (HG.out.enter hlt HBD.out)
          clear HG
          go_wp2_with fail
          go_loopw [8, 9] (fun v x wy => ∃ q bc cc : Nat, q ≤ 20 ∧ x = .int .i64 q ∧ v = .slice (some ⟨bc, 0, none⟩) (n i0 + q) cc ∧ Hid (Grows B 64 3 49 g cm i b n c mkT w wy i0 bg cg u6 q bc cc)) (fun _ x _ => 20 - (intOf x).toNat)
          case atStart => exact ⟨0, b i0, c i0, by omega, rfl, rfl, HE⟩
          case round =>
            clear HE hcell
            obtain ⟨q, bc, cc, hq, rfl, rfl, HE⟩ := hrel
            have hBs : B ≤ wr.heap.size := by have := HE.out.cont.lt g rfl; omega
            by_cases hlq : q < 20
            · have HE0 := hide (HE.out.alloc (.cells (tokC i0 (n i0 + q)) 64))
              have HC3 := hide (cell_three_new (wr.alloc (.cells (tokC i0 (n i0 + q)) 64)) (.int .i64 (tokK (n i0 + q))) (.string ⟨#[]⟩) (.int .i64 (tokK i0)) 64 (wr.heap.size + 1) (by simp))
              go_wp2_with (first
                | (go_at_call 45; refine (CM.out i0 (n i0 + q) _ (by omega) (by omega)).mono ?_; rintro e w' ⟨rfl, hww⟩; subst w')
                | (at_builtin; go_must (refine wpList_append_two _ rfl _ _ 49 rfl B 64 iM _ 3 32 Try.underlying49 hiM zM0 zM1 zM2 rfl (by decide) _ _ _ rfl (HE0.out.cur.alloc _) ⟨wr.heap.size + 1, 0, none⟩ 1 [.int .i64 (tokK (n i0 + q)), .string ⟨#[]⟩, .int .i64 (tokK i0)] rfl rfl HC3.out (by intro u hu; simp at hu; rcases hu with rfl | rfl | rfl <;> rfl) (by unfold maxLen; omega) (by omega) (by simp; omega) ?_)))
              intro g' cap' w1 hown' hg'
              rw [← marks3] at hown'
              have HE2 := hide ((HE0.out.alloc _).step (by decide) (fun j hj => by have := (HN.out j hj).1; omega) hlt hown' (hg'.imp id (fun h => ⟨by rw [h.1]; simp, h.2⟩)))
              clear hown' hg' HE HE0 HC3
              go_wp2_with fail
              go_roundw
              case rel => exact ⟨q + 1, g', cap', by omega, by go_num, rfl, HE2⟩
              case measure => simp [intOf]; omega
            · have hqe : q = 20 := by omega
              subst hqe
              go_wp2_with (at_builtin; go_must (refine wpList_append_two _ rfl _ _ 36 rfl B 49 iL (.slice none 0 0) 1 24 Try.underlying36 hiL zL0 zL1 zL2 rfl (by decide) _ _ _ rfl (HE.out.grownC.alloc _) ⟨wr.heap.size, 0, none⟩ 1 [.slice (some ⟨bc, 0, none⟩) (n i0 + 20) cc] rfl rfl (cell_one_new _ _ _) (by simp [Value.oneCell']) (by unfold maxLen; omega) (by omega) (by simp; omega) ?_))
              intro g' cap' w1 hown' hg'
              have HG2 := hide ((HE.out.alloc _).leave (by decide) (fun j hj => by have := (HN.out j hj).1; omega) hlt hown' (hg'.imp id (fun h => ⟨by rw [h.1]; simp, h.2⟩)))
              clear hown' hg' HE
              go_wp2_with fail
              go_roundw
              case rel => exact ⟨i0 + 1, _, _, by omega, by go_num, HG2⟩
              case measure => simp [intOf]; omega
        · have hie : i0 = i := by omega
          subst hie
          obtain ⟨gg, cG, hu6, _⟩ := own_some HG.out.grownC (by omega) (by decide)
          subst hu6
          clear hlt hi0
          have HGB : Hid (∀ wx, Below wr.heap.size wr wx → Below B w wx ∧ ∀ k, k < w.heap.size → (∀ j, j < i0 → k ≠ b j) → wx.heap[k]? = w.heap[k]?) := fun wx hx =>
            ⟨HG.out.bel.trans (hx.mono (by have := HG.out.cont.lt g rfl; omega)), fun k hk hf => (hx.block k (Nat.lt_of_lt_of_le hk HG.out.bel.size)).trans (HG.out.keep k hk hf)⟩
          obtain ⟨W, hW⟩ : ∃ W, W = wr := ⟨_, rfl⟩
          rw [← hW] at HG HGB
          have HWW := hide hW
          go_wp2_with fail
          go_loopw [10] (fun x wx => ∃ i1 : Nat, i1 ≤ i0 ∧ x = .int .i64 i1 ∧ Hid (Below W.heap.size W wx)) (fun x _ => i0 - (intOf x).toNat)
          case atStart => exact ⟨0, Nat.zero_le _, rfl, by rw [hW]; exact Below.refl _ _⟩
          case round =>
            clear hW HWW
            obtain ⟨i1, hi1, rfl, HB⟩ := hrel
            by_cases hlt : i1 < i0
            · have hni := HN.out i1 hlt
              have HCL : Hid (W.cell? ⟨g, i1, none⟩ = some (.slice (some ⟨b i1, 0, none⟩) (n i1) (c i1))) := HG.out.at hlt
              have HCG : Hid (W.cell? ⟨gg, i1, none⟩ = some (.slice (some ⟨bg i1, 0, none⟩) (n i1 + 20) (cg i1))) := by
                unfold Hid; rw [HG.out.grownC.cellAt i1 (by omega)]; simp [hlt, rowV]
              have hcl := (HB.out.cell (p := ⟨g, i1, none⟩) (World.block_lt_of_cell? _ _ HCL.out)).trans HCL.out
              have hcg := (HB.out.cell (p := ⟨gg, i1, none⟩) (World.block_lt_of_cell? _ _ HCG.out)).trans HCG.out
              go_wp2_with fail
              clear hcl hcg
              go_loopw [11, 12] (fun x _ wx => ∃ k1 : Nat, k1 ≤ n i1 + 20 ∧ x = .int .i64 k1 ∧ Hid (Below W.heap.size W wx)) (fun x _ _ => n i1 + 20 - (intOf x).toNat)
              case atStart => exact ⟨0, Nat.zero_le _, rfl, HB⟩
              case round =>
                clear HB
                obtain ⟨k1, hk1, rfl, HB⟩ := hrel
                have hcl := (HB.out.cell (p := ⟨g, i1, none⟩) (World.block_lt_of_cell? _ _ HCL.out)).trans HCL.out
                have hcg := (HB.out.cell (p := ⟨gg, i1, none⟩) (World.block_lt_of_cell? _ _ HCG.out)).trans HCG.out
                by_cases hlk : k1 < n i1 + 20
                · have hgr : W.ownsRow B 64 3 (.slice (some ⟨bg i1, 0, none⟩) (n i1 + 20) (cg i1)) (n i1 + 20) (marksOf mkT i1 ((n i1 + 20) * 3)) := HG.out.grown i1 hlt
                  have hxs : ∀ o, o < (n i1 + 20) * 3 → wr.cell? ⟨bg i1, o, none⟩ = some (mkT i1 o) := fun o ho => by
                    have h1 : W.cell? ⟨bg i1, o, none⟩ = some (mkT i1 o) := by rw [hgr.cellAt o ho]; exact marksOf_at mkT i1 _ o ho
                    exact (HB.out.cell (p := ⟨bg i1, o, none⟩) (World.block_lt_of_cell? _ _ h1)).trans h1
                  have hx0 := hxs (k1 * 3) (by omega)
                  have hx1 := hxs (k1 * 3 + 1) (by omega)
                  have hx2 := hxs (k1 * 3 + 2) (by omega)
                  rw [mkT0] at hx0; rw [mkT1] at hx1; rw [mkT2] at hx2
                  clear hxs hgr
                  by_cases hl2 : k1 < n i1
                  · have hos : ∀ o, o < n i1 * 3 → wr.cell? ⟨b i1, o, none⟩ = some (mkT i1 o) := fun o ho => by
                      have h1 : W.cell? ⟨b i1, o, none⟩ = some (mkT i1 o) := HG.out.old i1 hlt o ho
                      exact (HB.out.cell (p := ⟨b i1, o, none⟩) (World.block_lt_of_cell? _ _ h1)).trans h1
                    have ho0 := hos (k1 * 3) (by omega)
                    have ho1 := hos (k1 * 3 + 1) (by omega)
                    have ho2 := hos (k1 * 3 + 2) (by omega)
                    rw [mkT0] at ho0; rw [mkT1] at ho1; rw [mkT2] at ho2
                    clear hos
                    go_wp2_with (go_at_call 45; refine (CM.out i1 k1 _ (by omega) (by omega)).mono ?_; rintro e w' ⟨rfl, hww⟩; subst w')
                    have hsz : W.heap.size ≤ wr.heap.size := HB.out.size
                    have HB2 : Hid (Below W.heap.size W ((wr.alloc (.cells (tokC i1 k1) 64)).alloc (.cells #[.int .i64 (tokK k1), .string ⟨#[]⟩, .int .i64 (tokK i1)] 64))) := (HB.out.alloc hsz _).alloc (by simp; omega) _
                    have hnew : ∀ o, ((wr.alloc (.cells (tokC i1 k1) 64)).alloc (.cells #[.int .i64 (tokK k1), .string ⟨#[]⟩, .int .i64 (tokK i1)] 64)).cell? ⟨wr.heap.size + 1, o, none⟩ = (#[Value.int .i64 (tokK k1), .string ⟨#[]⟩, .int .i64 (tokK i1)] : Array Value)[o]? := fun o => by
                      have h1 := heap_alloc_new (wr.alloc (.cells (tokC i1 k1) 64)) (.cells #[.int .i64 (tokK k1), .string ⟨#[]⟩, .int .i64 (tokK i1)] 64)
                      have h2 : (wr.alloc (.cells (tokC i1 k1) 64)).heap.size = wr.heap.size + 1 := by simp
                      rw [h2] at h1
                      exact cell_of_row _ _ _ _ _ _ h1
                    have hold : ∀ a v, wr.cell? a = some v → ((wr.alloc (.cells (tokC i1 k1) 64)).alloc (.cells #[.int .i64 (tokK k1), .string ⟨#[]⟩, .int .i64 (tokK i1)] 64)).cell? a = some v := fun a v h => by
                      have hb : a.block < wr.heap.size := World.block_lt_of_cell? _ _ h
                      exact ((((Below.refl wr.heap.size wr).alloc (Nat.le_refl _) _).alloc (by simp) _).cell hb).trans h
                    have hn0 := hnew 0
                    have hn1 := hnew 1
                    have hn2 := hnew 2
                    simp only [List.getElem?_toArray, List.getElem?_cons_zero, List.getElem?_cons_succ] at hn0 hn1 hn2
                    replace hcl := hold _ _ hcl
                    replace hcg := hold _ _ hcg
                    replace hx0 := hold _ _ hx0
                    replace hx1 := hold _ _ hx1
                    replace hx2 := hold _ _ hx2
                    replace ho0 := hold _ _ ho0
                    replace ho1 := hold _ _ ho1
                    replace ho2 := hold _ _ ho2
                    clear hold hnew HB
                    generalize hWe : (wr.alloc (.cells (tokC i1 k1) 64)).alloc (.cells #[.int .i64 (tokK k1), .string ⟨#[]⟩, .int .i64 (tokK i1)] 64) = W2 at *
                    clear hWe
                    go_quiet (fail)
                    go_wp2_with fail
                    go_roundw
                    case rel => exact ⟨k1 + 1, by omega, by go_num, ⟨HB2.out.os, HB2.out.tape, HB2.out.output, HB2.out.size, HB2.out.block⟩⟩
                    case measure => simp [intOf]; omega
                  · go_wp2_with (go_at_call 45; refine (CM.out i1 k1 _ (by omega) (by omega)).mono ?_; rintro e w' ⟨rfl, hww⟩; subst w')
                    have hsz : W.heap.size ≤ wr.heap.size := HB.out.size
                    have HB2 : Hid (Below W.heap.size W ((wr.alloc (.cells (tokC i1 k1) 64)).alloc (.cells #[.int .i64 (tokK k1), .string ⟨#[]⟩, .int .i64 (tokK i1)] 64))) := (HB.out.alloc hsz _).alloc (by simp; omega) _
                    have hnew : ∀ o, ((wr.alloc (.cells (tokC i1 k1) 64)).alloc (.cells #[.int .i64 (tokK k1), .string ⟨#[]⟩, .int .i64 (tokK i1)] 64)).cell? ⟨wr.heap.size + 1, o, none⟩ = (#[Value.int .i64 (tokK k1), .string ⟨#[]⟩, .int .i64 (tokK i1)] : Array Value)[o]? := fun o => by
                      have h1 := heap_alloc_new (wr.alloc (.cells (tokC i1 k1) 64)) (.cells #[.int .i64 (tokK k1), .string ⟨#[]⟩, .int .i64 (tokK i1)] 64)
                      have h2 : (wr.alloc (.cells (tokC i1 k1) 64)).heap.size = wr.heap.size + 1 := by simp
                      rw [h2] at h1
                      exact cell_of_row _ _ _ _ _ _ h1
                    have hold : ∀ a v, wr.cell? a = some v → ((wr.alloc (.cells (tokC i1 k1) 64)).alloc (.cells #[.int .i64 (tokK k1), .string ⟨#[]⟩, .int .i64 (tokK i1)] 64)).cell? a = some v := fun a v h => by
                      have hb : a.block < wr.heap.size := World.block_lt_of_cell? _ _ h
                      exact ((((Below.refl wr.heap.size wr).alloc (Nat.le_refl _) _).alloc (by simp) _).cell hb).trans h
                    have hn0 := hnew 0
                    have hn1 := hnew 1
                    have hn2 := hnew 2
                    simp only [List.getElem?_toArray, List.getElem?_cons_zero, List.getElem?_cons_succ] at hn0 hn1 hn2
                    replace hcl := hold _ _ hcl
                    replace hcg := hold _ _ hcg
                    replace hx0 := hold _ _ hx0
                    replace hx1 := hold _ _ hx1
                    replace hx2 := hold _ _ hx2
                    clear hold hnew HB
                    generalize hWe : (wr.alloc (.cells (tokC i1 k1) 64)).alloc (.cells #[.int .i64 (tokK k1), .string ⟨#[]⟩, .int .i64 (tokK i1)] 64) = W2 at *
                    clear hWe
                    go_quiet (fail)
                    go_wp2_with fail
                    go_roundw
                    case rel => exact ⟨k1 + 1, by omega, by go_num, ⟨HB2.out.os, HB2.out.tape, HB2.out.output, HB2.out.size, HB2.out.block⟩⟩
                    case measure => simp [intOf]; omega
                · go_wp2_with fail
                  go_roundw
                  case rel => exact ⟨i1 + 1, by omega, by go_num, HB⟩
                  case measure => simp [intOf]; omega
            · go_wp2_with fail
              go_ret
              exact ⟨rfl, HGB.out _ HB.out⟩

end Go.Proofs.Ytlllgndbcagkgab
