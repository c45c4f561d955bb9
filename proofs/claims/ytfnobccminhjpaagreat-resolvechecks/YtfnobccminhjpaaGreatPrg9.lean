/- The program's Sorts and Class. -/
import Derived.Test.YtfnobccminhjpaaGreatBx9
namespace Go.Proofs.YtfnobccminhjpaaGreat
open Go.RowKit Go.Shelf Go.Maps Go.WideMaps

/-- The numbers that have been laid, and what is still 0. -/
def partI (l : List Int) (k : Nat) : List Value := ints (l.take k) ++ List.replicate (l.length - k) (.int .i64 0)
theorem partI_length {l : List Int} {k : Nat} (h : k ≤ l.length) : (partI l k).length = l.length := by unfold partI ints; simp; omega
theorem partI_zero (l : List Int) : (madeCells (Value.int .i64 0).cells (l.length * 1)) = (partI l 0).toArray := by
  apply Array.ext'
  unfold madeCells partI ints
  simp [Value.cells, Array.toList_map]
  apply List.ext_getElem?
  intro i
  simp [List.getElem?_map, List.getElem?_replicate]
  by_cases h : i < l.length
  · simp [h, Nat.mod_one]
  · simp [h]
theorem partI_step {l : List Int} {k : Nat} (h : k < l.length) : (partI l k).toArray.setIfInBounds k (.int .i64 (l.getD k 0)) = (partI l (k + 1)).toArray := by
  apply Array.ext'
  simp only [Array.toList_setIfInBounds]
  apply List.ext_getElem?
  intro i
  have e1 : (partI l k).length = l.length := partI_length (by omega)
  rw [List.getElem?_set]
  have hlk : (ints (l.take k)).length = k := by unfold ints; simp; omega
  have hlk1 : (ints (l.take (k + 1))).length = k + 1 := by unfold ints; simp; omega
  unfold partI
  by_cases h1 : k = i
  · subst h1
    rw [if_pos rfl, if_pos (by rw [e1.symm] at h; exact h), List.getElem?_append_left (by omega)]
    unfold ints
    rw [List.getElem?_map, List.getElem?_take, if_pos (by omega), List.getElem?_eq_getElem h]
    simp [List.getD, h]
  · rw [if_neg h1]
    by_cases h2 : i < k
    · rw [List.getElem?_append_left (by omega), List.getElem?_append_left (by omega)]
      unfold ints
      rw [List.getElem?_map, List.getElem?_map, List.getElem?_take, List.getElem?_take, if_pos h2, if_pos (by omega)]
    · rw [List.getElem?_append_right (by omega), List.getElem?_append_right (by omega), List.getElem?_replicate, List.getElem?_replicate, hlk, hlk1]
      by_cases h3 : i < l.length
      · rw [if_pos (by omega), if_pos (by omega)]
      · rw [if_neg (by omega), if_neg (by omega)]
theorem partI_all (l : List Int) : partI l l.length = ints l := by unfold partI; simp
theorem partI_cell {w : World} {l : List Int} {k R T : Nat} (h : w.heap[R]? = some (.cells (partI l k).toArray T (0, 0))) (hk : k < l.length) : w.cell? ⟨R, k, none⟩ = some (.int .i64 0) := by
  rw [cell_of_row w _ k _ _ _ h]
  unfold partI
  have : (ints (l.take k)).length = k := by unfold ints; simp; omega
  simp [List.getElem?_append_right, this, List.getElem?_replicate]
  omega
theorem partI_owns {w : World} {l : List Int} {R T b : Nat} (h : w.heap[R]? = some (.cells (partI l l.length).toArray T (0, 0))) (hb : b ≤ R) (hl : l.length ≤ maxLen) : w.ownsRow b T 1 (.slice (some ⟨R, 0, none⟩) l.length l.length) l.length (ints l) := by
  refine ⟨by unfold ints; simp, .inr ⟨R, l.length, _, rfl, hb, h, Nat.le_refl _, hl, ?_, ?_⟩⟩
  · rw [partI_all]; unfold ints; simp
  · rw [partI_all, Nat.mul_one, List.toList_toArray]; exact List.take_of_length_le (by unfold ints; simp)
section
variable {S : StatM} {st : St9} {w : World}
set_option maxRecDepth 100000 in
set_option maxHeartbeats 6400000 in
theorem sorts_any (h : SR w.heap.size w S st) (hl : S.preds.length * 24 ≤ 140737488351232) : Calls Tryz.prog 29 #[st.agg] w fun e w' => ∃ v, e = .returned v ∧ w'.ownsRow w.heap.size 53 1 v S.preds.length (ints (S.preds.map (·.sort))) ∧ Below w.heap.size w w' := by
  obtain ⟨tt, ht⟩ := h.title
  obtain ⟨a1, b1, f1, _, _⟩ := h.kinds.form
  obtain ⟨a2, b2, f2, _, _⟩ := h.members.form
  obtain ⟨a3, b3, f3, _, _⟩ := h.preds.form
  obtain ⟨a4, b4, f4, _, _⟩ := h.classes.form
  obtain ⟨a5, b5, f5, _, _⟩ := h.sources.form
  obtain ⟨a6, b6, f6, _, _⟩ := h.rules.form
  obtain ⟨a7, b7, f7, _, _⟩ := h.excepts.form
  obtain ⟨a8, b8, f8, _, _⟩ := h.totals.form
  obtain ⟨s0, s1, s2, s3, s4, s5, s6, s7, s8⟩ := st
  simp only at ht f1 f2 f3 f4 f5 f6 f7 f8
  subst ht f1 f2 f3 f4 f5 f6 f7 f8
  obtain ⟨iM, hiM, zM0, zM1, zM2⟩ := info_parts' infoO
  have HM := hide h.preds
  obtain ⟨W1, hW1⟩ : ∃ W1, W1 = (w.alloc (.cells #[.string tt, .slice a1 S.kinds.length b1, .slice a2 S.members.length b2, .slice a3 S.preds.length b3, .slice a4 S.classes.length b4, .slice a5 S.sources.length b5, .slice a6 S.rules.length b6, .slice a7 S.excepts.length b7, .slice a8 S.totals.length b8] 31)) := ⟨_, rfl⟩
  have hB1 : Below w.heap.size w W1 := by rw [hW1]; exact (Below.refl _ w).alloc (Nat.le_refl _) _
  have hS1 : W1.heap.size = w.heap.size + 1 := by rw [hW1]; simp
  have hbx : W1.heap[w.heap.size]? = some (.cells #[.string tt, .slice a1 S.kinds.length b1, .slice a2 S.members.length b2, .slice a3 S.preds.length b3, .slice a4 S.classes.length b4, .slice a5 S.sources.length b5, .slice a6 S.rules.length b6, .slice a7 S.excepts.length b7, .slice a8 S.totals.length b8] 31 (0, 0)) := by rw [hW1]; exact heap_alloc_new w _
  have hln : (S.preds.map (·.sort)).length = S.preds.length := List.length_map _
  have hmk := run_make (P := Tryz.prog) W1 51 53 iM _ Tryz.underlying51 hiM zM0 .i64 .i64 S.preds.length S.preds.length (by omega) (by omega) (by rw [zM2]; omega) (by omega)
  rw [zM1, Int.toNat_natCast, ← hln, partI_zero] at hmk
  have x3 := cell_of_row W1 w.heap.size 3 _ _ _ hbx
  simp only [List.getElem?_toArray, List.getElem?_cons_zero, List.getElem?_cons_succ] at x3
  have y3 : (W1.alloc (.cells (partI (S.preds.map (·.sort)) 0).toArray 53)).cell? ⟨w.heap.size, 3, none⟩ = some (.slice a3 S.preds.length b3) := by rw [World.cell?_alloc_past _ _ _ (by show w.heap.size < W1.heap.size; omega)]; exact x3
  have HLN := hide hln
  have HB1 := hide hB1
  unfold St9.agg
  simp only
  rw [hln] at hmk
  clear h hbx hiM zM0 zM1 zM2 hln hB1
  go_enter Tryz.func29, Tryz.ntmps29
  go_upto_region 1 with fail
  rw [← hW1]
  clear hW1
  go_wp2_with fail
  go_loopw [13] (fun x wr => ∃ k : Nat, k ≤ S.preds.length ∧ x = .int .i64 k ∧ Hid (wr.heap[w.heap.size + 1]? = some (.cells (partI (S.preds.map (·.sort)) k).toArray 53 (0, 0))) ∧ Hid (Below W1.heap.size W1 wr)) (fun x _ => S.preds.length - (intOf x).toNat)
  case atStart => exact ⟨0, by omega, rfl, hide (by rw [← hS1]; exact heap_alloc_new W1 _), hide ((Below.refl _ _).alloc (Nat.le_refl _) _)⟩
  case round =>
    clear hmk x3 y3
    obtain ⟨k, hk, rfl, HR, HW⟩ := hrel
    by_cases hlt : k < S.preds.length
    · obtain ⟨x, hx⟩ : ∃ x, S.preds[k]? = some x := ⟨S.preds[k], List.getElem?_eq_getElem hlt⟩
      have HWW := hide (HB1.out.trans (HW.out.mono HB1.out.size))
      have hr := RR.keep HM.out (w' := wr) (fun g hg => HWW.out.block g hg) (fun _ _ h => cPred.keep (fun g hg => HWW.out.block g hg) h)
      obtain ⟨g, o, ka, kc, va, vc, rfl, hg, d0, d1, d2, d3, -⟩ := at_P hr hx
      unfold str at d0
      have hgd : (S.preds.map (·.sort)).getD k 0 = x.sort := by rw [List.getD_eq_getElem?_getD, List.getElem?_map, hx]; rfl
      have hp := partI_step (l := S.preds.map (·.sort)) (k := k) (by rw [HLN.out]; exact hlt)
      rw [hgd] at hp
      have HP := hide hp
      have HA := hide ((Below.refl _ wr).alloc (Nat.le_refl _) (.cells #[.string ⟨x.name.toArray⟩, .int .i64 x.sort, .slice ka x.kinds.length kc, .slice va x.values.length vc] 132))
      have hR1 := (HA.out.block _ (loc_lt HR.out)).trans HR.out
      have k1 := partI_cell hR1 (by rw [HLN.out]; exact hlt)
      have k2 := frozen_of_row _ _ k _ _ hR1
      have HR1 := hide hR1
      have HG : g < wr.heap.size := Nat.lt_of_lt_of_le hg HWW.out.size
      clear hr hx hg hp hgd hR1
      go_wp2_with fail
      go_roundw
      case rel =>
        refine ⟨k + 1, by omega, by go_num, hide ?_, hide ((HW.out.trans (HA.out.mono HW.out.size)).setCell (by show W1.heap.size ≤ w.heap.size + 1; omega) _)⟩
        rw [loc_set HR1.out]
        rw [← HP.out]
      case measure => simp [intOf]; omega
    · have hk' : k = S.preds.length := by omega
      subst hk'
      go_wp2_with fail
      go_ret
      refine ⟨_, rfl, ?_, HB1.out.trans (HW.out.mono HB1.out.size)⟩
      have h9 := HR.out
      rw [← HLN.out] at h9
      have := partI_owns (b := w.heap.size) h9 (by omega) (by rw [HLN.out]; unfold maxLen; omega)
      rw [HLN.out] at this
      exact this
/-- The statute's box and the map of classes. -/
structure CI (st : St9) (w : World) (L : List (Bytes × Int)) (wr : World) : Prop where
  low : Below w.heap.size w wr
  box : wr.heap[w.heap.size]? = some (.cells #[st.title, st.kinds, st.members, st.preds, st.classes, st.sources, st.rules, st.excepts, st.totals] 31 (0, 0))
  map : PMap wr (w.heap.size + 1) L
theorem CI.fr {L L' : List (Bytes × Int)} {wr w' : World} (h : CI st w L wr) (hm : PMap w' (w.heap.size + 1) L') (hf : Fr (fun k => k = w.heap.size + 1) wr w') : CI st w L' w' := by
  have hl := h.map.lt
  exact ⟨h.low.trans (hf.below fun k hk => ⟨by omega, by show ¬ k = w.heap.size + 1; omega⟩), (hf.block _ (loc_lt h.box) (by show ¬ w.heap.size = w.heap.size + 1; omega)).trans h.box, hm⟩
theorem map_snoc {l : List Bytes} {j : Nat} {s : Bytes} (n : Int) (h : l[j]? = some s) : (l.take (j + 1)).map (fun s => (s, n)) = (l.take j).map (fun s => (s, n)) ++ [(s, n)] := by rw [take_snoc h, List.map_append]; rfl
set_option maxRecDepth 100000 in
set_option maxHeartbeats 12800000 in
theorem class_any' (h : SR w.heap.size w S st) (hl : S.preds.length * 24 ≤ 140737488351232) : Calls Tryz.prog 31 #[st.agg] w fun e w' => ∃ v, e = .returned v ∧ w'.ownsRow w.heap.size 3 1 v S.preds.length (ints (clsL S.classes S.preds)) ∧ Below w.heap.size w w' := by
  have hcl : S.classes.length ≤ 140737488351232 := by obtain ⟨_, _, _, _, h9⟩ := h.classes.form; exact h9
  obtain ⟨tt, ht⟩ := h.title
  obtain ⟨a1, b1, f1, _, _⟩ := h.kinds.form
  obtain ⟨a2, b2, f2, _, _⟩ := h.members.form
  obtain ⟨a3, b3, f3, _, _⟩ := h.preds.form
  obtain ⟨a4, b4, f4, _, _⟩ := h.classes.form
  obtain ⟨a5, b5, f5, _, _⟩ := h.sources.form
  obtain ⟨a6, b6, f6, _, _⟩ := h.rules.form
  obtain ⟨a7, b7, f7, _, _⟩ := h.excepts.form
  obtain ⟨a8, b8, f8, _, _⟩ := h.totals.form
  obtain ⟨s0, s1, s2, s3, s4, s5, s6, s7, s8⟩ := st
  simp only at ht f1 f2 f3 f4 f5 f6 f7 f8
  subst ht f1 f2 f3 f4 f5 f6 f7 f8
  obtain ⟨iM, hiM, zM0, zM1, zM2⟩ := info_parts' infoI
  have HM := hide h.preds
  have HC := hide h.classes
  have hmm := run_makeMap0
  obtain ⟨W1, hW1⟩ : ∃ W1, W1 = (w.alloc (.cells #[.string tt, .slice a1 S.kinds.length b1, .slice a2 S.members.length b2, .slice a3 S.preds.length b3, .slice a4 S.classes.length b4, .slice a5 S.sources.length b5, .slice a6 S.rules.length b6, .slice a7 S.excepts.length b7, .slice a8 S.totals.length b8] 31)) := ⟨_, rfl⟩
  have hS1 : W1.heap.size = w.heap.size + 1 := by rw [hW1]; simp
  have K0 : Hid (CI ⟨.string tt, .slice a1 S.kinds.length b1, .slice a2 S.members.length b2, .slice a3 S.preds.length b3, .slice a4 S.classes.length b4, .slice a5 S.sources.length b5, .slice a6 S.rules.length b6, .slice a7 S.excepts.length b7, .slice a8 S.totals.length b8⟩ w [] (W1.alloc (.map #[] 0))) := by
    have hB1 : Below w.heap.size w W1 := by rw [hW1]; exact (Below.refl _ w).alloc (Nat.le_refl _) _
    have hbx : W1.heap[w.heap.size]? = some (.cells #[.string tt, .slice a1 S.kinds.length b1, .slice a2 S.members.length b2, .slice a3 S.preds.length b3, .slice a4 S.classes.length b4, .slice a5 S.sources.length b5, .slice a6 S.rules.length b6, .slice a7 S.excepts.length b7, .slice a8 S.totals.length b8] 31 (0, 0)) := by rw [hW1]; exact heap_alloc_new w _
    exact hide ⟨hB1.alloc (by omega) _, (Below.heap_alloc _ _ _ (by omega)).trans hbx, by rw [← hS1]; exact PMap.made W1⟩
  obtain ⟨-, -, -, -, y4, -⟩ : _ ∧ _ ∧ _ ∧ _ ∧ (W1.alloc (.map #[] 0)).cell? ⟨w.heap.size, 4, none⟩ = some (.slice a4 S.classes.length b4) ∧ True := ⟨trivial, trivial, trivial, trivial, cell_of_row _ _ 4 _ _ _ K0.out.box, trivial⟩
  have hln : (clsL S.classes S.preds).length = S.preds.length := List.length_map _
  have HLN := hide hln
  unfold St9.agg
  simp only
  clear h hln
  go_enter Tryz.func31, Tryz.ntmps31
  go_upto_region 1 with fail
  rw [← hW1]
  clear hW1
  go_wp2_with fail
  clear hmm
  go_loopw [17] (fun x wr => ∃ i : Nat, i ≤ S.classes.length ∧ x = .int .i64 i ∧ Hid (CI ⟨.string tt, .slice a1 S.kinds.length b1, .slice a2 S.members.length b2, .slice a3 S.preds.length b3, .slice a4 S.classes.length b4, .slice a5 S.sources.length b5, .slice a6 S.rules.length b6, .slice a7 S.excepts.length b7, .slice a8 S.totals.length b8⟩ w (prs 0 (S.classes.take i)) wr)) (fun x _ => S.classes.length - (intOf x).toNat)
  case atStart => exact ⟨0, by omega, rfl, K0⟩
  case round =>
    clear K0 y4
    obtain ⟨i, hi, rfl, K⟩ := hrel
    by_cases hlt : i < S.classes.length
    · obtain ⟨l, hx⟩ : ∃ l, S.classes[i]? = some l := ⟨S.classes[i], List.getElem?_eq_getElem hlt⟩
      have HPS := hide (prs_snoc hx)
      have hr := RR.keep HC.out (w' := wr) (fun g hg => K.out.low.block g hg) (fun _ _ h => cClass.keep (fun g hg => K.out.low.block g hg) h)
      obtain ⟨g, o, ka, kc, rfl, hg, d0, hls⟩ := at_C hr hx
      obtain ⟨_, _, _, _, hlb⟩ := hls.form
      have HLS := hide (Strs.keep (w' := w) (fun g hg => (K.out.low.block g hg).symm) hls)
      clear hr hx hg hls
      go_wp2_with fail
      clear d0
      have K1 : Hid (CI ⟨.string tt, .slice a1 S.kinds.length b1, .slice a2 S.members.length b2, .slice a3 S.preds.length b3, .slice (some ⟨g, o, none⟩) S.classes.length b4, .slice a5 S.sources.length b5, .slice a6 S.rules.length b6, .slice a7 S.excepts.length b7, .slice a8 S.totals.length b8⟩ w (prs 0 (S.classes.take i) ++ (l.take 0).map (fun s => (s, (i : Int)))) wr) := by simpa using K
      go_loopw [24] (fun x wr => ∃ j : Nat, j ≤ l.length ∧ x = .int .i64 j ∧ Hid (CI ⟨.string tt, .slice a1 S.kinds.length b1, .slice a2 S.members.length b2, .slice a3 S.preds.length b3, .slice (some ⟨g, o, none⟩) S.classes.length b4, .slice a5 S.sources.length b5, .slice a6 S.rules.length b6, .slice a7 S.excepts.length b7, .slice a8 S.totals.length b8⟩ w (prs 0 (S.classes.take i) ++ (l.take j).map (fun s => (s, (i : Int)))) wr)) (fun x _ => l.length - (intOf x).toNat)
      case atStart => exact ⟨0, by omega, rfl, K1⟩
      case round =>
        clear K K1
        obtain ⟨j, hj, rfl, K⟩ := hrel
        by_cases hjl : j < l.length
        · obtain ⟨s, hsx⟩ : ∃ s, l[j]? = some s := ⟨l[j], List.getElem?_eq_getElem hjl⟩
          have HSN := hide (map_snoc (i : Int) hsx)
          obtain ⟨g2, o2, rfl, hg2, e0, hs⟩ := at_S (Strs.keep (w' := wr) (fun g hg => K.out.low.block g hg) HLS.out) hsx
          have CP := hide (putP_any K.out.map s hs (i : Int))
          unfold str at CP e0
          clear hsx hg2
          go_wp2_with (go_at_call 87; refine CP.out.mono ?_; rintro _ w3 ⟨⟨bb, rfl⟩, hm3, hf3⟩; have K3 := hide (K.out.fr hm3 hf3); clear hm3 hf3 CP e0)
          go_roundw
          case rel => exact ⟨j + 1, by omega, by go_num, by rw [HSN.out, ← List.append_assoc]; exact K3⟩
          case measure => simp [intOf]; omega
        · have hj' : j = l.length := by omega
          subst hj'
          have HE := hide (List.take_of_length_le (Nat.le_refl l.length))
          rw [HE.out, ← HPS.out] at K
          go_wp2_with fail
          go_roundw
          case rel => exact ⟨i + 1, by omega, by go_num, K⟩
          case measure => simp [intOf]; omega
    · have hi' : i = S.classes.length := by omega
      subst hi'
      have HE := hide (List.take_of_length_le (Nat.le_refl S.classes.length))
      rw [HE.out] at K
      clear hi hlt HC
      obtain ⟨-, -, -, x3⟩ : _ ∧ _ ∧ _ ∧ wr.cell? ⟨w.heap.size, 3, none⟩ = some (.slice a3 S.preds.length b3) := ⟨trivial, trivial, trivial, cell_of_row _ _ 3 _ _ _ K.out.box⟩
      have hmk := run_make (P := Tryz.prog) wr 38 3 iM _ Tryz.underlying38 hiM zM0 .i64 .i64 S.preds.length S.preds.length (by omega) (by omega) (by rw [zM2]; omega) (by omega)
      rw [zM1, Int.toNat_natCast, ← HLN.out, partI_zero] at hmk
      have y3 : (wr.alloc (.cells (partI (clsL S.classes S.preds) 0).toArray 3)).cell? ⟨w.heap.size, 3, none⟩ = some (.slice a3 S.preds.length b3) := by rw [World.cell?_alloc_past _ _ _ (loc_lt K.out.box)]; exact x3
      rw [HLN.out] at hmk
      clear hiM zM0 zM1 zM2
      go_wp2_with fail
      obtain ⟨W3, hW3⟩ : ∃ W3, W3 = wr := ⟨_, rfl⟩
      subst hW3
      go_loopw [41] (fun x wr => ∃ k : Nat, k ≤ S.preds.length ∧ x = .int .i64 k ∧ Hid (wr.heap[W3.heap.size]? = some (.cells (partI (clsL S.classes S.preds) k).toArray 3 (0, 0))) ∧ Hid (Below W3.heap.size W3 wr)) (fun x _ => S.preds.length - (intOf x).toNat)
      case atStart => exact ⟨0, by omega, rfl, hide (heap_alloc_new W3 _), hide ((Below.refl _ _).alloc (Nat.le_refl _) _)⟩
      case round =>
        clear hmk x3 y3
        obtain ⟨k, hk, rfl, HR, HW⟩ := hrel
        by_cases hlt : k < S.preds.length
        · obtain ⟨x, hx⟩ : ∃ x, S.preds[k]? = some x := ⟨S.preds[k], List.getElem?_eq_getElem hlt⟩
          have HWW := hide (K.out.low.trans (HW.out.mono K.out.low.size))
          have hr := RR.keep HM.out (w' := wr) (fun g hg => HWW.out.block g hg) (fun _ _ h => cPred.keep (fun g hg => HWW.out.block g hg) h)
          obtain ⟨g, o, ka, kc, va, vc, rfl, hg, d0, d1, d2, d3, hs, -⟩ := at_P hr hx
          unfold str at d0
          have hgd : (clsL S.classes S.preds).getD k 0 = clsF 0 S.classes x.name := by unfold clsL; rw [List.getD_eq_getElem?_getD, List.getElem?_map, hx]; rfl
          have hp := partI_step (l := clsL S.classes S.preds) (k := k) (by rw [HLN.out]; exact hlt)
          rw [hgd] at hp
          have HP := hide hp
          have HA := hide ((Below.refl _ wr).alloc (Nat.le_refl _) (.cells #[.string ⟨x.name.toArray⟩, .int .i64 x.sort, .slice ka x.kinds.length kc, .slice va x.values.length vc] 132))
          have hR1 := (HA.out.block _ (loc_lt HR.out)).trans HR.out
          have k1 := partI_cell hR1 (by rw [HLN.out]; exact hlt)
          have k2 := frozen_of_row _ _ k _ _ hR1
          have HR1 := hide hR1
          have HG : g < wr.heap.size := Nat.lt_of_lt_of_le hg HWW.out.size
          have hm1 : PMap (wr.alloc (.cells #[.string ⟨x.name.toArray⟩, .int .i64 x.sort, .slice ka x.kinds.length kc, .slice va x.values.length vc] 132)) (w.heap.size + 1) (prs 0 S.classes) := K.out.map.keep ((HA.out.block _ (Nat.lt_of_lt_of_le K.out.map.lt HW.out.size)).trans (HW.out.block _ K.out.map.lt))
          have hlk := hm1.look x.name hs
          have hac := asc_prs S.classes 0 x.name
          clear hr hx hg hp hgd hR1 hm1
          cases hc : asc (prs 0 S.classes) x.name with
          | some v =>
            rw [hc] at hlk hac
            simp only [Option.getD_some, Option.isSome_some] at hlk hac
            rw [← hac] at HP
            clear hac hc
            go_wp2_with fail
            go_roundw
            case rel =>
              refine ⟨k + 1, by omega, by go_num, hide ?_, hide ((HW.out.trans (HA.out.mono HW.out.size)).setCell (Nat.le_refl _) _)⟩
              rw [loc_set HR1.out]
              rw [← HP.out]
            case measure => simp [intOf]; omega
          | none =>
            rw [hc] at hlk hac
            simp only [Option.getD_none, Option.isSome_none] at hlk hac
            rw [← hac] at HP
            clear hac hc
            go_wp2_with fail
            go_roundw
            case rel =>
              refine ⟨k + 1, by omega, by go_num, hide ?_, hide ((HW.out.trans (HA.out.mono HW.out.size)).setCell (Nat.le_refl _) _)⟩
              rw [loc_set HR1.out]
              rw [← HP.out]
            case measure => simp [intOf]; omega
        · have hk' : k = S.preds.length := by omega
          subst hk'
          go_wp2_with fail
          go_ret
          refine ⟨_, rfl, ?_, K.out.low.trans (HW.out.mono K.out.low.size)⟩
          have h9 := HR.out
          rw [← HLN.out] at h9
          have := partI_owns (b := w.heap.size) h9 K.out.low.size (by rw [HLN.out]; unfold maxLen; omega)
          rw [HLN.out] at this
          exact this
end
end Go.Proofs.YtfnobccminhjpaaGreat
