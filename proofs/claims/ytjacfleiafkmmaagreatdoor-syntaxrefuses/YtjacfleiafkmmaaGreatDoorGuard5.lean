/- Terms, sides, guards. By program. -/
import Derived.Test.YtjacfleiafkmmaaGreatDoorMarks5
namespace Go.Proofs.YtjacfleiafkmmaaGreatDoor.Sy
open Go.RowKit

section
variable (R : Nat) (L : List Tok) (N : Nat) (s : RS) (st : St9) (w : World)

set_option maxRecDepth 100000 in
set_option maxHeartbeats 1600000 in
theorem plainTerm_any (h : Rd R L N s st w) (o : Out TermM) (ho : plainTermM FN (kt L) s = o) :
    Calls Tryz.prog 214 #[.pointer (some ⟨R, 0, none⟩)] w (Ends R L N st w (vTerm (New w)) o) := by
  have HO := hide ho
  have H := hide h
  have F := hide (Fq.refl R w)
  clear h ho
  have f0 := fun a b c w => (fld a b c w).1
  have ho := ask_go HO.out
  clear HO
  by_cases hk : kd (kt L) s.n = 3
  · have ho := ask_go (ite_t ho (by simp [hk]))
    cases hm : markAt (kt L) (s.n + 1) [42] with
    | false =>
      have HO := hide (ite_f ho hm)
      have CA0 := hide (fun w h => ahead_any R L N s st w h 0 (by omega))
      rw [show s.n + 0 = s.n from rfl, hk] at CA0
      have CM := hide (markCall L (s.n + 1) (placeAt L N (s.n + 1)) [42])
      rw [hm] at CM
      clear ho hk hm
      go_enter Tryz.func214, Tryz.ntmps214
      have B21 : Below _ _ ((w).alloc (.cells #[.int .i64 0, .string ⟨#[]⟩, .slice none 0 0, .int .i64 0] 109)) := (Below.refl _ _).alloc (Nat.le_refl _) _
      have Q21 : Hid (R < w.heap.size) := hide H.out.lt
      have G21 : Hid (w.heap.size ≤ w.heap.size) := hide F.out.size
      have LB21 := hide (heap_alloc_new (w) (.cells #[.int .i64 0, .string ⟨#[]⟩, .slice none 0 0, .int .i64 0] 109))
      have H21 := hide (H.out.below B21)
      have F21 := hide (F.out.trans (Fq.of_below B21))
      clear H F B21
      go_wp2_with fail
      refine (CA0.out _ H21.out).mono ?_
      rintro _ w22 ⟨rfl, hb⟩
      have LB21_22 := hide ((hb.block _ (loc_lt LB21.out)).trans LB21.out)
      clear LB21
      have H22 := hide (H21.out.below hb)
      have F22 := hide (F21.out.trans (Fq.of_below hb))
      clear hb H21 F21
      obtain ⟨z23_0, z23_1, z23_2, z23_3, y23⟩ := row4 LB21_22.out
      go_wp2_with fail
      refine (ahead_any R L N s st _ H22.out 1 (by omega)).mono ?_
      rintro _ w24 ⟨rfl, hb⟩
      clear z23_0 z23_1 z23_2 z23_3 y23
      have LB21_22_24 := hide ((hb.block _ (loc_lt LB21_22.out)).trans LB21_22.out)
      clear LB21_22
      have H24 := hide (H22.out.below hb)
      have F24 := hide (F22.out.trans (Fq.of_below hb))
      clear hb H22 F22
      obtain ⟨z25_0, z25_1, z25_2, z25_3, y25⟩ := row4 LB21_22_24.out
      go_wp2_with fail
      refine (CM.out _).mono ?_
      rintro _ w26 ⟨rfl, hb⟩
      clear z25_0 z25_1 z25_2 z25_3 y25
      have LB21_22_24_26 := hide ((hb.block _ (loc_lt LB21_22_24.out)).trans LB21_22_24.out)
      clear LB21_22_24
      have H26 := hide (H24.out.below hb)
      have F26 := hide (F24.out.trans (Fq.of_below hb))
      clear hb H24 F24
      obtain ⟨z27_0, z27_1, z27_2, z27_3, y27⟩ := row4 LB21_22_24_26.out
      have C28 := hide (amount_any R L N s st _ [] (by decide) H26.out _ rfl)
      go_wp2_with fail
      refine C28.out.mono ?_
      intro e w28 he
      rcases he.split with ⟨a28, s28, v28, ho, rfl, hv, hR, hF⟩ | ⟨c, m, ho, rfl, hF⟩
      rotate_left 1
      · exact on_panic rfl (.of_bad (bind_no HO.out ho) (F26.out.trans hF))
      clear z27_0 z27_1 z27_2 z27_3 y27
      have HO28 := hide (bind_go HO.out ho)
      have LB21_22_24_26_28 := hide (hF.loc LB21_22_24_26.out (Nat.ne_of_gt Q21.out))
      clear LB21_22_24_26
      have H28 := hide hR
      have F28 := hide (F26.out.trans hF)
      cases hv
      clear he ho hR hF C28 H26 F26 HO
      obtain ⟨z29_0, z29_1, z29_2, z29_3, y29⟩ := row4 LB21_22_24_26_28.out
      go_wp2_with fail
      have hz := (And.intro z29_0 (And.intro z29_1 (And.intro z29_2 (And.intro z29_3 y29))))
      simp [bodyPost, results, Tryz.results214, go_sem, hz]
      have LB21_22_24_26_28_30 := hide (loc_set (i := 0) (v := .int .i64 0) LB21_22_24_26_28.out)
      clear LB21_22_24_26_28
      have H30 := hide (H28.out.setLoc Q21.out 0 (.int .i64 0))
      have F30 := hide (F28.out.setLoc G21.out 0 (.int .i64 0))
      clear H28 F28
      have LB21_22_24_26_28_30_31 := hide (loc_set (i := 1) (v := .string ⟨#[]⟩) LB21_22_24_26_28_30.out)
      clear LB21_22_24_26_28_30
      have H31 := hide (H30.out.setLoc Q21.out 1 (.string ⟨#[]⟩))
      have F31 := hide (F30.out.setLoc G21.out 1 (.string ⟨#[]⟩))
      clear H30 F30
      have LB21_22_24_26_28_30_31_32 := hide (loc_set (i := 2) (v := .slice none 0 0) LB21_22_24_26_28_30_31.out)
      clear LB21_22_24_26_28_30_31
      have H32 := hide (H31.out.setLoc Q21.out 2 (.slice none 0 0))
      have F32 := hide (F31.out.setLoc G21.out 2 (.slice none 0 0))
      clear H31 F31
      have LB21_22_24_26_28_30_31_32_33 := hide (loc_set (i := 3) (v := .int .i64 a28) LB21_22_24_26_28_30_31_32.out)
      clear LB21_22_24_26_28_30_31_32
      have H33 := hide (H32.out.setLoc Q21.out 3 (.int .i64 a28))
      have F33 := hide (F32.out.setLoc G21.out 3 (.int .i64 a28))
      clear H32 F32
      exact .of_ok HO28.out (⟨_, rfl, Rows.nil _ _ _ _ _⟩) H33.out F33.out
    | true =>
      have HO := hide (ite_t ho hm)
      have CA0 := hide (fun w h => ahead_any R L N s st w h 0 (by omega))
      rw [show s.n + 0 = s.n from rfl, hk] at CA0
      have CM := hide (markCall L (s.n + 1) (placeAt L N (s.n + 1)) [42])
      rw [hm] at CM
      clear ho hk hm
      go_enter Tryz.func214, Tryz.ntmps214
      have B34 : Below _ _ ((w).alloc (.cells #[.int .i64 0, .string ⟨#[]⟩, .slice none 0 0, .int .i64 0] 109)) := (Below.refl _ _).alloc (Nat.le_refl _) _
      have Q34 : Hid (R < w.heap.size) := hide H.out.lt
      have G34 : Hid (w.heap.size ≤ w.heap.size) := hide F.out.size
      have LB34 := hide (heap_alloc_new (w) (.cells #[.int .i64 0, .string ⟨#[]⟩, .slice none 0 0, .int .i64 0] 109))
      have H34 := hide (H.out.below B34)
      have F34 := hide (F.out.trans (Fq.of_below B34))
      clear H F B34
      go_wp2_with fail
      refine (CA0.out _ H34.out).mono ?_
      rintro _ w35 ⟨rfl, hb⟩
      have LB34_35 := hide ((hb.block _ (loc_lt LB34.out)).trans LB34.out)
      clear LB34
      have H35 := hide (H34.out.below hb)
      have F35 := hide (F34.out.trans (Fq.of_below hb))
      clear hb H34 F34
      obtain ⟨z36_0, z36_1, z36_2, z36_3, y36⟩ := row4 LB34_35.out
      go_wp2_with fail
      refine (ahead_any R L N s st _ H35.out 1 (by omega)).mono ?_
      rintro _ w37 ⟨rfl, hb⟩
      clear z36_0 z36_1 z36_2 z36_3 y36
      have LB34_35_37 := hide ((hb.block _ (loc_lt LB34_35.out)).trans LB34_35.out)
      clear LB34_35
      have H37 := hide (H35.out.below hb)
      have F37 := hide (F35.out.trans (Fq.of_below hb))
      clear hb H35 F35
      obtain ⟨z38_0, z38_1, z38_2, z38_3, y38⟩ := row4 LB34_35_37.out
      go_wp2_with fail
      refine (CM.out _).mono ?_
      rintro _ w39 ⟨rfl, hb⟩
      clear z38_0 z38_1 z38_2 z38_3 y38
      have LB34_35_37_39 := hide ((hb.block _ (loc_lt LB34_35_37.out)).trans LB34_35_37.out)
      clear LB34_35_37
      have H39 := hide (H37.out.below hb)
      have F39 := hide (F37.out.trans (Fq.of_below hb))
      clear hb H37 F37
      obtain ⟨z40_0, z40_1, z40_2, z40_3, y40⟩ := row4 LB34_35_37_39.out
      have B41 : Below _ _ ((w39).alloc (.cells #[.int .i64 1, .string ⟨#[]⟩, .slice none 0 0, .int .i64 0] 109)) := (Below.refl _ _).alloc (Nat.le_refl _) _
      have Q41 : Hid (R < w39.heap.size) := hide H39.out.lt
      have G41 : Hid (w.heap.size ≤ w39.heap.size) := hide F39.out.size
      have NE_0_1 : Hid (w.heap.size ≠ w39.heap.size) := hide (Nat.ne_of_lt (loc_lt LB34_35_37_39.out))
      have NE_1_0 : Hid (w39.heap.size ≠ w.heap.size) := hide (Nat.ne_of_gt (loc_lt LB34_35_37_39.out))
      have LB34_35_37_39_41 := hide ((B41.block _ (loc_lt LB34_35_37_39.out)).trans LB34_35_37_39.out)
      clear LB34_35_37_39
      have LB41 := hide (heap_alloc_new (w39) (.cells #[.int .i64 1, .string ⟨#[]⟩, .slice none 0 0, .int .i64 0] 109))
      have H41 := hide (H39.out.below B41)
      have F41 := hide (F39.out.trans (Fq.of_below B41))
      clear H39 F39 B41
      have C42 := hide (int_any R L N s st _ 1 1000 H41.out _ rfl)
      go_wp2_with fail
      refine C42.out.mono ?_
      intro e w42 he
      rcases he.split with ⟨a42, s42, v42, ho, rfl, hv, hR, hF⟩ | ⟨c, m, ho, rfl, hF⟩
      rotate_left 1
      · exact on_panic rfl (.of_bad (bind_no HO.out ho) (F41.out.trans hF))
      clear z40_0 z40_1 z40_2 z40_3 y40
      have HO42 := hide (bind_go HO.out ho)
      have LB34_35_37_39_41_42 := hide (hF.loc LB34_35_37_39_41.out (Nat.ne_of_gt Q34.out))
      clear LB34_35_37_39_41
      have LB41_42 := hide (hF.loc LB41.out (Nat.ne_of_gt Q41.out))
      clear LB41
      have H42 := hide hR
      have F42 := hide (F41.out.trans hF)
      cases hv
      clear he ho hR hF C42 H41 F41 HO
      obtain ⟨z43_0, z43_1, z43_2, z43_3, y43⟩ := row4 LB34_35_37_39_41_42.out
      obtain ⟨z44_0, z44_1, z44_2, z44_3, y44⟩ := row4 LB41_42.out
      have x45 := NE_0_1.out
      have x46 := NE_1_0.out
      have LB34_35_37_39_41_42_47 := hide (loc_other (p := ⟨w39.heap.size, 0, none⟩) (v := .int .i64 a42) LB34_35_37_39_41_42.out (NE_0_1.out))
      have LB41_42_47 := hide (loc_set (i := 0) (v := .int .i64 a42) LB41_42.out)
      clear LB34_35_37_39_41_42 LB41_42
      have H47 := hide (H42.out.setLoc Q41.out 0 (.int .i64 a42))
      have F47 := hide (F42.out.setLoc G41.out 0 (.int .i64 a42))
      clear H42 F42
      have C48 := hide (wantMark_any R L N s42 st _ [42] H47.out _ rfl)
      go_wp2_with fail
      refine C48.out.mono ?_
      intro e w48 he
      rcases he.split with ⟨a48, s48, v48, ho, rfl, hv, hR, hF⟩ | ⟨c, m, ho, rfl, hF⟩
      rotate_left 1
      · exact on_panic rfl (.of_bad (bind_no HO42.out ho) (F47.out.trans hF))
      clear z43_0 z43_1 z43_2 z43_3 y43 z44_0 z44_1 z44_2 z44_3 y44 x45 x46
      have HO48 := hide (bind_go HO42.out ho)
      have LB34_35_37_39_41_42_47_48 := hide (hF.loc LB34_35_37_39_41_42_47.out (Nat.ne_of_gt Q34.out))
      clear LB34_35_37_39_41_42_47
      have LB41_42_47_48 := hide (hF.loc LB41_42_47.out (Nat.ne_of_gt Q41.out))
      clear LB41_42_47
      have H48 := hide hR
      have F48 := hide (F47.out.trans hF)
      cases hv
      clear he ho hR hF C48 H47 F47 HO42
      obtain ⟨z49_0, z49_1, z49_2, z49_3, y49⟩ := row4 LB34_35_37_39_41_42_47_48.out
      obtain ⟨z50_0, z50_1, z50_2, z50_3, y50⟩ := row4 LB41_42_47_48.out
      have x51 := NE_0_1.out
      have x52 := NE_1_0.out
      have C53 := hide (name_any R L N s48 st _ H48.out _ rfl)
      go_wp2_with fail
      refine C53.out.mono ?_
      intro e w53 he
      rcases he.split with ⟨a53, s53, v53, ho, rfl, hv, hR, hF⟩ | ⟨c, m, ho, rfl, hF⟩
      rotate_left 1
      · exact on_panic rfl (.of_bad (bind_no HO48.out ho) (F48.out.trans hF))
      clear z49_0 z49_1 z49_2 z49_3 y49 z50_0 z50_1 z50_2 z50_3 y50 x51 x52
      have HO53 := hide (bind_go HO48.out ho)
      have LB34_35_37_39_41_42_47_48_53 := hide (hF.loc LB34_35_37_39_41_42_47_48.out (Nat.ne_of_gt Q34.out))
      clear LB34_35_37_39_41_42_47_48
      have LB41_42_47_48_53 := hide (hF.loc LB41_42_47_48.out (Nat.ne_of_gt Q41.out))
      clear LB41_42_47_48
      have H53 := hide hR
      have F53 := hide (F48.out.trans hF)
      cases hv
      clear he ho hR hF C53 H48 F48 HO48
      obtain ⟨z54_0, z54_1, z54_2, z54_3, y54⟩ := row4 LB34_35_37_39_41_42_47_48_53.out
      obtain ⟨z55_0, z55_1, z55_2, z55_3, y55⟩ := row4 LB41_42_47_48_53.out
      have x56 := NE_0_1.out
      have x57 := NE_1_0.out
      have LB34_35_37_39_41_42_47_48_53_58 := hide (loc_other (p := ⟨w39.heap.size, 1, none⟩) (v := .string ⟨a53.toArray⟩) LB34_35_37_39_41_42_47_48_53.out (NE_0_1.out))
      have LB41_42_47_48_53_58 := hide (loc_set (i := 1) (v := .string ⟨a53.toArray⟩) LB41_42_47_48_53.out)
      clear LB34_35_37_39_41_42_47_48_53 LB41_42_47_48_53
      have H58 := hide (H53.out.setLoc Q41.out 1 (.string ⟨a53.toArray⟩))
      have F58 := hide (F53.out.setLoc G41.out 1 (.string ⟨a53.toArray⟩))
      clear H53 F53
      have C59 := hide (brackets_arg R L N s53 st _ H58.out _ rfl)
      go_wp2_with fail
      refine C59.out.mono ?_
      intro e w59 he
      rcases he.split with ⟨a59, s59, v59, ho, rfl, hv, hR, hF⟩ | ⟨c, m, ho, rfl, hF⟩
      rotate_left 1
      · exact on_panic rfl (.of_bad (bind_no HO53.out ho) (F58.out.trans hF))
      clear z54_0 z54_1 z54_2 z54_3 y54 z55_0 z55_1 z55_2 z55_3 y55 x56 x57
      have HO59 := hide (bind_go HO53.out ho)
      have LB34_35_37_39_41_42_47_48_53_58_59 := hide (hF.loc LB34_35_37_39_41_42_47_48_53_58.out (Nat.ne_of_gt Q34.out))
      clear LB34_35_37_39_41_42_47_48_53_58
      have LB41_42_47_48_53_58_59 := hide (hF.loc LB41_42_47_48_53_58.out (Nat.ne_of_gt Q41.out))
      clear LB41_42_47_48_53_58
      have H59 := hide hR
      have F59 := hide (F58.out.trans hF)
      obtain ⟨p59, r59, rfl⟩ := rows_form hv
      have V59 := hide (Strs.mono hv fun g hg => Nat.le_trans F58.out.size hg)
      clear hv
      clear he ho hR hF C59 H58 F58 HO53
      obtain ⟨z60_0, z60_1, z60_2, z60_3, y60⟩ := row4 LB34_35_37_39_41_42_47_48_53_58_59.out
      obtain ⟨z61_0, z61_1, z61_2, z61_3, y61⟩ := row4 LB41_42_47_48_53_58_59.out
      have x62 := NE_0_1.out
      have x63 := NE_1_0.out
      have V59_64 := hide (Strs.keep V59.out (Kp.setLoc (T := [9]) (i := 2) (v := .slice p59 a59.length r59) LB41_42_47_48_53_58_59.out (by decide)) (by decide))
      clear V59
      have LB34_35_37_39_41_42_47_48_53_58_59_64 := hide (loc_other (p := ⟨w39.heap.size, 2, none⟩) (v := .slice p59 a59.length r59) LB34_35_37_39_41_42_47_48_53_58_59.out (NE_0_1.out))
      have LB41_42_47_48_53_58_59_64 := hide (loc_set (i := 2) (v := .slice p59 a59.length r59) LB41_42_47_48_53_58_59.out)
      clear LB34_35_37_39_41_42_47_48_53_58_59 LB41_42_47_48_53_58_59
      have H64 := hide (H59.out.setLoc Q41.out 2 (.slice p59 a59.length r59))
      have F64 := hide (F59.out.setLoc G41.out 2 (.slice p59 a59.length r59))
      clear H59 F59
      go_wp2_with fail
      have hz := (And.intro z60_0 (And.intro z60_1 (And.intro z60_2 (And.intro z60_3 (And.intro y60 (And.intro z61_0 (And.intro z61_1 (And.intro z61_2 (And.intro z61_3 (And.intro y61 (And.intro x62 x63)))))))))))
      simp [bodyPost, results, Tryz.results214, go_sem, hz]
      have V59_64_65 := hide (Strs.keep V59_64.out (Kp.setLoc (T := [9]) (i := 0) (v := .int .i64 a42) LB34_35_37_39_41_42_47_48_53_58_59_64.out (by decide)) (by decide))
      clear V59_64
      have LB34_35_37_39_41_42_47_48_53_58_59_64_65 := hide (loc_set (i := 0) (v := .int .i64 a42) LB34_35_37_39_41_42_47_48_53_58_59_64.out)
      have LB41_42_47_48_53_58_59_64_65 := hide (loc_other (p := ⟨w.heap.size, 0, none⟩) (v := .int .i64 a42) LB41_42_47_48_53_58_59_64.out (NE_1_0.out))
      clear LB34_35_37_39_41_42_47_48_53_58_59_64 LB41_42_47_48_53_58_59_64
      have H65 := hide (H64.out.setLoc Q34.out 0 (.int .i64 a42))
      have F65 := hide (F64.out.setLoc G34.out 0 (.int .i64 a42))
      clear H64 F64
      have V59_64_65_66 := hide (Strs.keep V59_64_65.out (Kp.setLoc (T := [9]) (i := 1) (v := .string ⟨a53.toArray⟩) LB34_35_37_39_41_42_47_48_53_58_59_64_65.out (by decide)) (by decide))
      clear V59_64_65
      have LB34_35_37_39_41_42_47_48_53_58_59_64_65_66 := hide (loc_set (i := 1) (v := .string ⟨a53.toArray⟩) LB34_35_37_39_41_42_47_48_53_58_59_64_65.out)
      have LB41_42_47_48_53_58_59_64_65_66 := hide (loc_other (p := ⟨w.heap.size, 1, none⟩) (v := .string ⟨a53.toArray⟩) LB41_42_47_48_53_58_59_64_65.out (NE_1_0.out))
      clear LB34_35_37_39_41_42_47_48_53_58_59_64_65 LB41_42_47_48_53_58_59_64_65
      have H66 := hide (H65.out.setLoc Q34.out 1 (.string ⟨a53.toArray⟩))
      have F66 := hide (F65.out.setLoc G34.out 1 (.string ⟨a53.toArray⟩))
      clear H65 F65
      have V59_64_65_66_67 := hide (Strs.keep V59_64_65_66.out (Kp.setLoc (T := [9]) (i := 2) (v := .slice p59 a59.length r59) LB34_35_37_39_41_42_47_48_53_58_59_64_65_66.out (by decide)) (by decide))
      clear V59_64_65_66
      have LB34_35_37_39_41_42_47_48_53_58_59_64_65_66_67 := hide (loc_set (i := 2) (v := .slice p59 a59.length r59) LB34_35_37_39_41_42_47_48_53_58_59_64_65_66.out)
      have LB41_42_47_48_53_58_59_64_65_66_67 := hide (loc_other (p := ⟨w.heap.size, 2, none⟩) (v := .slice p59 a59.length r59) LB41_42_47_48_53_58_59_64_65_66.out (NE_1_0.out))
      clear LB34_35_37_39_41_42_47_48_53_58_59_64_65_66 LB41_42_47_48_53_58_59_64_65_66
      have H67 := hide (H66.out.setLoc Q34.out 2 (.slice p59 a59.length r59))
      have F67 := hide (F66.out.setLoc G34.out 2 (.slice p59 a59.length r59))
      clear H66 F66
      have V59_64_65_66_67_68 := hide (Strs.keep V59_64_65_66_67.out (Kp.setLoc (T := [9]) (i := 3) (v := .int .i64 0) LB34_35_37_39_41_42_47_48_53_58_59_64_65_66_67.out (by decide)) (by decide))
      clear V59_64_65_66_67
      have LB34_35_37_39_41_42_47_48_53_58_59_64_65_66_67_68 := hide (loc_set (i := 3) (v := .int .i64 0) LB34_35_37_39_41_42_47_48_53_58_59_64_65_66_67.out)
      have LB41_42_47_48_53_58_59_64_65_66_67_68 := hide (loc_other (p := ⟨w.heap.size, 3, none⟩) (v := .int .i64 0) LB41_42_47_48_53_58_59_64_65_66_67.out (NE_1_0.out))
      clear LB34_35_37_39_41_42_47_48_53_58_59_64_65_66_67 LB41_42_47_48_53_58_59_64_65_66_67
      have H68 := hide (H67.out.setLoc Q34.out 3 (.int .i64 0))
      have F68 := hide (F67.out.setLoc G34.out 3 (.int .i64 0))
      clear H67 F67
      exact .of_ok HO59.out (⟨_, rfl, V59_64_65_66_67_68.out⟩) H68.out F68.out
  · have HO := hide (ite_f ho (by simp [hk]))
    have hk' : ¬ ((kd (kt L) s.n : Nat) : Int) = 3 := by omega
    clear ho hk
    go_enter Tryz.func214, Tryz.ntmps214
    have B1 : Below _ _ ((w).alloc (.cells #[.int .i64 0, .string ⟨#[]⟩, .slice none 0 0, .int .i64 0] 109)) := (Below.refl _ _).alloc (Nat.le_refl _) _
    have Q1 : Hid (R < w.heap.size) := hide H.out.lt
    have G1 : Hid (w.heap.size ≤ w.heap.size) := hide F.out.size
    have LB1 := hide (heap_alloc_new (w) (.cells #[.int .i64 0, .string ⟨#[]⟩, .slice none 0 0, .int .i64 0] 109))
    have H1 := hide (H.out.below B1)
    have F1 := hide (F.out.trans (Fq.of_below B1))
    clear H F B1
    go_wp2_with fail
    refine ((ahead_any R L N s st _ H1.out 0 (by omega))).mono ?_
    rintro _ w2 ⟨rfl, hb⟩
    have LB1_2 := hide ((hb.block _ (loc_lt LB1.out)).trans LB1.out)
    clear LB1
    have H2 := hide (H1.out.below hb)
    have F2 := hide (F1.out.trans (Fq.of_below hb))
    clear hb H1 F1
    obtain ⟨z3_0, z3_1, z3_2, z3_3, y3⟩ := row4 LB1_2.out
    have B4 : Below _ _ ((w2).alloc (.cells #[.int .i64 1, .string ⟨#[]⟩, .slice none 0 0, .int .i64 0] 109)) := (Below.refl _ _).alloc (Nat.le_refl _) _
    have Q4 : Hid (R < w2.heap.size) := hide H2.out.lt
    have G4 : Hid (w.heap.size ≤ w2.heap.size) := hide F2.out.size
    have NE_0_1 : Hid (w.heap.size ≠ w2.heap.size) := hide (Nat.ne_of_lt (loc_lt LB1_2.out))
    have NE_1_0 : Hid (w2.heap.size ≠ w.heap.size) := hide (Nat.ne_of_gt (loc_lt LB1_2.out))
    have LB1_2_4 := hide ((B4.block _ (loc_lt LB1_2.out)).trans LB1_2.out)
    clear LB1_2
    have LB4 := hide (heap_alloc_new (w2) (.cells #[.int .i64 1, .string ⟨#[]⟩, .slice none 0 0, .int .i64 0] 109))
    have H4 := hide (H2.out.below B4)
    have F4 := hide (F2.out.trans (Fq.of_below B4))
    clear H2 F2 B4
    have C5 := hide (name_any R L N s st _ H4.out _ rfl)
    go_wp2_with fail
    refine C5.out.mono ?_
    intro e w5 he
    rcases he.split with ⟨a5, s5, v5, ho, rfl, hv, hR, hF⟩ | ⟨c, m, ho, rfl, hF⟩
    rotate_left 1
    · exact on_panic rfl (.of_bad (bind_no HO.out ho) (F4.out.trans hF))
    clear z3_0 z3_1 z3_2 z3_3 y3
    have HO5 := hide (bind_go HO.out ho)
    have LB1_2_4_5 := hide (hF.loc LB1_2_4.out (Nat.ne_of_gt Q1.out))
    clear LB1_2_4
    have LB4_5 := hide (hF.loc LB4.out (Nat.ne_of_gt Q4.out))
    clear LB4
    have H5 := hide hR
    have F5 := hide (F4.out.trans hF)
    cases hv
    clear he ho hR hF C5 H4 F4 HO
    obtain ⟨z6_0, z6_1, z6_2, z6_3, y6⟩ := row4 LB1_2_4_5.out
    obtain ⟨z7_0, z7_1, z7_2, z7_3, y7⟩ := row4 LB4_5.out
    have x8 := NE_0_1.out
    have x9 := NE_1_0.out
    have LB1_2_4_5_10 := hide (loc_other (p := ⟨w2.heap.size, 1, none⟩) (v := .string ⟨a5.toArray⟩) LB1_2_4_5.out (NE_0_1.out))
    have LB4_5_10 := hide (loc_set (i := 1) (v := .string ⟨a5.toArray⟩) LB4_5.out)
    clear LB1_2_4_5 LB4_5
    have H10 := hide (H5.out.setLoc Q4.out 1 (.string ⟨a5.toArray⟩))
    have F10 := hide (F5.out.setLoc G4.out 1 (.string ⟨a5.toArray⟩))
    clear H5 F5
    have C11 := hide (brackets_arg R L N s5 st _ H10.out _ rfl)
    go_wp2_with fail
    refine C11.out.mono ?_
    intro e w11 he
    rcases he.split with ⟨a11, s11, v11, ho, rfl, hv, hR, hF⟩ | ⟨c, m, ho, rfl, hF⟩
    rotate_left 1
    · exact on_panic rfl (.of_bad (bind_no HO5.out ho) (F10.out.trans hF))
    clear z6_0 z6_1 z6_2 z6_3 y6 z7_0 z7_1 z7_2 z7_3 y7 x8 x9
    have HO11 := hide (bind_go HO5.out ho)
    have LB1_2_4_5_10_11 := hide (hF.loc LB1_2_4_5_10.out (Nat.ne_of_gt Q1.out))
    clear LB1_2_4_5_10
    have LB4_5_10_11 := hide (hF.loc LB4_5_10.out (Nat.ne_of_gt Q4.out))
    clear LB4_5_10
    have H11 := hide hR
    have F11 := hide (F10.out.trans hF)
    obtain ⟨p11, r11, rfl⟩ := rows_form hv
    have V11 := hide (Strs.mono hv fun g hg => Nat.le_trans F10.out.size hg)
    clear hv
    clear he ho hR hF C11 H10 F10 HO5
    obtain ⟨z12_0, z12_1, z12_2, z12_3, y12⟩ := row4 LB1_2_4_5_10_11.out
    obtain ⟨z13_0, z13_1, z13_2, z13_3, y13⟩ := row4 LB4_5_10_11.out
    have x14 := NE_0_1.out
    have x15 := NE_1_0.out
    have V11_16 := hide (Strs.keep V11.out (Kp.setLoc (T := [9]) (i := 2) (v := .slice p11 a11.length r11) LB4_5_10_11.out (by decide)) (by decide))
    clear V11
    have LB1_2_4_5_10_11_16 := hide (loc_other (p := ⟨w2.heap.size, 2, none⟩) (v := .slice p11 a11.length r11) LB1_2_4_5_10_11.out (NE_0_1.out))
    have LB4_5_10_11_16 := hide (loc_set (i := 2) (v := .slice p11 a11.length r11) LB4_5_10_11.out)
    clear LB1_2_4_5_10_11 LB4_5_10_11
    have H16 := hide (H11.out.setLoc Q4.out 2 (.slice p11 a11.length r11))
    have F16 := hide (F11.out.setLoc G4.out 2 (.slice p11 a11.length r11))
    clear H11 F11
    go_wp2_with fail
    have hz := (And.intro z12_0 (And.intro z12_1 (And.intro z12_2 (And.intro z12_3 (And.intro y12 (And.intro z13_0 (And.intro z13_1 (And.intro z13_2 (And.intro z13_3 (And.intro y13 (And.intro x14 x15)))))))))))
    simp [bodyPost, results, Tryz.results214, go_sem, hz]
    have V11_16_17 := hide (Strs.keep V11_16.out (Kp.setLoc (T := [9]) (i := 0) (v := .int .i64 1) LB1_2_4_5_10_11_16.out (by decide)) (by decide))
    clear V11_16
    have LB1_2_4_5_10_11_16_17 := hide (loc_set (i := 0) (v := .int .i64 1) LB1_2_4_5_10_11_16.out)
    have LB4_5_10_11_16_17 := hide (loc_other (p := ⟨w.heap.size, 0, none⟩) (v := .int .i64 1) LB4_5_10_11_16.out (NE_1_0.out))
    clear LB1_2_4_5_10_11_16 LB4_5_10_11_16
    have H17 := hide (H16.out.setLoc Q1.out 0 (.int .i64 1))
    have F17 := hide (F16.out.setLoc G1.out 0 (.int .i64 1))
    clear H16 F16
    have V11_16_17_18 := hide (Strs.keep V11_16_17.out (Kp.setLoc (T := [9]) (i := 1) (v := .string ⟨a5.toArray⟩) LB1_2_4_5_10_11_16_17.out (by decide)) (by decide))
    clear V11_16_17
    have LB1_2_4_5_10_11_16_17_18 := hide (loc_set (i := 1) (v := .string ⟨a5.toArray⟩) LB1_2_4_5_10_11_16_17.out)
    have LB4_5_10_11_16_17_18 := hide (loc_other (p := ⟨w.heap.size, 1, none⟩) (v := .string ⟨a5.toArray⟩) LB4_5_10_11_16_17.out (NE_1_0.out))
    clear LB1_2_4_5_10_11_16_17 LB4_5_10_11_16_17
    have H18 := hide (H17.out.setLoc Q1.out 1 (.string ⟨a5.toArray⟩))
    have F18 := hide (F17.out.setLoc G1.out 1 (.string ⟨a5.toArray⟩))
    clear H17 F17
    have V11_16_17_18_19 := hide (Strs.keep V11_16_17_18.out (Kp.setLoc (T := [9]) (i := 2) (v := .slice p11 a11.length r11) LB1_2_4_5_10_11_16_17_18.out (by decide)) (by decide))
    clear V11_16_17_18
    have LB1_2_4_5_10_11_16_17_18_19 := hide (loc_set (i := 2) (v := .slice p11 a11.length r11) LB1_2_4_5_10_11_16_17_18.out)
    have LB4_5_10_11_16_17_18_19 := hide (loc_other (p := ⟨w.heap.size, 2, none⟩) (v := .slice p11 a11.length r11) LB4_5_10_11_16_17_18.out (NE_1_0.out))
    clear LB1_2_4_5_10_11_16_17_18 LB4_5_10_11_16_17_18
    have H19 := hide (H18.out.setLoc Q1.out 2 (.slice p11 a11.length r11))
    have F19 := hide (F18.out.setLoc G1.out 2 (.slice p11 a11.length r11))
    clear H18 F18
    have V11_16_17_18_19_20 := hide (Strs.keep V11_16_17_18_19.out (Kp.setLoc (T := [9]) (i := 3) (v := .int .i64 0) LB1_2_4_5_10_11_16_17_18_19.out (by decide)) (by decide))
    clear V11_16_17_18_19
    have LB1_2_4_5_10_11_16_17_18_19_20 := hide (loc_set (i := 3) (v := .int .i64 0) LB1_2_4_5_10_11_16_17_18_19.out)
    have LB4_5_10_11_16_17_18_19_20 := hide (loc_other (p := ⟨w.heap.size, 3, none⟩) (v := .int .i64 0) LB4_5_10_11_16_17_18_19.out (NE_1_0.out))
    clear LB1_2_4_5_10_11_16_17_18_19 LB4_5_10_11_16_17_18_19
    have H20 := hide (H19.out.setLoc Q1.out 3 (.int .i64 0))
    have F20 := hide (F19.out.setLoc G1.out 3 (.int .i64 0))
    clear H19 F19
    exact .of_ok HO11.out (⟨_, rfl, V11_16_17_18_19_20.out⟩) H20.out F20.out

set_option maxRecDepth 100000 in
set_option maxHeartbeats 1600000 in
theorem term_any (h : Rd R L N s st w) (o : Out TermM) (ho : termM FN (kt L) s = o) :
    Calls Tryz.prog 194 #[.pointer (some ⟨R, 0, none⟩)] w (Ends R L N st w (vTerm (New w)) o) := by
  have HO := hide ho
  have H := hide h
  have F := hide (Fq.refl R w)
  clear h ho
  go_enter Tryz.func194, Tryz.ntmps194
  have B69 : Below _ _ ((w).alloc (.cells #[.int .i64 0, .string ⟨#[]⟩, .slice none 0 0, .int .i64 0] 109)) := (Below.refl _ _).alloc (Nat.le_refl _) _
  have Q69 : Hid (R < w.heap.size) := hide H.out.lt
  have G69 : Hid (w.heap.size ≤ w.heap.size) := hide F.out.size
  have LB69 := hide (heap_alloc_new (w) (.cells #[.int .i64 0, .string ⟨#[]⟩, .slice none 0 0, .int .i64 0] 109))
  have H69 := hide (H.out.below B69)
  have F69 := hide (F.out.trans (Fq.of_below B69))
  clear H F B69
  have C70 := hide (plainTerm_any R L N s st _ H69.out _ rfl)
  go_wp2_with fail
  refine C70.out.mono ?_
  intro e w70 he
  rcases he.split with ⟨a70, s70, v70, ho, rfl, hv, hR, hF⟩ | ⟨c, m, ho, rfl, hF⟩
  rotate_left 1
  · exact on_panic rfl (.of_bad (bind_no HO.out ho) (F69.out.trans hF))
  have HO70 := hide (bind_go HO.out ho)
  have LB69_70 := hide (hF.loc LB69.out (Nat.ne_of_gt Q69.out))
  clear LB69
  have H70 := hide hR
  have F70 := hide (F69.out.trans hF)
  obtain ⟨av70, rfl, hv0_70⟩ := hv
  obtain ⟨p0_70, r0_70, rfl⟩ := rows_form hv0_70
  have V0_70 := hide (Strs.mono hv0_70 fun g hg => Nat.le_trans F69.out.size hg)
  clear hv0_70
  clear he ho hR hF C70 H69 F69 HO
  obtain ⟨z71_0, z71_1, z71_2, z71_3, y71⟩ := row4 LB69_70.out
  have HOm := hide (ask_go HO70.out)
  clear HO70
  have c4 := (H70.out.below ((Below.refl _ _).alloc (Nat.le_refl _) (.cells #[.int .i64 a70.coef, .string ⟨a70.pred.toArray⟩, .slice p0_70 a70.args.length r0_70, .int .i64 a70.value] 109))).c4
  cases hmm : s70.minus with
  | false =>
    rw [hmm] at c4
    have HO := hide (ite_f HOm.out hmm)
    clear hmm
    have B72 : Below _ _ ((w70).alloc (.cells #[.int .i64 a70.coef, .string ⟨a70.pred.toArray⟩, .slice p0_70 a70.args.length r0_70, .int .i64 a70.value] 109)) := (Below.refl _ _).alloc (Nat.le_refl _) _
    have Q72 : Hid (R < w70.heap.size) := hide H70.out.lt
    have G72 : Hid (w.heap.size ≤ w70.heap.size) := hide F70.out.size
    have NE_0_1 : Hid (w.heap.size ≠ w70.heap.size) := hide (Nat.ne_of_lt (loc_lt LB69_70.out))
    have NE_1_0 : Hid (w70.heap.size ≠ w.heap.size) := hide (Nat.ne_of_gt (loc_lt LB69_70.out))
    have LB69_70_72 := hide ((B72.block _ (loc_lt LB69_70.out)).trans LB69_70.out)
    clear LB69_70
    have V0_70_72 := hide (Strs.keep V0_70.out (Kp.of_below (T := [9]) B72) (by decide))
    clear V0_70
    have LB72 := hide (heap_alloc_new (w70) (.cells #[.int .i64 a70.coef, .string ⟨a70.pred.toArray⟩, .slice p0_70 a70.args.length r0_70, .int .i64 a70.value] 109))
    have H72 := hide (H70.out.below B72)
    have F72 := hide (F70.out.trans (Fq.of_below B72))
    clear H70 F70 B72
    obtain ⟨z73_0, z73_1, z73_2, z73_3, y73⟩ := row4 LB69_70_72.out
    obtain ⟨z74_0, z74_1, z74_2, z74_3, y74⟩ := row4 LB72.out
    have x75 := NE_0_1.out
    have x76 := NE_1_0.out
    go_wp2_with fail
    have hz := (And.intro z71_0 (And.intro z71_1 (And.intro z71_2 (And.intro z71_3 (And.intro y71 (And.intro z73_0 (And.intro z73_1 (And.intro z73_2 (And.intro z73_3 (And.intro y73 (And.intro z74_0 (And.intro z74_1 (And.intro z74_2 (And.intro z74_3 (And.intro y74 (And.intro x75 (And.intro x76 c4)))))))))))))))))
    simp [bodyPost, results, Tryz.results194, go_sem, hz]
    have V0_70_72_77 := hide (Strs.keep V0_70_72.out (Kp.setLoc (T := [9]) (i := 0) (v := .int .i64 a70.coef) LB69_70_72.out (by decide)) (by decide))
    clear V0_70_72
    have LB69_70_72_77 := hide (loc_set (i := 0) (v := .int .i64 a70.coef) LB69_70_72.out)
    have LB72_77 := hide (loc_other (p := ⟨w.heap.size, 0, none⟩) (v := .int .i64 a70.coef) LB72.out (NE_1_0.out))
    clear LB69_70_72 LB72
    have H77 := hide (H72.out.setLoc Q69.out 0 (.int .i64 a70.coef))
    have F77 := hide (F72.out.setLoc G69.out 0 (.int .i64 a70.coef))
    clear H72 F72
    have V0_70_72_77_78 := hide (Strs.keep V0_70_72_77.out (Kp.setLoc (T := [9]) (i := 1) (v := .string ⟨a70.pred.toArray⟩) LB69_70_72_77.out (by decide)) (by decide))
    clear V0_70_72_77
    have LB69_70_72_77_78 := hide (loc_set (i := 1) (v := .string ⟨a70.pred.toArray⟩) LB69_70_72_77.out)
    have LB72_77_78 := hide (loc_other (p := ⟨w.heap.size, 1, none⟩) (v := .string ⟨a70.pred.toArray⟩) LB72_77.out (NE_1_0.out))
    clear LB69_70_72_77 LB72_77
    have H78 := hide (H77.out.setLoc Q69.out 1 (.string ⟨a70.pred.toArray⟩))
    have F78 := hide (F77.out.setLoc G69.out 1 (.string ⟨a70.pred.toArray⟩))
    clear H77 F77
    have V0_70_72_77_78_79 := hide (Strs.keep V0_70_72_77_78.out (Kp.setLoc (T := [9]) (i := 2) (v := .slice p0_70 a70.args.length r0_70) LB69_70_72_77_78.out (by decide)) (by decide))
    clear V0_70_72_77_78
    have LB69_70_72_77_78_79 := hide (loc_set (i := 2) (v := .slice p0_70 a70.args.length r0_70) LB69_70_72_77_78.out)
    have LB72_77_78_79 := hide (loc_other (p := ⟨w.heap.size, 2, none⟩) (v := .slice p0_70 a70.args.length r0_70) LB72_77_78.out (NE_1_0.out))
    clear LB69_70_72_77_78 LB72_77_78
    have H79 := hide (H78.out.setLoc Q69.out 2 (.slice p0_70 a70.args.length r0_70))
    have F79 := hide (F78.out.setLoc G69.out 2 (.slice p0_70 a70.args.length r0_70))
    clear H78 F78
    have V0_70_72_77_78_79_80 := hide (Strs.keep V0_70_72_77_78_79.out (Kp.setLoc (T := [9]) (i := 3) (v := .int .i64 a70.value) LB69_70_72_77_78_79.out (by decide)) (by decide))
    clear V0_70_72_77_78_79
    have LB69_70_72_77_78_79_80 := hide (loc_set (i := 3) (v := .int .i64 a70.value) LB69_70_72_77_78_79.out)
    have LB72_77_78_79_80 := hide (loc_other (p := ⟨w.heap.size, 3, none⟩) (v := .int .i64 a70.value) LB72_77_78_79.out (NE_1_0.out))
    clear LB69_70_72_77_78_79 LB72_77_78_79
    have H80 := hide (H79.out.setLoc Q69.out 3 (.int .i64 a70.value))
    have F80 := hide (F79.out.setLoc G69.out 3 (.int .i64 a70.value))
    clear H79 F79
    exact .of_ok HO.out (⟨_, rfl, V0_70_72_77_78_79_80.out⟩) H80.out F80.out
  | true =>
    rw [hmm] at c4
    have HO := hide (ite_t HOm.out hmm)
    clear hmm
    obtain ⟨m1, hm1⟩ : ∃ x, IntKind.i64.wrap (-a70.coef) = x := ⟨_, rfl⟩
    obtain ⟨m2, hm2⟩ : ∃ x, IntKind.i64.wrap (-a70.value) = x := ⟨_, rfl⟩
    have HO := hide (show Out.ok (⟨m1, a70.pred, a70.args, m2⟩ : TermM) s70 = o by rw [← hm1, ← hm2]; exact HO.out)
    have B81 : Below _ _ ((w70).alloc (.cells #[.int .i64 m1, .string ⟨a70.pred.toArray⟩, .slice p0_70 a70.args.length r0_70, .int .i64 m2] 109)) := (Below.refl _ _).alloc (Nat.le_refl _) _
    have Q81 : Hid (R < w70.heap.size) := hide H70.out.lt
    have G81 : Hid (w.heap.size ≤ w70.heap.size) := hide F70.out.size
    have NE_0_1 : Hid (w.heap.size ≠ w70.heap.size) := hide (Nat.ne_of_lt (loc_lt LB69_70.out))
    have NE_1_0 : Hid (w70.heap.size ≠ w.heap.size) := hide (Nat.ne_of_gt (loc_lt LB69_70.out))
    have LB69_70_81 := hide ((B81.block _ (loc_lt LB69_70.out)).trans LB69_70.out)
    clear LB69_70
    have V0_70_81 := hide (Strs.keep V0_70.out (Kp.of_below (T := [9]) B81) (by decide))
    clear V0_70
    have LB81 := hide (heap_alloc_new (w70) (.cells #[.int .i64 m1, .string ⟨a70.pred.toArray⟩, .slice p0_70 a70.args.length r0_70, .int .i64 m2] 109))
    have H81 := hide (H70.out.below B81)
    have F81 := hide (F70.out.trans (Fq.of_below B81))
    clear H70 F70 B81
    obtain ⟨z82_0, z82_1, z82_2, z82_3, y82⟩ := row4 LB69_70_81.out
    obtain ⟨z83_0, z83_1, z83_2, z83_3, y83⟩ := row4 LB81.out
    have x84 := NE_0_1.out
    have x85 := NE_1_0.out
    go_wp2_with fail
    have hz := (And.intro z71_0 (And.intro z71_1 (And.intro z71_2 (And.intro z71_3 (And.intro y71 (And.intro z82_0 (And.intro z82_1 (And.intro z82_2 (And.intro z82_3 (And.intro y82 (And.intro z83_0 (And.intro z83_1 (And.intro z83_2 (And.intro z83_3 (And.intro y83 (And.intro x84 (And.intro x85 c4)))))))))))))))))
    simp [bodyPost, results, Tryz.results194, go_sem, hz]
    have V0_70_81_86 := hide (Strs.keep V0_70_81.out (Kp.setLoc (T := [9]) (i := 0) (v := .int .i64 m1) LB69_70_81.out (by decide)) (by decide))
    clear V0_70_81
    have LB69_70_81_86 := hide (loc_set (i := 0) (v := .int .i64 m1) LB69_70_81.out)
    have LB81_86 := hide (loc_other (p := ⟨w.heap.size, 0, none⟩) (v := .int .i64 m1) LB81.out (NE_1_0.out))
    clear LB69_70_81 LB81
    have H86 := hide (H81.out.setLoc Q69.out 0 (.int .i64 m1))
    have F86 := hide (F81.out.setLoc G69.out 0 (.int .i64 m1))
    clear H81 F81
    have V0_70_81_86_87 := hide (Strs.keep V0_70_81_86.out (Kp.setLoc (T := [9]) (i := 1) (v := .string ⟨a70.pred.toArray⟩) LB69_70_81_86.out (by decide)) (by decide))
    clear V0_70_81_86
    have LB69_70_81_86_87 := hide (loc_set (i := 1) (v := .string ⟨a70.pred.toArray⟩) LB69_70_81_86.out)
    have LB81_86_87 := hide (loc_other (p := ⟨w.heap.size, 1, none⟩) (v := .string ⟨a70.pred.toArray⟩) LB81_86.out (NE_1_0.out))
    clear LB69_70_81_86 LB81_86
    have H87 := hide (H86.out.setLoc Q69.out 1 (.string ⟨a70.pred.toArray⟩))
    have F87 := hide (F86.out.setLoc G69.out 1 (.string ⟨a70.pred.toArray⟩))
    clear H86 F86
    have V0_70_81_86_87_88 := hide (Strs.keep V0_70_81_86_87.out (Kp.setLoc (T := [9]) (i := 2) (v := .slice p0_70 a70.args.length r0_70) LB69_70_81_86_87.out (by decide)) (by decide))
    clear V0_70_81_86_87
    have LB69_70_81_86_87_88 := hide (loc_set (i := 2) (v := .slice p0_70 a70.args.length r0_70) LB69_70_81_86_87.out)
    have LB81_86_87_88 := hide (loc_other (p := ⟨w.heap.size, 2, none⟩) (v := .slice p0_70 a70.args.length r0_70) LB81_86_87.out (NE_1_0.out))
    clear LB69_70_81_86_87 LB81_86_87
    have H88 := hide (H87.out.setLoc Q69.out 2 (.slice p0_70 a70.args.length r0_70))
    have F88 := hide (F87.out.setLoc G69.out 2 (.slice p0_70 a70.args.length r0_70))
    clear H87 F87
    have V0_70_81_86_87_88_89 := hide (Strs.keep V0_70_81_86_87_88.out (Kp.setLoc (T := [9]) (i := 3) (v := .int .i64 m2) LB69_70_81_86_87_88.out (by decide)) (by decide))
    clear V0_70_81_86_87_88
    have LB69_70_81_86_87_88_89 := hide (loc_set (i := 3) (v := .int .i64 m2) LB69_70_81_86_87_88.out)
    have LB81_86_87_88_89 := hide (loc_other (p := ⟨w.heap.size, 3, none⟩) (v := .int .i64 m2) LB81_86_87_88.out (NE_1_0.out))
    clear LB69_70_81_86_87_88 LB81_86_87_88
    have H89 := hide (H88.out.setLoc Q69.out 3 (.int .i64 m2))
    have F89 := hide (F88.out.setLoc G69.out 3 (.int .i64 m2))
    clear H88 F88
    exact .of_ok HO.out (⟨_, rfl, V0_70_81_86_87_88_89.out⟩) H89.out F89.out

theorem sign_eats {K : Toks} {s u : RS} (h : signM K s = .ok true u) : s.n < u.n := by
  obtain ⟨m, v, h1, h2⟩ := bind_ok.1 h
  have h3 := set_go h2
  cases m with
  | true =>
    have h5 := hasMark_eats (t := [45]) h1
    cases h3
    exact h5
  | false =>
    have := (good_hasMark [45]).le _ _ _ _ h1
    have h4 := hasMark_eats (t := [43]) (K := K) (ite_f h3 rfl)
    exact Nat.lt_of_le_of_lt this h4

set_option maxRecDepth 100000 in
set_option maxHeartbeats 1600000 in
theorem side_any (h : Rd R L N s st w) (o : Out (List TermM)) (ho : sideM FN (kt L) s = o) :
    Calls Tryz.prog 172 #[.pointer (some ⟨R, 0, none⟩)] w (Ends R L N st w (Terms (New w)) o) := by
  have HO := hide ho
  have H := hide h
  have F := hide (Fq.refl R w)
  clear h ho
  have c4 := H.out.c4
  have f4 := H.out.frz 4
  have HO1 := hide (set_go HO.out)
  have HS := hide (H.out.setMinus false)
  have FS := hide (F.out.set 4 (.bool false))
  clear H F HO
  go_enter Tryz.func172, Tryz.ntmps172
  have C90 := hide (list_term_term R L N { s with minus := false } st _ (termM FN (kt L)) (fun s w h => term_any R L N s st w h _ rfl) (signM (kt L)) (fun s w h => sign_any R L N s st w h _ rfl) (fun s a u => eats_term FN _ s a u) (fun s u => sign_eats) 8 HS.out _ rfl)
  go_wp2_with fail
  refine C90.out.mono ?_
  intro e w90 he
  rcases he.split with ⟨a90, s90, v90, ho, rfl, hv, hR, hF⟩ | ⟨c, m, ho, rfl, hF⟩
  rotate_left 1
  · exact on_panic rfl (.of_bad (ho.symm.trans HO1.out) (FS.out.trans hF))
  have HO90 := hide (ho.symm.trans HO1.out)
  have H90 := hide hR
  have F90 := hide (FS.out.trans hF)
  obtain ⟨p90, r90, rfl⟩ := rows_form hv
  have V90 := hide (Terms.mono hv fun g hg => Nat.le_trans FS.out.size hg)
  clear hv
  clear he ho hR hF C90 HS FS HO1
  go_wp2_with fail
  go_ret
  exact .of_ok HO90.out V90.out H90.out F90.out

set_option maxRecDepth 100000 in
set_option maxHeartbeats 1600000 in
theorem guard_any (h : Rd R L N s st w) (o : Out GuardM) (ho : guardM FN (kt L) s = o) :
    Calls Tryz.prog 158 #[.pointer (some ⟨R, 0, none⟩)] w (Ends R L N st w (vGuard (New w)) o) := by
  have HO := hide ho
  have H := hide h
  have F := hide (Fq.refl R w)
  clear h ho
  go_enter Tryz.func158, Tryz.ntmps158
  have B91 : Below _ _ ((w).alloc (.cells #[.slice none 0 0, .int .i64 0, .slice none 0 0] 105)) := (Below.refl _ _).alloc (Nat.le_refl _) _
  have Q91 : Hid (R < w.heap.size) := hide H.out.lt
  have G91 : Hid (w.heap.size ≤ w.heap.size) := hide F.out.size
  have LB91 := hide (heap_alloc_new (w) (.cells #[.slice none 0 0, .int .i64 0, .slice none 0 0] 105))
  have H91 := hide (H.out.below B91)
  have F91 := hide (F.out.trans (Fq.of_below B91))
  clear H F B91
  have C92 := hide (wantMark_any R L N s st _ [123] H91.out _ rfl)
  go_wp2_with fail
  refine C92.out.mono ?_
  intro e w92 he
  rcases he.split with ⟨a92, s92, v92, ho, rfl, hv, hR, hF⟩ | ⟨c, m, ho, rfl, hF⟩
  rotate_left 1
  · exact on_panic rfl (.of_bad (bind_no HO.out ho) (F91.out.trans hF))
  have HO92 := hide (bind_go HO.out ho)
  have LB91_92 := hide (hF.loc LB91.out (Nat.ne_of_gt Q91.out))
  clear LB91
  have H92 := hide hR
  have F92 := hide (F91.out.trans hF)
  cases hv
  clear he ho hR hF C92 H91 F91 HO
  obtain ⟨z93_0, z93_1, z93_2, y93⟩ := row3 LB91_92.out
  have C94 := hide (side_any R L N s92 st _ H92.out _ rfl)
  go_wp2_with fail
  refine C94.out.mono ?_
  intro e w94 he
  rcases he.split with ⟨a94, s94, v94, ho, rfl, hv, hR, hF⟩ | ⟨c, m, ho, rfl, hF⟩
  rotate_left 1
  · exact on_panic rfl (.of_bad (bind_no HO92.out ho) (F92.out.trans hF))
  clear z93_0 z93_1 z93_2 y93
  have HO94 := hide (bind_go HO92.out ho)
  have LB91_92_94 := hide (hF.loc LB91_92.out (Nat.ne_of_gt Q91.out))
  clear LB91_92
  have H94 := hide hR
  have F94 := hide (F92.out.trans hF)
  obtain ⟨p94, r94, rfl⟩ := rows_form hv
  have V94 := hide (Terms.mono hv fun g hg => Nat.le_trans F92.out.size hg)
  clear hv
  clear he ho hR hF C94 H92 F92 HO92
  obtain ⟨z95_0, z95_1, z95_2, y95⟩ := row3 LB91_92_94.out
  have B96 : Below _ _ ((w94).alloc (.cells #[.slice p94 a94.length r94, .int .i64 0, .slice none 0 0] 105)) := (Below.refl _ _).alloc (Nat.le_refl _) _
  have Q96 : Hid (R < w94.heap.size) := hide H94.out.lt
  have G96 : Hid (w.heap.size ≤ w94.heap.size) := hide F94.out.size
  have NE_0_1 : Hid (w.heap.size ≠ w94.heap.size) := hide (Nat.ne_of_lt (loc_lt LB91_92_94.out))
  have NE_1_0 : Hid (w94.heap.size ≠ w.heap.size) := hide (Nat.ne_of_gt (loc_lt LB91_92_94.out))
  have LB91_92_94_96 := hide ((B96.block _ (loc_lt LB91_92_94.out)).trans LB91_92_94.out)
  clear LB91_92_94
  have V94_96 := hide (Terms.keep V94.out (Kp.of_below (T := [9, 109]) B96) (by decide) (by decide))
  clear V94
  have LB96 := hide (heap_alloc_new (w94) (.cells #[.slice p94 a94.length r94, .int .i64 0, .slice none 0 0] 105))
  have H96 := hide (H94.out.below B96)
  have F96 := hide (F94.out.trans (Fq.of_below B96))
  clear H94 F94 B96
  have C97 := hide (op_any R L N s94 st _ H96.out _ rfl)
  go_wp2_with fail
  refine C97.out.mono ?_
  intro e w97 he
  rcases he.split with ⟨a97, s97, v97, ho, rfl, hv, hR, hF⟩ | ⟨c, m, ho, rfl, hF⟩
  rotate_left 1
  · exact on_panic rfl (.of_bad (bind_no HO94.out ho) (F96.out.trans hF))
  clear z95_0 z95_1 z95_2 y95
  have HO97 := hide (bind_go HO94.out ho)
  have LB91_92_94_96_97 := hide (hF.loc LB91_92_94_96.out (Nat.ne_of_gt Q91.out))
  clear LB91_92_94_96
  have LB96_97 := hide (hF.loc LB96.out (Nat.ne_of_gt Q96.out))
  clear LB96
  have V94_96_97 := hide (Terms.keep V94_96.out (Kp.of_fq (T := [9, 109]) hF H96.out (by decide)) (by decide) (by decide))
  clear V94_96
  have H97 := hide hR
  have F97 := hide (F96.out.trans hF)
  cases hv
  clear he ho hR hF C97 H96 F96 HO94
  obtain ⟨z98_0, z98_1, z98_2, y98⟩ := row3 LB91_92_94_96_97.out
  obtain ⟨z99_0, z99_1, z99_2, y99⟩ := row3 LB96_97.out
  have x100 := NE_0_1.out
  have x101 := NE_1_0.out
  have V94_96_97_102 := hide (Terms.keep V94_96_97.out (Kp.setLoc (T := [9, 109]) (i := 1) (v := .int .i64 a97) LB96_97.out (by decide)) (by decide) (by decide))
  clear V94_96_97
  have LB91_92_94_96_97_102 := hide (loc_other (p := ⟨w94.heap.size, 1, none⟩) (v := .int .i64 a97) LB91_92_94_96_97.out (NE_0_1.out))
  have LB96_97_102 := hide (loc_set (i := 1) (v := .int .i64 a97) LB96_97.out)
  clear LB91_92_94_96_97 LB96_97
  have H102 := hide (H97.out.setLoc Q96.out 1 (.int .i64 a97))
  have F102 := hide (F97.out.setLoc G96.out 1 (.int .i64 a97))
  clear H97 F97
  have C103 := hide (side_any R L N s97 st _ H102.out _ rfl)
  go_wp2_with fail
  refine C103.out.mono ?_
  intro e w103 he
  rcases he.split with ⟨a103, s103, v103, ho, rfl, hv, hR, hF⟩ | ⟨c, m, ho, rfl, hF⟩
  rotate_left 1
  · exact on_panic rfl (.of_bad (bind_no HO97.out ho) (F102.out.trans hF))
  clear z98_0 z98_1 z98_2 y98 z99_0 z99_1 z99_2 y99 x100 x101
  have HO103 := hide (bind_go HO97.out ho)
  have LB91_92_94_96_97_102_103 := hide (hF.loc LB91_92_94_96_97_102.out (Nat.ne_of_gt Q91.out))
  clear LB91_92_94_96_97_102
  have LB96_97_102_103 := hide (hF.loc LB96_97_102.out (Nat.ne_of_gt Q96.out))
  clear LB96_97_102
  have V94_96_97_102_103 := hide (Terms.keep V94_96_97_102.out (Kp.of_fq (T := [9, 109]) hF H102.out (by decide)) (by decide) (by decide))
  clear V94_96_97_102
  have H103 := hide hR
  have F103 := hide (F102.out.trans hF)
  obtain ⟨p103, r103, rfl⟩ := rows_form hv
  have V103 := hide (Terms.mono hv fun g hg => Nat.le_trans F102.out.size hg)
  clear hv
  clear he ho hR hF C103 H102 F102 HO97
  obtain ⟨z104_0, z104_1, z104_2, y104⟩ := row3 LB91_92_94_96_97_102_103.out
  obtain ⟨z105_0, z105_1, z105_2, y105⟩ := row3 LB96_97_102_103.out
  have x106 := NE_0_1.out
  have x107 := NE_1_0.out
  have V94_96_97_102_103_108 := hide (Terms.keep V94_96_97_102_103.out (Kp.setLoc (T := [9, 109]) (i := 2) (v := .slice p103 a103.length r103) LB96_97_102_103.out (by decide)) (by decide) (by decide))
  clear V94_96_97_102_103
  have V103_108 := hide (Terms.keep V103.out (Kp.setLoc (T := [9, 109]) (i := 2) (v := .slice p103 a103.length r103) LB96_97_102_103.out (by decide)) (by decide) (by decide))
  clear V103
  have LB91_92_94_96_97_102_103_108 := hide (loc_other (p := ⟨w94.heap.size, 2, none⟩) (v := .slice p103 a103.length r103) LB91_92_94_96_97_102_103.out (NE_0_1.out))
  have LB96_97_102_103_108 := hide (loc_set (i := 2) (v := .slice p103 a103.length r103) LB96_97_102_103.out)
  clear LB91_92_94_96_97_102_103 LB96_97_102_103
  have H108 := hide (H103.out.setLoc Q96.out 2 (.slice p103 a103.length r103))
  have F108 := hide (F103.out.setLoc G96.out 2 (.slice p103 a103.length r103))
  clear H103 F103
  have C109 := hide (wantMark_any R L N s103 st _ [125] H108.out _ rfl)
  go_wp2_with fail
  refine C109.out.mono ?_
  intro e w109 he
  rcases he.split with ⟨a109, s109, v109, ho, rfl, hv, hR, hF⟩ | ⟨c, m, ho, rfl, hF⟩
  rotate_left 1
  · exact on_panic rfl (.of_bad (bind_no HO103.out ho) (F108.out.trans hF))
  clear z104_0 z104_1 z104_2 y104 z105_0 z105_1 z105_2 y105 x106 x107
  have HO109 := hide (bind_go HO103.out ho)
  have LB91_92_94_96_97_102_103_108_109 := hide (hF.loc LB91_92_94_96_97_102_103_108.out (Nat.ne_of_gt Q91.out))
  clear LB91_92_94_96_97_102_103_108
  have LB96_97_102_103_108_109 := hide (hF.loc LB96_97_102_103_108.out (Nat.ne_of_gt Q96.out))
  clear LB96_97_102_103_108
  have V94_96_97_102_103_108_109 := hide (Terms.keep V94_96_97_102_103_108.out (Kp.of_fq (T := [9, 109]) hF H108.out (by decide)) (by decide) (by decide))
  clear V94_96_97_102_103_108
  have V103_108_109 := hide (Terms.keep V103_108.out (Kp.of_fq (T := [9, 109]) hF H108.out (by decide)) (by decide) (by decide))
  clear V103_108
  have H109 := hide hR
  have F109 := hide (F108.out.trans hF)
  cases hv
  clear he ho hR hF C109 H108 F108 HO103
  obtain ⟨z110_0, z110_1, z110_2, y110⟩ := row3 LB91_92_94_96_97_102_103_108_109.out
  obtain ⟨z111_0, z111_1, z111_2, y111⟩ := row3 LB96_97_102_103_108_109.out
  have x112 := NE_0_1.out
  have x113 := NE_1_0.out
  go_wp2_with fail
  have hz := (And.intro z110_0 (And.intro z110_1 (And.intro z110_2 (And.intro y110 (And.intro z111_0 (And.intro z111_1 (And.intro z111_2 (And.intro y111 (And.intro x112 x113)))))))))
  simp [bodyPost, results, Tryz.results158, go_sem, hz]
  have V94_96_97_102_103_108_109_114 := hide (Terms.keep V94_96_97_102_103_108_109.out (Kp.setLoc (T := [9, 109]) (i := 0) (v := .slice p94 a94.length r94) LB91_92_94_96_97_102_103_108_109.out (by decide)) (by decide) (by decide))
  clear V94_96_97_102_103_108_109
  have V103_108_109_114 := hide (Terms.keep V103_108_109.out (Kp.setLoc (T := [9, 109]) (i := 0) (v := .slice p94 a94.length r94) LB91_92_94_96_97_102_103_108_109.out (by decide)) (by decide) (by decide))
  clear V103_108_109
  have LB91_92_94_96_97_102_103_108_109_114 := hide (loc_set (i := 0) (v := .slice p94 a94.length r94) LB91_92_94_96_97_102_103_108_109.out)
  have LB96_97_102_103_108_109_114 := hide (loc_other (p := ⟨w.heap.size, 0, none⟩) (v := .slice p94 a94.length r94) LB96_97_102_103_108_109.out (NE_1_0.out))
  clear LB91_92_94_96_97_102_103_108_109 LB96_97_102_103_108_109
  have H114 := hide (H109.out.setLoc Q91.out 0 (.slice p94 a94.length r94))
  have F114 := hide (F109.out.setLoc G91.out 0 (.slice p94 a94.length r94))
  clear H109 F109
  have V94_96_97_102_103_108_109_114_115 := hide (Terms.keep V94_96_97_102_103_108_109_114.out (Kp.setLoc (T := [9, 109]) (i := 1) (v := .int .i64 a97) LB91_92_94_96_97_102_103_108_109_114.out (by decide)) (by decide) (by decide))
  clear V94_96_97_102_103_108_109_114
  have V103_108_109_114_115 := hide (Terms.keep V103_108_109_114.out (Kp.setLoc (T := [9, 109]) (i := 1) (v := .int .i64 a97) LB91_92_94_96_97_102_103_108_109_114.out (by decide)) (by decide) (by decide))
  clear V103_108_109_114
  have LB91_92_94_96_97_102_103_108_109_114_115 := hide (loc_set (i := 1) (v := .int .i64 a97) LB91_92_94_96_97_102_103_108_109_114.out)
  have LB96_97_102_103_108_109_114_115 := hide (loc_other (p := ⟨w.heap.size, 1, none⟩) (v := .int .i64 a97) LB96_97_102_103_108_109_114.out (NE_1_0.out))
  clear LB91_92_94_96_97_102_103_108_109_114 LB96_97_102_103_108_109_114
  have H115 := hide (H114.out.setLoc Q91.out 1 (.int .i64 a97))
  have F115 := hide (F114.out.setLoc G91.out 1 (.int .i64 a97))
  clear H114 F114
  have V94_96_97_102_103_108_109_114_115_116 := hide (Terms.keep V94_96_97_102_103_108_109_114_115.out (Kp.setLoc (T := [9, 109]) (i := 2) (v := .slice p103 a103.length r103) LB91_92_94_96_97_102_103_108_109_114_115.out (by decide)) (by decide) (by decide))
  clear V94_96_97_102_103_108_109_114_115
  have V103_108_109_114_115_116 := hide (Terms.keep V103_108_109_114_115.out (Kp.setLoc (T := [9, 109]) (i := 2) (v := .slice p103 a103.length r103) LB91_92_94_96_97_102_103_108_109_114_115.out (by decide)) (by decide) (by decide))
  clear V103_108_109_114_115
  have LB91_92_94_96_97_102_103_108_109_114_115_116 := hide (loc_set (i := 2) (v := .slice p103 a103.length r103) LB91_92_94_96_97_102_103_108_109_114_115.out)
  have LB96_97_102_103_108_109_114_115_116 := hide (loc_other (p := ⟨w.heap.size, 2, none⟩) (v := .slice p103 a103.length r103) LB96_97_102_103_108_109_114_115.out (NE_1_0.out))
  clear LB91_92_94_96_97_102_103_108_109_114_115 LB96_97_102_103_108_109_114_115
  have H116 := hide (H115.out.setLoc Q91.out 2 (.slice p103 a103.length r103))
  have F116 := hide (F115.out.setLoc G91.out 2 (.slice p103 a103.length r103))
  clear H115 F115
  exact .of_ok HO109.out (⟨_, _, rfl, V94_96_97_102_103_108_109_114_115_116.out, V103_108_109_114_115_116.out⟩) H116.out F116.out

end
end Go.Proofs.YtjacfleiafkmmaaGreatDoor.Sy
