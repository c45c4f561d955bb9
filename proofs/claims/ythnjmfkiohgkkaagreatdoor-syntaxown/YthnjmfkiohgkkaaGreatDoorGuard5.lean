/- Terms, sides, guards. By program. -/
import Derived.Test.YthnjmfkiohgkkaaGreatDoorMarks5
namespace Go.Proofs.YthnjmfkiohgkkaaGreatDoor.Sy
open Go.RowKit

section
variable (R : Nat) (L : List Tok) (N : Nat) (s : RS) (st : St9) (w : World)

set_option maxRecDepth 100000 in
set_option maxHeartbeats 1600000 in
theorem plainTerm_any (h : Rd R L N s st w) (o : Out TermM) (ho : plainTermM FN (kt L) s = o) :
    Calls Tryz.prog 214 #[.pointer (some ⟨R, 0, none⟩)] w (Ends R L N st w (vTerm (New w)) o) := by
  have HO := hide ho
  have H := hide h
  have F := hide (Fq.refl R w)
  clear h ho
  have f0 := fun a b c w => (fld a b c w).1
  have ho := ask_go HO.out
  clear HO
  by_cases hk : kd (kt L) s.n = 3
  · have ho := ask_go (ite_t ho (by simp [hk]))
    cases hm : markAt (kt L) (s.n + 1) [42] with
    | false =>
      have HO := hide (ite_f ho hm)
      have hm0 : markAt (kt L) s.n [45] = false := by unfold markAt; rw [hk]; rfl
      have CA0 := hide (fun w h => ahead_any R L N s st w h 0 (by omega))
      rw [show s.n + 0 = s.n from rfl, hk] at CA0
      have CN := hide (markCall L s.n (placeAt L N s.n) [45])
      rw [hm0, hk] at CN
      have CM := hide (markCall L (s.n + 1) (placeAt L N (s.n + 1)) [42])
      rw [hm] at CM
      clear ho hk hm hm0
      go_enter Tryz.func214, Tryz.ntmps214
      have B38 : Below _ _ ((w).alloc (.cells #[.int .i64 0, .string ⟨#[]⟩, .slice none 0 0, .int .i64 0] 109)) := (Below.refl _ _).alloc (Nat.le_refl _) _
      have Q38 : Hid (R < w.heap.size) := hide H.out.lt
      have G38 : Hid (w.heap.size ≤ w.heap.size) := hide F.out.size
      have LB38 := hide (heap_alloc_new (w) (.cells #[.int .i64 0, .string ⟨#[]⟩, .slice none 0 0, .int .i64 0] 109))
      have H38 := hide (H.out.below B38)
      have F38 := hide (F.out.trans (Fq.of_below B38))
      clear H F B38
      go_wp2_with fail
      refine (CA0.out _ H38.out).mono ?_
      rintro _ w39 ⟨rfl, hb⟩
      have LB38_39 := hide ((hb.block _ (loc_lt LB38.out)).trans LB38.out)
      clear LB38
      have H39 := hide (H38.out.below hb)
      have F39 := hide (F38.out.trans (Fq.of_below hb))
      clear hb H38 F38
      obtain ⟨z40_0, z40_1, z40_2, z40_3, y40⟩ := row4 LB38_39.out
      go_wp2_with fail
      refine (ahead_any R L N s st _ H39.out 1 (by omega)).mono ?_
      rintro _ w41 ⟨rfl, hb⟩
      clear z40_0 z40_1 z40_2 z40_3 y40
      have LB38_39_41 := hide ((hb.block _ (loc_lt LB38_39.out)).trans LB38_39.out)
      clear LB38_39
      have H41 := hide (H39.out.below hb)
      have F41 := hide (F39.out.trans (Fq.of_below hb))
      clear hb H39 F39
      obtain ⟨z42_0, z42_1, z42_2, z42_3, y42⟩ := row4 LB38_39_41.out
      go_wp2_with fail
      refine (CM.out _).mono ?_
      rintro _ w43 ⟨rfl, hb⟩
      clear z42_0 z42_1 z42_2 z42_3 y42
      have LB38_39_41_43 := hide ((hb.block _ (loc_lt LB38_39_41.out)).trans LB38_39_41.out)
      clear LB38_39_41
      have H43 := hide (H41.out.below hb)
      have F43 := hide (F41.out.trans (Fq.of_below hb))
      clear hb H41 F41
      obtain ⟨z44_0, z44_1, z44_2, z44_3, y44⟩ := row4 LB38_39_41_43.out
      have C45 := hide (money_any R L N s st _ H43.out _ rfl)
      go_wp2_with fail
      refine C45.out.mono ?_
      intro e w45 he
      rcases he.split with ⟨a45, s45, v45, ho, rfl, hv, hR, hF⟩ | ⟨c, m, ho, rfl, hF⟩
      rotate_left 1
      · exact on_panic rfl (.of_bad (bind_no HO.out ho) (F43.out.trans hF))
      clear z44_0 z44_1 z44_2 z44_3 y44
      have HO45 := hide (bind_go HO.out ho)
      have LB38_39_41_43_45 := hide (hF.loc LB38_39_41_43.out (Nat.ne_of_gt Q38.out))
      clear LB38_39_41_43
      have H45 := hide hR
      have F45 := hide (F43.out.trans hF)
      cases hv
      clear he ho hR hF C45 H43 F43 HO
      obtain ⟨z46_0, z46_1, z46_2, z46_3, y46⟩ := row4 LB38_39_41_43_45.out
      go_wp2_with fail
      have hz := (And.intro z46_0 (And.intro z46_1 (And.intro z46_2 (And.intro z46_3 y46))))
      simp [bodyPost, results, Tryz.results214, go_sem, hz]
      have LB38_39_41_43_45_47 := hide (loc_set (i := 0) (v := .int .i64 0) LB38_39_41_43_45.out)
      clear LB38_39_41_43_45
      have H47 := hide (H45.out.setLoc Q38.out 0 (.int .i64 0))
      have F47 := hide (F45.out.setLoc G38.out 0 (.int .i64 0))
      clear H45 F45
      have LB38_39_41_43_45_47_48 := hide (loc_set (i := 1) (v := .string ⟨#[]⟩) LB38_39_41_43_45_47.out)
      clear LB38_39_41_43_45_47
      have H48 := hide (H47.out.setLoc Q38.out 1 (.string ⟨#[]⟩))
      have F48 := hide (F47.out.setLoc G38.out 1 (.string ⟨#[]⟩))
      clear H47 F47
      have LB38_39_41_43_45_47_48_49 := hide (loc_set (i := 2) (v := .slice none 0 0) LB38_39_41_43_45_47_48.out)
      clear LB38_39_41_43_45_47_48
      have H49 := hide (H48.out.setLoc Q38.out 2 (.slice none 0 0))
      have F49 := hide (F48.out.setLoc G38.out 2 (.slice none 0 0))
      clear H48 F48
      have LB38_39_41_43_45_47_48_49_50 := hide (loc_set (i := 3) (v := .int .i64 a45) LB38_39_41_43_45_47_48_49.out)
      clear LB38_39_41_43_45_47_48_49
      have H50 := hide (H49.out.setLoc Q38.out 3 (.int .i64 a45))
      have F50 := hide (F49.out.setLoc G38.out 3 (.int .i64 a45))
      clear H49 F49
      exact .of_ok HO45.out (⟨_, rfl, Rows.nil _ _ _ _ _⟩) H50.out F50.out
    | true =>
      have HO := hide (ite_t ho hm)
      have hm0 : markAt (kt L) s.n [45] = false := by unfold markAt; rw [hk]; rfl
      have CA0 := hide (fun w h => ahead_any R L N s st w h 0 (by omega))
      rw [show s.n + 0 = s.n from rfl, hk] at CA0
      have CN := hide (markCall L s.n (placeAt L N s.n) [45])
      rw [hm0, hk] at CN
      have CM := hide (markCall L (s.n + 1) (placeAt L N (s.n + 1)) [42])
      rw [hm] at CM
      clear ho hk hm hm0
      go_enter Tryz.func214, Tryz.ntmps214
      have B51 : Below _ _ ((w).alloc (.cells #[.int .i64 0, .string ⟨#[]⟩, .slice none 0 0, .int .i64 0] 109)) := (Below.refl _ _).alloc (Nat.le_refl _) _
      have Q51 : Hid (R < w.heap.size) := hide H.out.lt
      have G51 : Hid (w.heap.size ≤ w.heap.size) := hide F.out.size
      have LB51 := hide (heap_alloc_new (w) (.cells #[.int .i64 0, .string ⟨#[]⟩, .slice none 0 0, .int .i64 0] 109))
      have H51 := hide (H.out.below B51)
      have F51 := hide (F.out.trans (Fq.of_below B51))
      clear H F B51
      go_wp2_with fail
      refine (CA0.out _ H51.out).mono ?_
      rintro _ w52 ⟨rfl, hb⟩
      have LB51_52 := hide ((hb.block _ (loc_lt LB51.out)).trans LB51.out)
      clear LB51
      have H52 := hide (H51.out.below hb)
      have F52 := hide (F51.out.trans (Fq.of_below hb))
      clear hb H51 F51
      obtain ⟨z53_0, z53_1, z53_2, z53_3, y53⟩ := row4 LB51_52.out
      go_wp2_with fail
      refine (ahead_any R L N s st _ H52.out 1 (by omega)).mono ?_
      rintro _ w54 ⟨rfl, hb⟩
      clear z53_0 z53_1 z53_2 z53_3 y53
      have LB51_52_54 := hide ((hb.block _ (loc_lt LB51_52.out)).trans LB51_52.out)
      clear LB51_52
      have H54 := hide (H52.out.below hb)
      have F54 := hide (F52.out.trans (Fq.of_below hb))
      clear hb H52 F52
      obtain ⟨z55_0, z55_1, z55_2, z55_3, y55⟩ := row4 LB51_52_54.out
      go_wp2_with fail
      refine (CM.out _).mono ?_
      rintro _ w56 ⟨rfl, hb⟩
      clear z55_0 z55_1 z55_2 z55_3 y55
      have LB51_52_54_56 := hide ((hb.block _ (loc_lt LB51_52_54.out)).trans LB51_52_54.out)
      clear LB51_52_54
      have H56 := hide (H54.out.below hb)
      have F56 := hide (F54.out.trans (Fq.of_below hb))
      clear hb H54 F54
      obtain ⟨z57_0, z57_1, z57_2, z57_3, y57⟩ := row4 LB51_52_54_56.out
      go_wp2_with fail
      refine (CA0.out _ H56.out).mono ?_
      rintro _ w58 ⟨rfl, hb⟩
      clear z57_0 z57_1 z57_2 z57_3 y57
      have LB51_52_54_56_58 := hide ((hb.block _ (loc_lt LB51_52_54_56.out)).trans LB51_52_54_56.out)
      clear LB51_52_54_56
      have H58 := hide (H56.out.below hb)
      have F58 := hide (F56.out.trans (Fq.of_below hb))
      clear hb H56 F56
      obtain ⟨z59_0, z59_1, z59_2, z59_3, y59⟩ := row4 LB51_52_54_56_58.out
      go_wp2_with fail
      refine (CN.out _).mono ?_
      rintro _ w60 ⟨rfl, hb⟩
      clear z59_0 z59_1 z59_2 z59_3 y59
      have LB51_52_54_56_58_60 := hide ((hb.block _ (loc_lt LB51_52_54_56_58.out)).trans LB51_52_54_56_58.out)
      clear LB51_52_54_56_58
      have H60 := hide (H58.out.below hb)
      have F60 := hide (F58.out.trans (Fq.of_below hb))
      clear hb H58 F58
      obtain ⟨z61_0, z61_1, z61_2, z61_3, y61⟩ := row4 LB51_52_54_56_58_60.out
      have B62 : Below _ _ ((w60).alloc (.cells #[.int .i64 1, .string ⟨#[]⟩, .slice none 0 0, .int .i64 0] 109)) := (Below.refl _ _).alloc (Nat.le_refl _) _
      have Q62 : Hid (R < w60.heap.size) := hide H60.out.lt
      have G62 : Hid (w.heap.size ≤ w60.heap.size) := hide F60.out.size
      have NE_0_1 : Hid (w.heap.size ≠ w60.heap.size) := hide (Nat.ne_of_lt (loc_lt LB51_52_54_56_58_60.out))
      have NE_1_0 : Hid (w60.heap.size ≠ w.heap.size) := hide (Nat.ne_of_gt (loc_lt LB51_52_54_56_58_60.out))
      have LB51_52_54_56_58_60_62 := hide ((B62.block _ (loc_lt LB51_52_54_56_58_60.out)).trans LB51_52_54_56_58_60.out)
      clear LB51_52_54_56_58_60
      have LB62 := hide (heap_alloc_new (w60) (.cells #[.int .i64 1, .string ⟨#[]⟩, .slice none 0 0, .int .i64 0] 109))
      have H62 := hide (H60.out.below B62)
      have F62 := hide (F60.out.trans (Fq.of_below B62))
      clear H60 F60 B62
      have C63 := hide (int_any R L N s st _ 1 1000 H62.out _ rfl)
      go_wp2_with fail
      refine C63.out.mono ?_
      intro e w63 he
      rcases he.split with ⟨a63, s63, v63, ho, rfl, hv, hR, hF⟩ | ⟨c, m, ho, rfl, hF⟩
      rotate_left 1
      · exact on_panic rfl (.of_bad (bind_no HO.out ho) (F62.out.trans hF))
      clear z61_0 z61_1 z61_2 z61_3 y61
      have HO63 := hide (bind_go HO.out ho)
      have LB51_52_54_56_58_60_62_63 := hide (hF.loc LB51_52_54_56_58_60_62.out (Nat.ne_of_gt Q51.out))
      clear LB51_52_54_56_58_60_62
      have LB62_63 := hide (hF.loc LB62.out (Nat.ne_of_gt Q62.out))
      clear LB62
      have H63 := hide hR
      have F63 := hide (F62.out.trans hF)
      cases hv
      clear he ho hR hF C63 H62 F62 HO
      obtain ⟨z64_0, z64_1, z64_2, z64_3, y64⟩ := row4 LB51_52_54_56_58_60_62_63.out
      obtain ⟨z65_0, z65_1, z65_2, z65_3, y65⟩ := row4 LB62_63.out
      have x66 := NE_0_1.out
      have x67 := NE_1_0.out
      have LB51_52_54_56_58_60_62_63_68 := hide (loc_other (p := ⟨w60.heap.size, 0, none⟩) (v := .int .i64 a63) LB51_52_54_56_58_60_62_63.out (NE_0_1.out))
      have LB62_63_68 := hide (loc_set (i := 0) (v := .int .i64 a63) LB62_63.out)
      clear LB51_52_54_56_58_60_62_63 LB62_63
      have H68 := hide (H63.out.setLoc Q62.out 0 (.int .i64 a63))
      have F68 := hide (F63.out.setLoc G62.out 0 (.int .i64 a63))
      clear H63 F63
      have C69 := hide (wantMark_any R L N s63 st _ [42] H68.out _ rfl)
      go_wp2_with fail
      refine C69.out.mono ?_
      intro e w69 he
      rcases he.split with ⟨a69, s69, v69, ho, rfl, hv, hR, hF⟩ | ⟨c, m, ho, rfl, hF⟩
      rotate_left 1
      · exact on_panic rfl (.of_bad (bind_no HO63.out ho) (F68.out.trans hF))
      clear z64_0 z64_1 z64_2 z64_3 y64 z65_0 z65_1 z65_2 z65_3 y65 x66 x67
      have HO69 := hide (bind_go HO63.out ho)
      have LB51_52_54_56_58_60_62_63_68_69 := hide (hF.loc LB51_52_54_56_58_60_62_63_68.out (Nat.ne_of_gt Q51.out))
      clear LB51_52_54_56_58_60_62_63_68
      have LB62_63_68_69 := hide (hF.loc LB62_63_68.out (Nat.ne_of_gt Q62.out))
      clear LB62_63_68
      have H69 := hide hR
      have F69 := hide (F68.out.trans hF)
      cases hv
      clear he ho hR hF C69 H68 F68 HO63
      obtain ⟨z70_0, z70_1, z70_2, z70_3, y70⟩ := row4 LB51_52_54_56_58_60_62_63_68_69.out
      obtain ⟨z71_0, z71_1, z71_2, z71_3, y71⟩ := row4 LB62_63_68_69.out
      have x72 := NE_0_1.out
      have x73 := NE_1_0.out
      have C74 := hide (name_any R L N s69 st _ H69.out _ rfl)
      go_wp2_with fail
      refine C74.out.mono ?_
      intro e w74 he
      rcases he.split with ⟨a74, s74, v74, ho, rfl, hv, hR, hF⟩ | ⟨c, m, ho, rfl, hF⟩
      rotate_left 1
      · exact on_panic rfl (.of_bad (bind_no HO69.out ho) (F69.out.trans hF))
      clear z70_0 z70_1 z70_2 z70_3 y70 z71_0 z71_1 z71_2 z71_3 y71 x72 x73
      have HO74 := hide (bind_go HO69.out ho)
      have LB51_52_54_56_58_60_62_63_68_69_74 := hide (hF.loc LB51_52_54_56_58_60_62_63_68_69.out (Nat.ne_of_gt Q51.out))
      clear LB51_52_54_56_58_60_62_63_68_69
      have LB62_63_68_69_74 := hide (hF.loc LB62_63_68_69.out (Nat.ne_of_gt Q62.out))
      clear LB62_63_68_69
      have H74 := hide hR
      have F74 := hide (F69.out.trans hF)
      cases hv
      clear he ho hR hF C74 H69 F69 HO69
      obtain ⟨z75_0, z75_1, z75_2, z75_3, y75⟩ := row4 LB51_52_54_56_58_60_62_63_68_69_74.out
      obtain ⟨z76_0, z76_1, z76_2, z76_3, y76⟩ := row4 LB62_63_68_69_74.out
      have x77 := NE_0_1.out
      have x78 := NE_1_0.out
      have LB51_52_54_56_58_60_62_63_68_69_74_79 := hide (loc_other (p := ⟨w60.heap.size, 1, none⟩) (v := .string ⟨a74.toArray⟩) LB51_52_54_56_58_60_62_63_68_69_74.out (NE_0_1.out))
      have LB62_63_68_69_74_79 := hide (loc_set (i := 1) (v := .string ⟨a74.toArray⟩) LB62_63_68_69_74.out)
      clear LB51_52_54_56_58_60_62_63_68_69_74 LB62_63_68_69_74
      have H79 := hide (H74.out.setLoc Q62.out 1 (.string ⟨a74.toArray⟩))
      have F79 := hide (F74.out.setLoc G62.out 1 (.string ⟨a74.toArray⟩))
      clear H74 F74
      have C80 := hide (brackets_arg R L N s74 st _ H79.out _ rfl)
      go_wp2_with fail
      refine C80.out.mono ?_
      intro e w80 he
      rcases he.split with ⟨a80, s80, v80, ho, rfl, hv, hR, hF⟩ | ⟨c, m, ho, rfl, hF⟩
      rotate_left 1
      · exact on_panic rfl (.of_bad (bind_no HO74.out ho) (F79.out.trans hF))
      clear z75_0 z75_1 z75_2 z75_3 y75 z76_0 z76_1 z76_2 z76_3 y76 x77 x78
      have HO80 := hide (bind_go HO74.out ho)
      have LB51_52_54_56_58_60_62_63_68_69_74_79_80 := hide (hF.loc LB51_52_54_56_58_60_62_63_68_69_74_79.out (Nat.ne_of_gt Q51.out))
      clear LB51_52_54_56_58_60_62_63_68_69_74_79
      have LB62_63_68_69_74_79_80 := hide (hF.loc LB62_63_68_69_74_79.out (Nat.ne_of_gt Q62.out))
      clear LB62_63_68_69_74_79
      have H80 := hide hR
      have F80 := hide (F79.out.trans hF)
      obtain ⟨p80, r80, rfl⟩ := rows_form hv
      have V80 := hide (Strs.mono hv fun g hg => Nat.le_trans F79.out.size hg)
      clear hv
      clear he ho hR hF C80 H79 F79 HO74
      obtain ⟨z81_0, z81_1, z81_2, z81_3, y81⟩ := row4 LB51_52_54_56_58_60_62_63_68_69_74_79_80.out
      obtain ⟨z82_0, z82_1, z82_2, z82_3, y82⟩ := row4 LB62_63_68_69_74_79_80.out
      have x83 := NE_0_1.out
      have x84 := NE_1_0.out
      have V80_85 := hide (Strs.keep V80.out (Kp.setLoc (T := [9]) (i := 2) (v := .slice p80 a80.length r80) LB62_63_68_69_74_79_80.out (by decide)) (by decide))
      clear V80
      have LB51_52_54_56_58_60_62_63_68_69_74_79_80_85 := hide (loc_other (p := ⟨w60.heap.size, 2, none⟩) (v := .slice p80 a80.length r80) LB51_52_54_56_58_60_62_63_68_69_74_79_80.out (NE_0_1.out))
      have LB62_63_68_69_74_79_80_85 := hide (loc_set (i := 2) (v := .slice p80 a80.length r80) LB62_63_68_69_74_79_80.out)
      clear LB51_52_54_56_58_60_62_63_68_69_74_79_80 LB62_63_68_69_74_79_80
      have H85 := hide (H80.out.setLoc Q62.out 2 (.slice p80 a80.length r80))
      have F85 := hide (F80.out.setLoc G62.out 2 (.slice p80 a80.length r80))
      clear H80 F80
      go_wp2_with fail
      have hz := (And.intro z81_0 (And.intro z81_1 (And.intro z81_2 (And.intro z81_3 (And.intro y81 (And.intro z82_0 (And.intro z82_1 (And.intro z82_2 (And.intro z82_3 (And.intro y82 (And.intro x83 x84)))))))))))
      simp [bodyPost, results, Tryz.results214, go_sem, hz]
      have V80_85_86 := hide (Strs.keep V80_85.out (Kp.setLoc (T := [9]) (i := 0) (v := .int .i64 a63) LB51_52_54_56_58_60_62_63_68_69_74_79_80_85.out (by decide)) (by decide))
      clear V80_85
      have LB51_52_54_56_58_60_62_63_68_69_74_79_80_85_86 := hide (loc_set (i := 0) (v := .int .i64 a63) LB51_52_54_56_58_60_62_63_68_69_74_79_80_85.out)
      have LB62_63_68_69_74_79_80_85_86 := hide (loc_other (p := ⟨w.heap.size, 0, none⟩) (v := .int .i64 a63) LB62_63_68_69_74_79_80_85.out (NE_1_0.out))
      clear LB51_52_54_56_58_60_62_63_68_69_74_79_80_85 LB62_63_68_69_74_79_80_85
      have H86 := hide (H85.out.setLoc Q51.out 0 (.int .i64 a63))
      have F86 := hide (F85.out.setLoc G51.out 0 (.int .i64 a63))
      clear H85 F85
      have V80_85_86_87 := hide (Strs.keep V80_85_86.out (Kp.setLoc (T := [9]) (i := 1) (v := .string ⟨a74.toArray⟩) LB51_52_54_56_58_60_62_63_68_69_74_79_80_85_86.out (by decide)) (by decide))
      clear V80_85_86
      have LB51_52_54_56_58_60_62_63_68_69_74_79_80_85_86_87 := hide (loc_set (i := 1) (v := .string ⟨a74.toArray⟩) LB51_52_54_56_58_60_62_63_68_69_74_79_80_85_86.out)
      have LB62_63_68_69_74_79_80_85_86_87 := hide (loc_other (p := ⟨w.heap.size, 1, none⟩) (v := .string ⟨a74.toArray⟩) LB62_63_68_69_74_79_80_85_86.out (NE_1_0.out))
      clear LB51_52_54_56_58_60_62_63_68_69_74_79_80_85_86 LB62_63_68_69_74_79_80_85_86
      have H87 := hide (H86.out.setLoc Q51.out 1 (.string ⟨a74.toArray⟩))
      have F87 := hide (F86.out.setLoc G51.out 1 (.string ⟨a74.toArray⟩))
      clear H86 F86
      have V80_85_86_87_88 := hide (Strs.keep V80_85_86_87.out (Kp.setLoc (T := [9]) (i := 2) (v := .slice p80 a80.length r80) LB51_52_54_56_58_60_62_63_68_69_74_79_80_85_86_87.out (by decide)) (by decide))
      clear V80_85_86_87
      have LB51_52_54_56_58_60_62_63_68_69_74_79_80_85_86_87_88 := hide (loc_set (i := 2) (v := .slice p80 a80.length r80) LB51_52_54_56_58_60_62_63_68_69_74_79_80_85_86_87.out)
      have LB62_63_68_69_74_79_80_85_86_87_88 := hide (loc_other (p := ⟨w.heap.size, 2, none⟩) (v := .slice p80 a80.length r80) LB62_63_68_69_74_79_80_85_86_87.out (NE_1_0.out))
      clear LB51_52_54_56_58_60_62_63_68_69_74_79_80_85_86_87 LB62_63_68_69_74_79_80_85_86_87
      have H88 := hide (H87.out.setLoc Q51.out 2 (.slice p80 a80.length r80))
      have F88 := hide (F87.out.setLoc G51.out 2 (.slice p80 a80.length r80))
      clear H87 F87
      have V80_85_86_87_88_89 := hide (Strs.keep V80_85_86_87_88.out (Kp.setLoc (T := [9]) (i := 3) (v := .int .i64 0) LB51_52_54_56_58_60_62_63_68_69_74_79_80_85_86_87_88.out (by decide)) (by decide))
      clear V80_85_86_87_88
      have LB51_52_54_56_58_60_62_63_68_69_74_79_80_85_86_87_88_89 := hide (loc_set (i := 3) (v := .int .i64 0) LB51_52_54_56_58_60_62_63_68_69_74_79_80_85_86_87_88.out)
      have LB62_63_68_69_74_79_80_85_86_87_88_89 := hide (loc_other (p := ⟨w.heap.size, 3, none⟩) (v := .int .i64 0) LB62_63_68_69_74_79_80_85_86_87_88.out (NE_1_0.out))
      clear LB51_52_54_56_58_60_62_63_68_69_74_79_80_85_86_87_88 LB62_63_68_69_74_79_80_85_86_87_88
      have H89 := hide (H88.out.setLoc Q51.out 3 (.int .i64 0))
      have F89 := hide (F88.out.setLoc G51.out 3 (.int .i64 0))
      clear H88 F88
      exact .of_ok HO80.out (⟨_, rfl, V80_85_86_87_88_89.out⟩) H89.out F89.out
  · have ho := ask_go (ite_f ho (by simp [hk]))
    have hk' : ¬ ((kd (kt L) s.n : Nat) : Int) = 3 := by omega
    cases hm : markAt (kt L) s.n [45] with
    | true =>
      have HO := hide (ite_t ho hm)
      have CA0 := hide (fun w h => ahead_any R L N s st w h 0 (by omega))
      rw [show s.n + 0 = s.n from rfl] at CA0
      have CN := hide (markCall L s.n (placeAt L N s.n) [45])
      rw [hm] at CN
      clear ho hk hm
      go_enter Tryz.func214, Tryz.ntmps214
      have B1 : Below _ _ ((w).alloc (.cells #[.int .i64 0, .string ⟨#[]⟩, .slice none 0 0, .int .i64 0] 109)) := (Below.refl _ _).alloc (Nat.le_refl _) _
      have Q1 : Hid (R < w.heap.size) := hide H.out.lt
      have G1 : Hid (w.heap.size ≤ w.heap.size) := hide F.out.size
      have LB1 := hide (heap_alloc_new (w) (.cells #[.int .i64 0, .string ⟨#[]⟩, .slice none 0 0, .int .i64 0] 109))
      have H1 := hide (H.out.below B1)
      have F1 := hide (F.out.trans (Fq.of_below B1))
      clear H F B1
      go_wp2_with fail
      refine (CA0.out _ H1.out).mono ?_
      rintro _ w2 ⟨rfl, hb⟩
      have LB1_2 := hide ((hb.block _ (loc_lt LB1.out)).trans LB1.out)
      clear LB1
      have H2 := hide (H1.out.below hb)
      have F2 := hide (F1.out.trans (Fq.of_below hb))
      clear hb H1 F1
      obtain ⟨z3_0, z3_1, z3_2, z3_3, y3⟩ := row4 LB1_2.out
      go_wp2_with fail
      refine (CA0.out _ H2.out).mono ?_
      rintro _ w4 ⟨rfl, hb⟩
      clear z3_0 z3_1 z3_2 z3_3 y3
      have LB1_2_4 := hide ((hb.block _ (loc_lt LB1_2.out)).trans LB1_2.out)
      clear LB1_2
      have H4 := hide (H2.out.below hb)
      have F4 := hide (F2.out.trans (Fq.of_below hb))
      clear hb H2 F2
      obtain ⟨z5_0, z5_1, z5_2, z5_3, y5⟩ := row4 LB1_2_4.out
      go_wp2_with fail
      refine (CN.out _).mono ?_
      rintro _ w6 ⟨rfl, hb⟩
      clear z5_0 z5_1 z5_2 z5_3 y5
      have LB1_2_4_6 := hide ((hb.block _ (loc_lt LB1_2_4.out)).trans LB1_2_4.out)
      clear LB1_2_4
      have H6 := hide (H4.out.below hb)
      have F6 := hide (F4.out.trans (Fq.of_below hb))
      clear hb H4 F4
      obtain ⟨z7_0, z7_1, z7_2, z7_3, y7⟩ := row4 LB1_2_4_6.out
      have C8 := hide (money_any R L N s st _ H6.out _ rfl)
      go_wp2_with fail
      refine C8.out.mono ?_
      intro e w8 he
      rcases he.split with ⟨a8, s8, v8, ho, rfl, hv, hR, hF⟩ | ⟨c, m, ho, rfl, hF⟩
      rotate_left 1
      · exact on_panic rfl (.of_bad (bind_no HO.out ho) (F6.out.trans hF))
      clear z7_0 z7_1 z7_2 z7_3 y7
      have HO8 := hide (bind_go HO.out ho)
      have LB1_2_4_6_8 := hide (hF.loc LB1_2_4_6.out (Nat.ne_of_gt Q1.out))
      clear LB1_2_4_6
      have H8 := hide hR
      have F8 := hide (F6.out.trans hF)
      cases hv
      clear he ho hR hF C8 H6 F6 HO
      obtain ⟨z9_0, z9_1, z9_2, z9_3, y9⟩ := row4 LB1_2_4_6_8.out
      go_wp2_with fail
      have hz := (And.intro z9_0 (And.intro z9_1 (And.intro z9_2 (And.intro z9_3 y9))))
      simp [bodyPost, results, Tryz.results214, go_sem, hz]
      have LB1_2_4_6_8_10 := hide (loc_set (i := 0) (v := .int .i64 0) LB1_2_4_6_8.out)
      clear LB1_2_4_6_8
      have H10 := hide (H8.out.setLoc Q1.out 0 (.int .i64 0))
      have F10 := hide (F8.out.setLoc G1.out 0 (.int .i64 0))
      clear H8 F8
      have LB1_2_4_6_8_10_11 := hide (loc_set (i := 1) (v := .string ⟨#[]⟩) LB1_2_4_6_8_10.out)
      clear LB1_2_4_6_8_10
      have H11 := hide (H10.out.setLoc Q1.out 1 (.string ⟨#[]⟩))
      have F11 := hide (F10.out.setLoc G1.out 1 (.string ⟨#[]⟩))
      clear H10 F10
      have LB1_2_4_6_8_10_11_12 := hide (loc_set (i := 2) (v := .slice none 0 0) LB1_2_4_6_8_10_11.out)
      clear LB1_2_4_6_8_10_11
      have H12 := hide (H11.out.setLoc Q1.out 2 (.slice none 0 0))
      have F12 := hide (F11.out.setLoc G1.out 2 (.slice none 0 0))
      clear H11 F11
      have LB1_2_4_6_8_10_11_12_13 := hide (loc_set (i := 3) (v := .int .i64 a8) LB1_2_4_6_8_10_11_12.out)
      clear LB1_2_4_6_8_10_11_12
      have H13 := hide (H12.out.setLoc Q1.out 3 (.int .i64 a8))
      have F13 := hide (F12.out.setLoc G1.out 3 (.int .i64 a8))
      clear H12 F12
      exact .of_ok HO8.out (⟨_, rfl, Rows.nil _ _ _ _ _⟩) H13.out F13.out
    | false =>
      have HO := hide (ite_f ho hm)
      have CA0 := hide (fun w h => ahead_any R L N s st w h 0 (by omega))
      rw [show s.n + 0 = s.n from rfl] at CA0
      have CN := hide (markCall L s.n (placeAt L N s.n) [45])
      rw [hm] at CN
      clear ho hk hm
      go_enter Tryz.func214, Tryz.ntmps214
      have B14 : Below _ _ ((w).alloc (.cells #[.int .i64 0, .string ⟨#[]⟩, .slice none 0 0, .int .i64 0] 109)) := (Below.refl _ _).alloc (Nat.le_refl _) _
      have Q14 : Hid (R < w.heap.size) := hide H.out.lt
      have G14 : Hid (w.heap.size ≤ w.heap.size) := hide F.out.size
      have LB14 := hide (heap_alloc_new (w) (.cells #[.int .i64 0, .string ⟨#[]⟩, .slice none 0 0, .int .i64 0] 109))
      have H14 := hide (H.out.below B14)
      have F14 := hide (F.out.trans (Fq.of_below B14))
      clear H F B14
      go_wp2_with fail
      refine (CA0.out _ H14.out).mono ?_
      rintro _ w15 ⟨rfl, hb⟩
      have LB14_15 := hide ((hb.block _ (loc_lt LB14.out)).trans LB14.out)
      clear LB14
      have H15 := hide (H14.out.below hb)
      have F15 := hide (F14.out.trans (Fq.of_below hb))
      clear hb H14 F14
      obtain ⟨z16_0, z16_1, z16_2, z16_3, y16⟩ := row4 LB14_15.out
      go_wp2_with fail
      refine (CA0.out _ H15.out).mono ?_
      rintro _ w17 ⟨rfl, hb⟩
      clear z16_0 z16_1 z16_2 z16_3 y16
      have LB14_15_17 := hide ((hb.block _ (loc_lt LB14_15.out)).trans LB14_15.out)
      clear LB14_15
      have H17 := hide (H15.out.below hb)
      have F17 := hide (F15.out.trans (Fq.of_below hb))
      clear hb H15 F15
      obtain ⟨z18_0, z18_1, z18_2, z18_3, y18⟩ := row4 LB14_15_17.out
      go_wp2_with fail
      refine (CN.out _).mono ?_
      rintro _ w19 ⟨rfl, hb⟩
      clear z18_0 z18_1 z18_2 z18_3 y18
      have LB14_15_17_19 := hide ((hb.block _ (loc_lt LB14_15_17.out)).trans LB14_15_17.out)
      clear LB14_15_17
      have H19 := hide (H17.out.below hb)
      have F19 := hide (F17.out.trans (Fq.of_below hb))
      clear hb H17 F17
      obtain ⟨z20_0, z20_1, z20_2, z20_3, y20⟩ := row4 LB14_15_17_19.out
      have B21 : Below _ _ ((w19).alloc (.cells #[.int .i64 1, .string ⟨#[]⟩, .slice none 0 0, .int .i64 0] 109)) := (Below.refl _ _).alloc (Nat.le_refl _) _
      have Q21 : Hid (R < w19.heap.size) := hide H19.out.lt
      have G21 : Hid (w.heap.size ≤ w19.heap.size) := hide F19.out.size
      have NE_0_1 : Hid (w.heap.size ≠ w19.heap.size) := hide (Nat.ne_of_lt (loc_lt LB14_15_17_19.out))
      have NE_1_0 : Hid (w19.heap.size ≠ w.heap.size) := hide (Nat.ne_of_gt (loc_lt LB14_15_17_19.out))
      have LB14_15_17_19_21 := hide ((B21.block _ (loc_lt LB14_15_17_19.out)).trans LB14_15_17_19.out)
      clear LB14_15_17_19
      have LB21 := hide (heap_alloc_new (w19) (.cells #[.int .i64 1, .string ⟨#[]⟩, .slice none 0 0, .int .i64 0] 109))
      have H21 := hide (H19.out.below B21)
      have F21 := hide (F19.out.trans (Fq.of_below B21))
      clear H19 F19 B21
      have C22 := hide (name_any R L N s st _ H21.out _ rfl)
      go_wp2_with fail
      refine C22.out.mono ?_
      intro e w22 he
      rcases he.split with ⟨a22, s22, v22, ho, rfl, hv, hR, hF⟩ | ⟨c, m, ho, rfl, hF⟩
      rotate_left 1
      · exact on_panic rfl (.of_bad (bind_no HO.out ho) (F21.out.trans hF))
      clear z20_0 z20_1 z20_2 z20_3 y20
      have HO22 := hide (bind_go HO.out ho)
      have LB14_15_17_19_21_22 := hide (hF.loc LB14_15_17_19_21.out (Nat.ne_of_gt Q14.out))
      clear LB14_15_17_19_21
      have LB21_22 := hide (hF.loc LB21.out (Nat.ne_of_gt Q21.out))
      clear LB21
      have H22 := hide hR
      have F22 := hide (F21.out.trans hF)
      cases hv
      clear he ho hR hF C22 H21 F21 HO
      obtain ⟨z23_0, z23_1, z23_2, z23_3, y23⟩ := row4 LB14_15_17_19_21_22.out
      obtain ⟨z24_0, z24_1, z24_2, z24_3, y24⟩ := row4 LB21_22.out
      have x25 := NE_0_1.out
      have x26 := NE_1_0.out
      have LB14_15_17_19_21_22_27 := hide (loc_other (p := ⟨w19.heap.size, 1, none⟩) (v := .string ⟨a22.toArray⟩) LB14_15_17_19_21_22.out (NE_0_1.out))
      have LB21_22_27 := hide (loc_set (i := 1) (v := .string ⟨a22.toArray⟩) LB21_22.out)
      clear LB14_15_17_19_21_22 LB21_22
      have H27 := hide (H22.out.setLoc Q21.out 1 (.string ⟨a22.toArray⟩))
      have F27 := hide (F22.out.setLoc G21.out 1 (.string ⟨a22.toArray⟩))
      clear H22 F22
      have C28 := hide (brackets_arg R L N s22 st _ H27.out _ rfl)
      go_wp2_with fail
      refine C28.out.mono ?_
      intro e w28 he
      rcases he.split with ⟨a28, s28, v28, ho, rfl, hv, hR, hF⟩ | ⟨c, m, ho, rfl, hF⟩
      rotate_left 1
      · exact on_panic rfl (.of_bad (bind_no HO22.out ho) (F27.out.trans hF))
      clear z23_0 z23_1 z23_2 z23_3 y23 z24_0 z24_1 z24_2 z24_3 y24 x25 x26
      have HO28 := hide (bind_go HO22.out ho)
      have LB14_15_17_19_21_22_27_28 := hide (hF.loc LB14_15_17_19_21_22_27.out (Nat.ne_of_gt Q14.out))
      clear LB14_15_17_19_21_22_27
      have LB21_22_27_28 := hide (hF.loc LB21_22_27.out (Nat.ne_of_gt Q21.out))
      clear LB21_22_27
      have H28 := hide hR
      have F28 := hide (F27.out.trans hF)
      obtain ⟨p28, r28, rfl⟩ := rows_form hv
      have V28 := hide (Strs.mono hv fun g hg => Nat.le_trans F27.out.size hg)
      clear hv
      clear he ho hR hF C28 H27 F27 HO22
      obtain ⟨z29_0, z29_1, z29_2, z29_3, y29⟩ := row4 LB14_15_17_19_21_22_27_28.out
      obtain ⟨z30_0, z30_1, z30_2, z30_3, y30⟩ := row4 LB21_22_27_28.out
      have x31 := NE_0_1.out
      have x32 := NE_1_0.out
      have V28_33 := hide (Strs.keep V28.out (Kp.setLoc (T := [9]) (i := 2) (v := .slice p28 a28.length r28) LB21_22_27_28.out (by decide)) (by decide))
      clear V28
      have LB14_15_17_19_21_22_27_28_33 := hide (loc_other (p := ⟨w19.heap.size, 2, none⟩) (v := .slice p28 a28.length r28) LB14_15_17_19_21_22_27_28.out (NE_0_1.out))
      have LB21_22_27_28_33 := hide (loc_set (i := 2) (v := .slice p28 a28.length r28) LB21_22_27_28.out)
      clear LB14_15_17_19_21_22_27_28 LB21_22_27_28
      have H33 := hide (H28.out.setLoc Q21.out 2 (.slice p28 a28.length r28))
      have F33 := hide (F28.out.setLoc G21.out 2 (.slice p28 a28.length r28))
      clear H28 F28
      go_wp2_with fail
      have hz := (And.intro z29_0 (And.intro z29_1 (And.intro z29_2 (And.intro z29_3 (And.intro y29 (And.intro z30_0 (And.intro z30_1 (And.intro z30_2 (And.intro z30_3 (And.intro y30 (And.intro x31 x32)))))))))))
      simp [bodyPost, results, Tryz.results214, go_sem, hz]
      have V28_33_34 := hide (Strs.keep V28_33.out (Kp.setLoc (T := [9]) (i := 0) (v := .int .i64 1) LB14_15_17_19_21_22_27_28_33.out (by decide)) (by decide))
      clear V28_33
      have LB14_15_17_19_21_22_27_28_33_34 := hide (loc_set (i := 0) (v := .int .i64 1) LB14_15_17_19_21_22_27_28_33.out)
      have LB21_22_27_28_33_34 := hide (loc_other (p := ⟨w.heap.size, 0, none⟩) (v := .int .i64 1) LB21_22_27_28_33.out (NE_1_0.out))
      clear LB14_15_17_19_21_22_27_28_33 LB21_22_27_28_33
      have H34 := hide (H33.out.setLoc Q14.out 0 (.int .i64 1))
      have F34 := hide (F33.out.setLoc G14.out 0 (.int .i64 1))
      clear H33 F33
      have V28_33_34_35 := hide (Strs.keep V28_33_34.out (Kp.setLoc (T := [9]) (i := 1) (v := .string ⟨a22.toArray⟩) LB14_15_17_19_21_22_27_28_33_34.out (by decide)) (by decide))
      clear V28_33_34
      have LB14_15_17_19_21_22_27_28_33_34_35 := hide (loc_set (i := 1) (v := .string ⟨a22.toArray⟩) LB14_15_17_19_21_22_27_28_33_34.out)
      have LB21_22_27_28_33_34_35 := hide (loc_other (p := ⟨w.heap.size, 1, none⟩) (v := .string ⟨a22.toArray⟩) LB21_22_27_28_33_34.out (NE_1_0.out))
      clear LB14_15_17_19_21_22_27_28_33_34 LB21_22_27_28_33_34
      have H35 := hide (H34.out.setLoc Q14.out 1 (.string ⟨a22.toArray⟩))
      have F35 := hide (F34.out.setLoc G14.out 1 (.string ⟨a22.toArray⟩))
      clear H34 F34
      have V28_33_34_35_36 := hide (Strs.keep V28_33_34_35.out (Kp.setLoc (T := [9]) (i := 2) (v := .slice p28 a28.length r28) LB14_15_17_19_21_22_27_28_33_34_35.out (by decide)) (by decide))
      clear V28_33_34_35
      have LB14_15_17_19_21_22_27_28_33_34_35_36 := hide (loc_set (i := 2) (v := .slice p28 a28.length r28) LB14_15_17_19_21_22_27_28_33_34_35.out)
      have LB21_22_27_28_33_34_35_36 := hide (loc_other (p := ⟨w.heap.size, 2, none⟩) (v := .slice p28 a28.length r28) LB21_22_27_28_33_34_35.out (NE_1_0.out))
      clear LB14_15_17_19_21_22_27_28_33_34_35 LB21_22_27_28_33_34_35
      have H36 := hide (H35.out.setLoc Q14.out 2 (.slice p28 a28.length r28))
      have F36 := hide (F35.out.setLoc G14.out 2 (.slice p28 a28.length r28))
      clear H35 F35
      have V28_33_34_35_36_37 := hide (Strs.keep V28_33_34_35_36.out (Kp.setLoc (T := [9]) (i := 3) (v := .int .i64 0) LB14_15_17_19_21_22_27_28_33_34_35_36.out (by decide)) (by decide))
      clear V28_33_34_35_36
      have LB14_15_17_19_21_22_27_28_33_34_35_36_37 := hide (loc_set (i := 3) (v := .int .i64 0) LB14_15_17_19_21_22_27_28_33_34_35_36.out)
      have LB21_22_27_28_33_34_35_36_37 := hide (loc_other (p := ⟨w.heap.size, 3, none⟩) (v := .int .i64 0) LB21_22_27_28_33_34_35_36.out (NE_1_0.out))
      clear LB14_15_17_19_21_22_27_28_33_34_35_36 LB21_22_27_28_33_34_35_36
      have H37 := hide (H36.out.setLoc Q14.out 3 (.int .i64 0))
      have F37 := hide (F36.out.setLoc G14.out 3 (.int .i64 0))
      clear H36 F36
      exact .of_ok HO28.out (⟨_, rfl, V28_33_34_35_36_37.out⟩) H37.out F37.out

set_option maxRecDepth 100000 in
set_option maxHeartbeats 1600000 in
theorem term_any (h : Rd R L N s st w) (o : Out TermM) (ho : termM FN (kt L) s = o) :
    Calls Tryz.prog 196 #[.pointer (some ⟨R, 0, none⟩)] w (Ends R L N st w (vTerm (New w)) o) := by
  have HO := hide ho
  have H := hide h
  have F := hide (Fq.refl R w)
  clear h ho
  go_enter Tryz.func196, Tryz.ntmps196
  have B90 : Below _ _ ((w).alloc (.cells #[.int .i64 0, .string ⟨#[]⟩, .slice none 0 0, .int .i64 0] 109)) := (Below.refl _ _).alloc (Nat.le_refl _) _
  have Q90 : Hid (R < w.heap.size) := hide H.out.lt
  have G90 : Hid (w.heap.size ≤ w.heap.size) := hide F.out.size
  have LB90 := hide (heap_alloc_new (w) (.cells #[.int .i64 0, .string ⟨#[]⟩, .slice none 0 0, .int .i64 0] 109))
  have H90 := hide (H.out.below B90)
  have F90 := hide (F.out.trans (Fq.of_below B90))
  clear H F B90
  have C91 := hide (plainTerm_any R L N s st _ H90.out _ rfl)
  go_wp2_with fail
  refine C91.out.mono ?_
  intro e w91 he
  rcases he.split with ⟨a91, s91, v91, ho, rfl, hv, hR, hF⟩ | ⟨c, m, ho, rfl, hF⟩
  rotate_left 1
  · exact on_panic rfl (.of_bad (bind_no HO.out ho) (F90.out.trans hF))
  have HO91 := hide (bind_go HO.out ho)
  have LB90_91 := hide (hF.loc LB90.out (Nat.ne_of_gt Q90.out))
  clear LB90
  have H91 := hide hR
  have F91 := hide (F90.out.trans hF)
  obtain ⟨av91, rfl, hv0_91⟩ := hv
  obtain ⟨p0_91, r0_91, rfl⟩ := rows_form hv0_91
  have V0_91 := hide (Strs.mono hv0_91 fun g hg => Nat.le_trans F90.out.size hg)
  clear hv0_91
  clear he ho hR hF C91 H90 F90 HO
  obtain ⟨z92_0, z92_1, z92_2, z92_3, y92⟩ := row4 LB90_91.out
  have HOm := hide (ask_go HO91.out)
  clear HO91
  have c4 := (H91.out.below ((Below.refl _ _).alloc (Nat.le_refl _) (.cells #[.int .i64 a91.coef, .string ⟨a91.pred.toArray⟩, .slice p0_91 a91.args.length r0_91, .int .i64 a91.value] 109))).c4
  cases hmm : s91.minus with
  | false =>
    rw [hmm] at c4
    have HO := hide (ite_f HOm.out hmm)
    clear hmm
    have B93 : Below _ _ ((w91).alloc (.cells #[.int .i64 a91.coef, .string ⟨a91.pred.toArray⟩, .slice p0_91 a91.args.length r0_91, .int .i64 a91.value] 109)) := (Below.refl _ _).alloc (Nat.le_refl _) _
    have Q93 : Hid (R < w91.heap.size) := hide H91.out.lt
    have G93 : Hid (w.heap.size ≤ w91.heap.size) := hide F91.out.size
    have NE_0_1 : Hid (w.heap.size ≠ w91.heap.size) := hide (Nat.ne_of_lt (loc_lt LB90_91.out))
    have NE_1_0 : Hid (w91.heap.size ≠ w.heap.size) := hide (Nat.ne_of_gt (loc_lt LB90_91.out))
    have LB90_91_93 := hide ((B93.block _ (loc_lt LB90_91.out)).trans LB90_91.out)
    clear LB90_91
    have V0_91_93 := hide (Strs.keep V0_91.out (Kp.of_below (T := [9]) B93) (by decide))
    clear V0_91
    have LB93 := hide (heap_alloc_new (w91) (.cells #[.int .i64 a91.coef, .string ⟨a91.pred.toArray⟩, .slice p0_91 a91.args.length r0_91, .int .i64 a91.value] 109))
    have H93 := hide (H91.out.below B93)
    have F93 := hide (F91.out.trans (Fq.of_below B93))
    clear H91 F91 B93
    obtain ⟨z94_0, z94_1, z94_2, z94_3, y94⟩ := row4 LB90_91_93.out
    obtain ⟨z95_0, z95_1, z95_2, z95_3, y95⟩ := row4 LB93.out
    have x96 := NE_0_1.out
    have x97 := NE_1_0.out
    go_wp2_with fail
    have hz := (And.intro z92_0 (And.intro z92_1 (And.intro z92_2 (And.intro z92_3 (And.intro y92 (And.intro z94_0 (And.intro z94_1 (And.intro z94_2 (And.intro z94_3 (And.intro y94 (And.intro z95_0 (And.intro z95_1 (And.intro z95_2 (And.intro z95_3 (And.intro y95 (And.intro x96 (And.intro x97 c4)))))))))))))))))
    simp [bodyPost, results, Tryz.results196, go_sem, hz]
    have V0_91_93_98 := hide (Strs.keep V0_91_93.out (Kp.setLoc (T := [9]) (i := 0) (v := .int .i64 a91.coef) LB90_91_93.out (by decide)) (by decide))
    clear V0_91_93
    have LB90_91_93_98 := hide (loc_set (i := 0) (v := .int .i64 a91.coef) LB90_91_93.out)
    have LB93_98 := hide (loc_other (p := ⟨w.heap.size, 0, none⟩) (v := .int .i64 a91.coef) LB93.out (NE_1_0.out))
    clear LB90_91_93 LB93
    have H98 := hide (H93.out.setLoc Q90.out 0 (.int .i64 a91.coef))
    have F98 := hide (F93.out.setLoc G90.out 0 (.int .i64 a91.coef))
    clear H93 F93
    have V0_91_93_98_99 := hide (Strs.keep V0_91_93_98.out (Kp.setLoc (T := [9]) (i := 1) (v := .string ⟨a91.pred.toArray⟩) LB90_91_93_98.out (by decide)) (by decide))
    clear V0_91_93_98
    have LB90_91_93_98_99 := hide (loc_set (i := 1) (v := .string ⟨a91.pred.toArray⟩) LB90_91_93_98.out)
    have LB93_98_99 := hide (loc_other (p := ⟨w.heap.size, 1, none⟩) (v := .string ⟨a91.pred.toArray⟩) LB93_98.out (NE_1_0.out))
    clear LB90_91_93_98 LB93_98
    have H99 := hide (H98.out.setLoc Q90.out 1 (.string ⟨a91.pred.toArray⟩))
    have F99 := hide (F98.out.setLoc G90.out 1 (.string ⟨a91.pred.toArray⟩))
    clear H98 F98
    have V0_91_93_98_99_100 := hide (Strs.keep V0_91_93_98_99.out (Kp.setLoc (T := [9]) (i := 2) (v := .slice p0_91 a91.args.length r0_91) LB90_91_93_98_99.out (by decide)) (by decide))
    clear V0_91_93_98_99
    have LB90_91_93_98_99_100 := hide (loc_set (i := 2) (v := .slice p0_91 a91.args.length r0_91) LB90_91_93_98_99.out)
    have LB93_98_99_100 := hide (loc_other (p := ⟨w.heap.size, 2, none⟩) (v := .slice p0_91 a91.args.length r0_91) LB93_98_99.out (NE_1_0.out))
    clear LB90_91_93_98_99 LB93_98_99
    have H100 := hide (H99.out.setLoc Q90.out 2 (.slice p0_91 a91.args.length r0_91))
    have F100 := hide (F99.out.setLoc G90.out 2 (.slice p0_91 a91.args.length r0_91))
    clear H99 F99
    have V0_91_93_98_99_100_101 := hide (Strs.keep V0_91_93_98_99_100.out (Kp.setLoc (T := [9]) (i := 3) (v := .int .i64 a91.value) LB90_91_93_98_99_100.out (by decide)) (by decide))
    clear V0_91_93_98_99_100
    have LB90_91_93_98_99_100_101 := hide (loc_set (i := 3) (v := .int .i64 a91.value) LB90_91_93_98_99_100.out)
    have LB93_98_99_100_101 := hide (loc_other (p := ⟨w.heap.size, 3, none⟩) (v := .int .i64 a91.value) LB93_98_99_100.out (NE_1_0.out))
    clear LB90_91_93_98_99_100 LB93_98_99_100
    have H101 := hide (H100.out.setLoc Q90.out 3 (.int .i64 a91.value))
    have F101 := hide (F100.out.setLoc G90.out 3 (.int .i64 a91.value))
    clear H100 F100
    exact .of_ok HO.out (⟨_, rfl, V0_91_93_98_99_100_101.out⟩) H101.out F101.out
  | true =>
    rw [hmm] at c4
    have HO := hide (ite_t HOm.out hmm)
    clear hmm
    obtain ⟨m1, hm1⟩ : ∃ x, IntKind.i64.wrap (-a91.coef) = x := ⟨_, rfl⟩
    obtain ⟨m2, hm2⟩ : ∃ x, IntKind.i64.wrap (-a91.value) = x := ⟨_, rfl⟩
    have HO := hide (show Out.ok (⟨m1, a91.pred, a91.args, m2⟩ : TermM) s91 = o by rw [← hm1, ← hm2]; exact HO.out)
    have B102 : Below _ _ ((w91).alloc (.cells #[.int .i64 m1, .string ⟨a91.pred.toArray⟩, .slice p0_91 a91.args.length r0_91, .int .i64 m2] 109)) := (Below.refl _ _).alloc (Nat.le_refl _) _
    have Q102 : Hid (R < w91.heap.size) := hide H91.out.lt
    have G102 : Hid (w.heap.size ≤ w91.heap.size) := hide F91.out.size
    have NE_0_1 : Hid (w.heap.size ≠ w91.heap.size) := hide (Nat.ne_of_lt (loc_lt LB90_91.out))
    have NE_1_0 : Hid (w91.heap.size ≠ w.heap.size) := hide (Nat.ne_of_gt (loc_lt LB90_91.out))
    have LB90_91_102 := hide ((B102.block _ (loc_lt LB90_91.out)).trans LB90_91.out)
    clear LB90_91
    have V0_91_102 := hide (Strs.keep V0_91.out (Kp.of_below (T := [9]) B102) (by decide))
    clear V0_91
    have LB102 := hide (heap_alloc_new (w91) (.cells #[.int .i64 m1, .string ⟨a91.pred.toArray⟩, .slice p0_91 a91.args.length r0_91, .int .i64 m2] 109))
    have H102 := hide (H91.out.below B102)
    have F102 := hide (F91.out.trans (Fq.of_below B102))
    clear H91 F91 B102
    obtain ⟨z103_0, z103_1, z103_2, z103_3, y103⟩ := row4 LB90_91_102.out
    obtain ⟨z104_0, z104_1, z104_2, z104_3, y104⟩ := row4 LB102.out
    have x105 := NE_0_1.out
    have x106 := NE_1_0.out
    go_wp2_with fail
    have hz := (And.intro z92_0 (And.intro z92_1 (And.intro z92_2 (And.intro z92_3 (And.intro y92 (And.intro z103_0 (And.intro z103_1 (And.intro z103_2 (And.intro z103_3 (And.intro y103 (And.intro z104_0 (And.intro z104_1 (And.intro z104_2 (And.intro z104_3 (And.intro y104 (And.intro x105 (And.intro x106 c4)))))))))))))))))
    simp [bodyPost, results, Tryz.results196, go_sem, hz]
    have V0_91_102_107 := hide (Strs.keep V0_91_102.out (Kp.setLoc (T := [9]) (i := 0) (v := .int .i64 m1) LB90_91_102.out (by decide)) (by decide))
    clear V0_91_102
    have LB90_91_102_107 := hide (loc_set (i := 0) (v := .int .i64 m1) LB90_91_102.out)
    have LB102_107 := hide (loc_other (p := ⟨w.heap.size, 0, none⟩) (v := .int .i64 m1) LB102.out (NE_1_0.out))
    clear LB90_91_102 LB102
    have H107 := hide (H102.out.setLoc Q90.out 0 (.int .i64 m1))
    have F107 := hide (F102.out.setLoc G90.out 0 (.int .i64 m1))
    clear H102 F102
    have V0_91_102_107_108 := hide (Strs.keep V0_91_102_107.out (Kp.setLoc (T := [9]) (i := 1) (v := .string ⟨a91.pred.toArray⟩) LB90_91_102_107.out (by decide)) (by decide))
    clear V0_91_102_107
    have LB90_91_102_107_108 := hide (loc_set (i := 1) (v := .string ⟨a91.pred.toArray⟩) LB90_91_102_107.out)
    have LB102_107_108 := hide (loc_other (p := ⟨w.heap.size, 1, none⟩) (v := .string ⟨a91.pred.toArray⟩) LB102_107.out (NE_1_0.out))
    clear LB90_91_102_107 LB102_107
    have H108 := hide (H107.out.setLoc Q90.out 1 (.string ⟨a91.pred.toArray⟩))
    have F108 := hide (F107.out.setLoc G90.out 1 (.string ⟨a91.pred.toArray⟩))
    clear H107 F107
    have V0_91_102_107_108_109 := hide (Strs.keep V0_91_102_107_108.out (Kp.setLoc (T := [9]) (i := 2) (v := .slice p0_91 a91.args.length r0_91) LB90_91_102_107_108.out (by decide)) (by decide))
    clear V0_91_102_107_108
    have LB90_91_102_107_108_109 := hide (loc_set (i := 2) (v := .slice p0_91 a91.args.length r0_91) LB90_91_102_107_108.out)
    have LB102_107_108_109 := hide (loc_other (p := ⟨w.heap.size, 2, none⟩) (v := .slice p0_91 a91.args.length r0_91) LB102_107_108.out (NE_1_0.out))
    clear LB90_91_102_107_108 LB102_107_108
    have H109 := hide (H108.out.setLoc Q90.out 2 (.slice p0_91 a91.args.length r0_91))
    have F109 := hide (F108.out.setLoc G90.out 2 (.slice p0_91 a91.args.length r0_91))
    clear H108 F108
    have V0_91_102_107_108_109_110 := hide (Strs.keep V0_91_102_107_108_109.out (Kp.setLoc (T := [9]) (i := 3) (v := .int .i64 m2) LB90_91_102_107_108_109.out (by decide)) (by decide))
    clear V0_91_102_107_108_109
    have LB90_91_102_107_108_109_110 := hide (loc_set (i := 3) (v := .int .i64 m2) LB90_91_102_107_108_109.out)
    have LB102_107_108_109_110 := hide (loc_other (p := ⟨w.heap.size, 3, none⟩) (v := .int .i64 m2) LB102_107_108_109.out (NE_1_0.out))
    clear LB90_91_102_107_108_109 LB102_107_108_109
    have H110 := hide (H109.out.setLoc Q90.out 3 (.int .i64 m2))
    have F110 := hide (F109.out.setLoc G90.out 3 (.int .i64 m2))
    clear H109 F109
    exact .of_ok HO.out (⟨_, rfl, V0_91_102_107_108_109_110.out⟩) H110.out F110.out

theorem sign_eats {K : Toks} {s u : RS} (h : signM K s = .ok true u) : s.n < u.n := by
  obtain ⟨m, v, h1, h2⟩ := bind_ok.1 h
  have h3 := set_go h2
  cases m with
  | true =>
    have h5 := hasMark_eats (t := [45]) h1
    cases h3
    exact h5
  | false =>
    have := (good_hasMark [45]).le _ _ _ _ h1
    have h4 := hasMark_eats (t := [43]) (K := K) (ite_f h3 rfl)
    exact Nat.lt_of_le_of_lt this h4

set_option maxRecDepth 100000 in
set_option maxHeartbeats 1600000 in
theorem side_any (h : Rd R L N s st w) (o : Out (List TermM)) (ho : sideM FN (kt L) s = o) :
    Calls Tryz.prog 177 #[.pointer (some ⟨R, 0, none⟩)] w (Ends R L N st w (Terms (New w)) o) := by
  have HO := hide ho
  have H := hide h
  have F := hide (Fq.refl R w)
  clear h ho
  have c4 := H.out.c4
  have f4 := H.out.frz 4
  have HO1 := hide (set_go HO.out)
  have HS := hide (H.out.setMinus false)
  have FS := hide (F.out.set 4 (.bool false))
  clear H F HO
  go_enter Tryz.func177, Tryz.ntmps177
  have C111 := hide (list_term_term R L N { s with minus := false } st _ (termM FN (kt L)) (fun s w h => term_any R L N s st w h _ rfl) (signM (kt L)) (fun s w h => sign_any R L N s st w h _ rfl) (fun s a u => eats_term FN _ s a u) (fun s u => sign_eats) 8 HS.out _ rfl)
  go_wp2_with fail
  refine C111.out.mono ?_
  intro e w111 he
  rcases he.split with ⟨a111, s111, v111, ho, rfl, hv, hR, hF⟩ | ⟨c, m, ho, rfl, hF⟩
  rotate_left 1
  · exact on_panic rfl (.of_bad (ho.symm.trans HO1.out) (FS.out.trans hF))
  have HO111 := hide (ho.symm.trans HO1.out)
  have H111 := hide hR
  have F111 := hide (FS.out.trans hF)
  obtain ⟨p111, r111, rfl⟩ := rows_form hv
  have V111 := hide (Terms.mono hv fun g hg => Nat.le_trans FS.out.size hg)
  clear hv
  clear he ho hR hF C111 HS FS HO1
  go_wp2_with fail
  go_ret
  exact .of_ok HO111.out V111.out H111.out F111.out

set_option maxRecDepth 100000 in
set_option maxHeartbeats 1600000 in
theorem guard_any (h : Rd R L N s st w) (o : Out GuardM) (ho : guardM FN (kt L) s = o) :
    Calls Tryz.prog 158 #[.pointer (some ⟨R, 0, none⟩)] w (Ends R L N st w (vGuard (New w)) o) := by
  have HO := hide ho
  have H := hide h
  have F := hide (Fq.refl R w)
  clear h ho
  go_enter Tryz.func158, Tryz.ntmps158
  have B112 : Below _ _ ((w).alloc (.cells #[.slice none 0 0, .int .i64 0, .slice none 0 0] 105)) := (Below.refl _ _).alloc (Nat.le_refl _) _
  have Q112 : Hid (R < w.heap.size) := hide H.out.lt
  have G112 : Hid (w.heap.size ≤ w.heap.size) := hide F.out.size
  have LB112 := hide (heap_alloc_new (w) (.cells #[.slice none 0 0, .int .i64 0, .slice none 0 0] 105))
  have H112 := hide (H.out.below B112)
  have F112 := hide (F.out.trans (Fq.of_below B112))
  clear H F B112
  have C113 := hide (wantMark_any R L N s st _ [123] H112.out _ rfl)
  go_wp2_with fail
  refine C113.out.mono ?_
  intro e w113 he
  rcases he.split with ⟨a113, s113, v113, ho, rfl, hv, hR, hF⟩ | ⟨c, m, ho, rfl, hF⟩
  rotate_left 1
  · exact on_panic rfl (.of_bad (bind_no HO.out ho) (F112.out.trans hF))
  have HO113 := hide (bind_go HO.out ho)
  have LB112_113 := hide (hF.loc LB112.out (Nat.ne_of_gt Q112.out))
  clear LB112
  have H113 := hide hR
  have F113 := hide (F112.out.trans hF)
  cases hv
  clear he ho hR hF C113 H112 F112 HO
  obtain ⟨z114_0, z114_1, z114_2, y114⟩ := row3 LB112_113.out
  have C115 := hide (side_any R L N s113 st _ H113.out _ rfl)
  go_wp2_with fail
  refine C115.out.mono ?_
  intro e w115 he
  rcases he.split with ⟨a115, s115, v115, ho, rfl, hv, hR, hF⟩ | ⟨c, m, ho, rfl, hF⟩
  rotate_left 1
  · exact on_panic rfl (.of_bad (bind_no HO113.out ho) (F113.out.trans hF))
  clear z114_0 z114_1 z114_2 y114
  have HO115 := hide (bind_go HO113.out ho)
  have LB112_113_115 := hide (hF.loc LB112_113.out (Nat.ne_of_gt Q112.out))
  clear LB112_113
  have H115 := hide hR
  have F115 := hide (F113.out.trans hF)
  obtain ⟨p115, r115, rfl⟩ := rows_form hv
  have V115 := hide (Terms.mono hv fun g hg => Nat.le_trans F113.out.size hg)
  clear hv
  clear he ho hR hF C115 H113 F113 HO113
  obtain ⟨z116_0, z116_1, z116_2, y116⟩ := row3 LB112_113_115.out
  have B117 : Below _ _ ((w115).alloc (.cells #[.slice p115 a115.length r115, .int .i64 0, .slice none 0 0] 105)) := (Below.refl _ _).alloc (Nat.le_refl _) _
  have Q117 : Hid (R < w115.heap.size) := hide H115.out.lt
  have G117 : Hid (w.heap.size ≤ w115.heap.size) := hide F115.out.size
  have NE_0_1 : Hid (w.heap.size ≠ w115.heap.size) := hide (Nat.ne_of_lt (loc_lt LB112_113_115.out))
  have NE_1_0 : Hid (w115.heap.size ≠ w.heap.size) := hide (Nat.ne_of_gt (loc_lt LB112_113_115.out))
  have LB112_113_115_117 := hide ((B117.block _ (loc_lt LB112_113_115.out)).trans LB112_113_115.out)
  clear LB112_113_115
  have V115_117 := hide (Terms.keep V115.out (Kp.of_below (T := [9, 109]) B117) (by decide) (by decide))
  clear V115
  have LB117 := hide (heap_alloc_new (w115) (.cells #[.slice p115 a115.length r115, .int .i64 0, .slice none 0 0] 105))
  have H117 := hide (H115.out.below B117)
  have F117 := hide (F115.out.trans (Fq.of_below B117))
  clear H115 F115 B117
  have C118 := hide (op_any R L N s115 st _ H117.out _ rfl)
  go_wp2_with fail
  refine C118.out.mono ?_
  intro e w118 he
  rcases he.split with ⟨a118, s118, v118, ho, rfl, hv, hR, hF⟩ | ⟨c, m, ho, rfl, hF⟩
  rotate_left 1
  · exact on_panic rfl (.of_bad (bind_no HO115.out ho) (F117.out.trans hF))
  clear z116_0 z116_1 z116_2 y116
  have HO118 := hide (bind_go HO115.out ho)
  have LB112_113_115_117_118 := hide (hF.loc LB112_113_115_117.out (Nat.ne_of_gt Q112.out))
  clear LB112_113_115_117
  have LB117_118 := hide (hF.loc LB117.out (Nat.ne_of_gt Q117.out))
  clear LB117
  have V115_117_118 := hide (Terms.keep V115_117.out (Kp.of_fq (T := [9, 109]) hF H117.out (by decide)) (by decide) (by decide))
  clear V115_117
  have H118 := hide hR
  have F118 := hide (F117.out.trans hF)
  cases hv
  clear he ho hR hF C118 H117 F117 HO115
  obtain ⟨z119_0, z119_1, z119_2, y119⟩ := row3 LB112_113_115_117_118.out
  obtain ⟨z120_0, z120_1, z120_2, y120⟩ := row3 LB117_118.out
  have x121 := NE_0_1.out
  have x122 := NE_1_0.out
  have V115_117_118_123 := hide (Terms.keep V115_117_118.out (Kp.setLoc (T := [9, 109]) (i := 1) (v := .int .i64 a118) LB117_118.out (by decide)) (by decide) (by decide))
  clear V115_117_118
  have LB112_113_115_117_118_123 := hide (loc_other (p := ⟨w115.heap.size, 1, none⟩) (v := .int .i64 a118) LB112_113_115_117_118.out (NE_0_1.out))
  have LB117_118_123 := hide (loc_set (i := 1) (v := .int .i64 a118) LB117_118.out)
  clear LB112_113_115_117_118 LB117_118
  have H123 := hide (H118.out.setLoc Q117.out 1 (.int .i64 a118))
  have F123 := hide (F118.out.setLoc G117.out 1 (.int .i64 a118))
  clear H118 F118
  have C124 := hide (side_any R L N s118 st _ H123.out _ rfl)
  go_wp2_with fail
  refine C124.out.mono ?_
  intro e w124 he
  rcases he.split with ⟨a124, s124, v124, ho, rfl, hv, hR, hF⟩ | ⟨c, m, ho, rfl, hF⟩
  rotate_left 1
  · exact on_panic rfl (.of_bad (bind_no HO118.out ho) (F123.out.trans hF))
  clear z119_0 z119_1 z119_2 y119 z120_0 z120_1 z120_2 y120 x121 x122
  have HO124 := hide (bind_go HO118.out ho)
  have LB112_113_115_117_118_123_124 := hide (hF.loc LB112_113_115_117_118_123.out (Nat.ne_of_gt Q112.out))
  clear LB112_113_115_117_118_123
  have LB117_118_123_124 := hide (hF.loc LB117_118_123.out (Nat.ne_of_gt Q117.out))
  clear LB117_118_123
  have V115_117_118_123_124 := hide (Terms.keep V115_117_118_123.out (Kp.of_fq (T := [9, 109]) hF H123.out (by decide)) (by decide) (by decide))
  clear V115_117_118_123
  have H124 := hide hR
  have F124 := hide (F123.out.trans hF)
  obtain ⟨p124, r124, rfl⟩ := rows_form hv
  have V124 := hide (Terms.mono hv fun g hg => Nat.le_trans F123.out.size hg)
  clear hv
  clear he ho hR hF C124 H123 F123 HO118
  obtain ⟨z125_0, z125_1, z125_2, y125⟩ := row3 LB112_113_115_117_118_123_124.out
  obtain ⟨z126_0, z126_1, z126_2, y126⟩ := row3 LB117_118_123_124.out
  have x127 := NE_0_1.out
  have x128 := NE_1_0.out
  have V115_117_118_123_124_129 := hide (Terms.keep V115_117_118_123_124.out (Kp.setLoc (T := [9, 109]) (i := 2) (v := .slice p124 a124.length r124) LB117_118_123_124.out (by decide)) (by decide) (by decide))
  clear V115_117_118_123_124
  have V124_129 := hide (Terms.keep V124.out (Kp.setLoc (T := [9, 109]) (i := 2) (v := .slice p124 a124.length r124) LB117_118_123_124.out (by decide)) (by decide) (by decide))
  clear V124
  have LB112_113_115_117_118_123_124_129 := hide (loc_other (p := ⟨w115.heap.size, 2, none⟩) (v := .slice p124 a124.length r124) LB112_113_115_117_118_123_124.out (NE_0_1.out))
  have LB117_118_123_124_129 := hide (loc_set (i := 2) (v := .slice p124 a124.length r124) LB117_118_123_124.out)
  clear LB112_113_115_117_118_123_124 LB117_118_123_124
  have H129 := hide (H124.out.setLoc Q117.out 2 (.slice p124 a124.length r124))
  have F129 := hide (F124.out.setLoc G117.out 2 (.slice p124 a124.length r124))
  clear H124 F124
  have C130 := hide (wantMark_any R L N s124 st _ [125] H129.out _ rfl)
  go_wp2_with fail
  refine C130.out.mono ?_
  intro e w130 he
  rcases he.split with ⟨a130, s130, v130, ho, rfl, hv, hR, hF⟩ | ⟨c, m, ho, rfl, hF⟩
  rotate_left 1
  · exact on_panic rfl (.of_bad (bind_no HO124.out ho) (F129.out.trans hF))
  clear z125_0 z125_1 z125_2 y125 z126_0 z126_1 z126_2 y126 x127 x128
  have HO130 := hide (bind_go HO124.out ho)
  have LB112_113_115_117_118_123_124_129_130 := hide (hF.loc LB112_113_115_117_118_123_124_129.out (Nat.ne_of_gt Q112.out))
  clear LB112_113_115_117_118_123_124_129
  have LB117_118_123_124_129_130 := hide (hF.loc LB117_118_123_124_129.out (Nat.ne_of_gt Q117.out))
  clear LB117_118_123_124_129
  have V115_117_118_123_124_129_130 := hide (Terms.keep V115_117_118_123_124_129.out (Kp.of_fq (T := [9, 109]) hF H129.out (by decide)) (by decide) (by decide))
  clear V115_117_118_123_124_129
  have V124_129_130 := hide (Terms.keep V124_129.out (Kp.of_fq (T := [9, 109]) hF H129.out (by decide)) (by decide) (by decide))
  clear V124_129
  have H130 := hide hR
  have F130 := hide (F129.out.trans hF)
  cases hv
  clear he ho hR hF C130 H129 F129 HO124
  obtain ⟨z131_0, z131_1, z131_2, y131⟩ := row3 LB112_113_115_117_118_123_124_129_130.out
  obtain ⟨z132_0, z132_1, z132_2, y132⟩ := row3 LB117_118_123_124_129_130.out
  have x133 := NE_0_1.out
  have x134 := NE_1_0.out
  go_wp2_with fail
  have hz := (And.intro z131_0 (And.intro z131_1 (And.intro z131_2 (And.intro y131 (And.intro z132_0 (And.intro z132_1 (And.intro z132_2 (And.intro y132 (And.intro x133 x134)))))))))
  simp [bodyPost, results, Tryz.results158, go_sem, hz]
  have V115_117_118_123_124_129_130_135 := hide (Terms.keep V115_117_118_123_124_129_130.out (Kp.setLoc (T := [9, 109]) (i := 0) (v := .slice p115 a115.length r115) LB112_113_115_117_118_123_124_129_130.out (by decide)) (by decide) (by decide))
  clear V115_117_118_123_124_129_130
  have V124_129_130_135 := hide (Terms.keep V124_129_130.out (Kp.setLoc (T := [9, 109]) (i := 0) (v := .slice p115 a115.length r115) LB112_113_115_117_118_123_124_129_130.out (by decide)) (by decide) (by decide))
  clear V124_129_130
  have LB112_113_115_117_118_123_124_129_130_135 := hide (loc_set (i := 0) (v := .slice p115 a115.length r115) LB112_113_115_117_118_123_124_129_130.out)
  have LB117_118_123_124_129_130_135 := hide (loc_other (p := ⟨w.heap.size, 0, none⟩) (v := .slice p115 a115.length r115) LB117_118_123_124_129_130.out (NE_1_0.out))
  clear LB112_113_115_117_118_123_124_129_130 LB117_118_123_124_129_130
  have H135 := hide (H130.out.setLoc Q112.out 0 (.slice p115 a115.length r115))
  have F135 := hide (F130.out.setLoc G112.out 0 (.slice p115 a115.length r115))
  clear H130 F130
  have V115_117_118_123_124_129_130_135_136 := hide (Terms.keep V115_117_118_123_124_129_130_135.out (Kp.setLoc (T := [9, 109]) (i := 1) (v := .int .i64 a118) LB112_113_115_117_118_123_124_129_130_135.out (by decide)) (by decide) (by decide))
  clear V115_117_118_123_124_129_130_135
  have V124_129_130_135_136 := hide (Terms.keep V124_129_130_135.out (Kp.setLoc (T := [9, 109]) (i := 1) (v := .int .i64 a118) LB112_113_115_117_118_123_124_129_130_135.out (by decide)) (by decide) (by decide))
  clear V124_129_130_135
  have LB112_113_115_117_118_123_124_129_130_135_136 := hide (loc_set (i := 1) (v := .int .i64 a118) LB112_113_115_117_118_123_124_129_130_135.out)
  have LB117_118_123_124_129_130_135_136 := hide (loc_other (p := ⟨w.heap.size, 1, none⟩) (v := .int .i64 a118) LB117_118_123_124_129_130_135.out (NE_1_0.out))
  clear LB112_113_115_117_118_123_124_129_130_135 LB117_118_123_124_129_130_135
  have H136 := hide (H135.out.setLoc Q112.out 1 (.int .i64 a118))
  have F136 := hide (F135.out.setLoc G112.out 1 (.int .i64 a118))
  clear H135 F135
  have V115_117_118_123_124_129_130_135_136_137 := hide (Terms.keep V115_117_118_123_124_129_130_135_136.out (Kp.setLoc (T := [9, 109]) (i := 2) (v := .slice p124 a124.length r124) LB112_113_115_117_118_123_124_129_130_135_136.out (by decide)) (by decide) (by decide))
  clear V115_117_118_123_124_129_130_135_136
  have V124_129_130_135_136_137 := hide (Terms.keep V124_129_130_135_136.out (Kp.setLoc (T := [9, 109]) (i := 2) (v := .slice p124 a124.length r124) LB112_113_115_117_118_123_124_129_130_135_136.out (by decide)) (by decide) (by decide))
  clear V124_129_130_135_136
  have LB112_113_115_117_118_123_124_129_130_135_136_137 := hide (loc_set (i := 2) (v := .slice p124 a124.length r124) LB112_113_115_117_118_123_124_129_130_135_136.out)
  have LB117_118_123_124_129_130_135_136_137 := hide (loc_other (p := ⟨w.heap.size, 2, none⟩) (v := .slice p124 a124.length r124) LB117_118_123_124_129_130_135_136.out (NE_1_0.out))
  clear LB112_113_115_117_118_123_124_129_130_135_136 LB117_118_123_124_129_130_135_136
  have H137 := hide (H136.out.setLoc Q112.out 2 (.slice p124 a124.length r124))
  have F137 := hide (F136.out.setLoc G112.out 2 (.slice p124 a124.length r124))
  clear H136 F136
  exact .of_ok HO130.out (⟨_, _, rfl, V115_117_118_123_124_129_130_135_136_137.out, V124_129_130_135_136_137.out⟩) H137.out F137.out

end
end Go.Proofs.YthnjmfkiohgkkaaGreatDoor.Sy
