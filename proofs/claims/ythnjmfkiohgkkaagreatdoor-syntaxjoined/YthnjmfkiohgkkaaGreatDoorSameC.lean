/- Whether two statutes are one: wherever they lie. By program. -/
import Derived.Test.YthnjmfkiohgkkaaGreatDoorSameAll
import Derived.Test.YthnjmfkiohgkkaaGreatDoorSrc5
namespace Go.Proofs.YthnjmfkiohgkkaaGreatDoor.Sy
open Go.RowKit

set_option maxRecDepth 100000 in
set_option maxHeartbeats 3200000 in
theorem yes_sameZ {Z Z' : Nat → Prop} {st st' : St9} {S : StatM} (w : World) (hx : SZ Z w st S) (hy : SZ Z' w st' S) (hs : SmallS S) :
    Calls Tryz.prog 10 #[St9.agg st, St9.agg st'] w fun e w' => e = .returned (.bool true) ∧ Below w.heap.size w w' := by
  have C0 := hide (fun w1 (hb' : Below w.heap.size w w1) => yes_strings _ _ _ w1 (hx.keep (Kp.of_below hb')).kinds (hy.keep (Kp.of_below hb')).kinds hs.kinds)
  have C1 := hide (fun w1 (hb' : Below w.heap.size w w1) => yes_SameMembers _ _ _ w1 (hx.keep (Kp.of_below hb')).members (hy.keep (Kp.of_below hb')).members hs.members)
  have C2 := hide (fun w1 (hb' : Below w.heap.size w w1) => yes_SamePreds _ _ _ w1 (hx.keep (Kp.of_below hb')).preds (hy.keep (Kp.of_below hb')).preds hs.preds hs.preds')
  have C3 := hide (fun w1 (hb' : Below w.heap.size w w1) => yes_SameStringLists _ _ _ w1 (hx.keep (Kp.of_below hb')).classes (hy.keep (Kp.of_below hb')).classes hs.classes hs.classes')
  have C4 := hide (fun w1 (hb' : Below w.heap.size w w1) => yes_SameSources _ _ _ w1 (hx.keep (Kp.of_below hb')).sources (hy.keep (Kp.of_below hb')).sources hs.sources)
  have C5 := hide (fun w1 (hb' : Below w.heap.size w w1) => yes_SameRuleTexts _ _ _ w1 (hx.keep (Kp.of_below hb')).rules (hy.keep (Kp.of_below hb')).rules hs.rules hs.rules')
  have C6 := hide (fun w1 (hb' : Below w.heap.size w w1) => yes_SameExcepts _ _ _ w1 (hx.keep (Kp.of_below hb')).excepts (hy.keep (Kp.of_below hb')).excepts hs.excepts)
  have C7 := hide (fun w1 (hb' : Below w.heap.size w w1) => yes_SameTotals _ _ _ w1 (hx.keep (Kp.of_below hb')).totals (hy.keep (Kp.of_below hb')).totals hs.totals hs.totals')
  have et := hx.title
  have et' := hy.title
  obtain ⟨ax0, cx0, ex0⟩ := rows_form hx.kinds
  obtain ⟨ay0, cy0, ey0⟩ := rows_form hy.kinds
  obtain ⟨ax1, cx1, ex1⟩ := rows_form hx.members
  obtain ⟨ay1, cy1, ey1⟩ := rows_form hy.members
  obtain ⟨ax2, cx2, ex2⟩ := rows_form hx.preds
  obtain ⟨ay2, cy2, ey2⟩ := rows_form hy.preds
  obtain ⟨ax3, cx3, ex3⟩ := rows_form hx.classes
  obtain ⟨ay3, cy3, ey3⟩ := rows_form hy.classes
  obtain ⟨ax4, cx4, ex4⟩ := rows_form hx.sources
  obtain ⟨ay4, cy4, ey4⟩ := rows_form hy.sources
  obtain ⟨ax5, cx5, ex5⟩ := rows_form hx.rules
  obtain ⟨ay5, cy5, ey5⟩ := rows_form hy.rules
  obtain ⟨ax6, cx6, ex6⟩ := rows_form hx.excepts
  obtain ⟨ay6, cy6, ey6⟩ := rows_form hy.excepts
  obtain ⟨ax7, cx7, ex7⟩ := rows_form hx.totals
  obtain ⟨ay7, cy7, ey7⟩ := rows_form hy.totals
  clear hx hy hs
  obtain ⟨t0, t1, t2, t3, t4, t5, t6, t7, t8⟩ := st
  obtain ⟨u0, u1, u2, u3, u4, u5, u6, u7, u8⟩ := st'
  simp only at et et' ex0 ey0 ex1 ey1 ex2 ey2 ex3 ey3 ex4 ey4 ex5 ey5 ex6 ey6 ex7 ey7
  subst et et' ex0 ey0 ex1 ey1 ex2 ey2 ex3 ey3 ex4 ey4 ex5 ey5 ex6 ey6 ex7 ey7
  simp only at C0 C1 C2 C3 C4 C5 C6 C7
  simp only [St9.agg]
  go_enter Tryz.func10, Tryz.ntmps10
  go_wp2_with fail
  go_at_call 28
  refine (C0.out _ (below_two w _ _)).mono ?_
  rintro _ w1 ⟨rfl, hb⟩
  have HB := hide hb
  have B0 := hide (box_below HB.out)
  clear hb
  have f0_2 := box_a HB.out 2 _ rfl
  have g0_2 := box_b HB.out 2 _ rfl
  have f0_3 := box_a HB.out 3 _ rfl
  have g0_3 := box_b HB.out 3 _ rfl
  have f0_4 := box_a HB.out 4 _ rfl
  have g0_4 := box_b HB.out 4 _ rfl
  have f0_5 := box_a HB.out 5 _ rfl
  have g0_5 := box_b HB.out 5 _ rfl
  have f0_6 := box_a HB.out 6 _ rfl
  have g0_6 := box_b HB.out 6 _ rfl
  have f0_7 := box_a HB.out 7 _ rfl
  have g0_7 := box_b HB.out 7 _ rfl
  have f0_8 := box_a HB.out 8 _ rfl
  have g0_8 := box_b HB.out 8 _ rfl
  go_wp2_with fail
  clear f0_2 g0_2 f0_3 g0_3 f0_4 g0_4 f0_5 g0_5 f0_6 g0_6 f0_7 g0_7 f0_8 g0_8
  go_at_call 29
  refine (C1.out _ B0.out).mono ?_
  rintro _ w2 ⟨rfl, q1, eq1⟩
  have hb : Below w1.heap.size w1 w2 := by rw [eq1]; exact below_drewN _ _
  clear eq1
  have HB1 := hide (HB.out.trans (hb.mono HB.out.size))
  have B1 := hide (box_below HB1.out)
  clear hb
  have f1_3 := box_a HB1.out 3 _ rfl
  have g1_3 := box_b HB1.out 3 _ rfl
  have f1_4 := box_a HB1.out 4 _ rfl
  have g1_4 := box_b HB1.out 4 _ rfl
  have f1_5 := box_a HB1.out 5 _ rfl
  have g1_5 := box_b HB1.out 5 _ rfl
  have f1_6 := box_a HB1.out 6 _ rfl
  have g1_6 := box_b HB1.out 6 _ rfl
  have f1_7 := box_a HB1.out 7 _ rfl
  have g1_7 := box_b HB1.out 7 _ rfl
  have f1_8 := box_a HB1.out 8 _ rfl
  have g1_8 := box_b HB1.out 8 _ rfl
  go_wp2_with fail
  clear f1_3 g1_3 f1_4 g1_4 f1_5 g1_5 f1_6 g1_6 f1_7 g1_7 f1_8 g1_8
  go_at_call 30
  refine (C2.out _ B1.out).mono ?_
  rintro _ w3 ⟨rfl, hb⟩
  have HB2 := hide (HB1.out.trans (hb.mono HB1.out.size))
  have B2 := hide (box_below HB2.out)
  clear hb
  have f2_4 := box_a HB2.out 4 _ rfl
  have g2_4 := box_b HB2.out 4 _ rfl
  have f2_5 := box_a HB2.out 5 _ rfl
  have g2_5 := box_b HB2.out 5 _ rfl
  have f2_6 := box_a HB2.out 6 _ rfl
  have g2_6 := box_b HB2.out 6 _ rfl
  have f2_7 := box_a HB2.out 7 _ rfl
  have g2_7 := box_b HB2.out 7 _ rfl
  have f2_8 := box_a HB2.out 8 _ rfl
  have g2_8 := box_b HB2.out 8 _ rfl
  go_wp2_with fail
  clear f2_4 g2_4 f2_5 g2_5 f2_6 g2_6 f2_7 g2_7 f2_8 g2_8
  go_at_call 31
  refine (C3.out _ B2.out).mono ?_
  rintro _ w4 ⟨rfl, hb⟩
  have HB3 := hide (HB2.out.trans (hb.mono HB2.out.size))
  have B3 := hide (box_below HB3.out)
  clear hb
  have f3_5 := box_a HB3.out 5 _ rfl
  have g3_5 := box_b HB3.out 5 _ rfl
  have f3_6 := box_a HB3.out 6 _ rfl
  have g3_6 := box_b HB3.out 6 _ rfl
  have f3_7 := box_a HB3.out 7 _ rfl
  have g3_7 := box_b HB3.out 7 _ rfl
  have f3_8 := box_a HB3.out 8 _ rfl
  have g3_8 := box_b HB3.out 8 _ rfl
  go_wp2_with fail
  clear f3_5 g3_5 f3_6 g3_6 f3_7 g3_7 f3_8 g3_8
  go_at_call 32
  refine (C4.out _ B3.out).mono ?_
  rintro _ w5 ⟨rfl, q4, eq4⟩
  have hb : Below w4.heap.size w4 w5 := by rw [eq4]; exact below_drewN _ _
  clear eq4
  have HB4 := hide (HB3.out.trans (hb.mono HB3.out.size))
  have B4 := hide (box_below HB4.out)
  clear hb
  have f4_6 := box_a HB4.out 6 _ rfl
  have g4_6 := box_b HB4.out 6 _ rfl
  have f4_7 := box_a HB4.out 7 _ rfl
  have g4_7 := box_b HB4.out 7 _ rfl
  have f4_8 := box_a HB4.out 8 _ rfl
  have g4_8 := box_b HB4.out 8 _ rfl
  go_wp2_with fail
  clear f4_6 g4_6 f4_7 g4_7 f4_8 g4_8
  go_at_call 33
  refine (C5.out _ B4.out).mono ?_
  rintro _ w6 ⟨rfl, hb⟩
  have HB5 := hide (HB4.out.trans (hb.mono HB4.out.size))
  have B5 := hide (box_below HB5.out)
  clear hb
  have f5_7 := box_a HB5.out 7 _ rfl
  have g5_7 := box_b HB5.out 7 _ rfl
  have f5_8 := box_a HB5.out 8 _ rfl
  have g5_8 := box_b HB5.out 8 _ rfl
  go_wp2_with fail
  clear f5_7 g5_7 f5_8 g5_8
  go_at_call 34
  refine (C6.out _ B5.out).mono ?_
  rintro _ w7 ⟨rfl, q6, eq6⟩
  have hb : Below w6.heap.size w6 w7 := by rw [eq6]; exact below_drewN _ _
  clear eq6
  have HB6 := hide (HB5.out.trans (hb.mono HB5.out.size))
  have B6 := hide (box_below HB6.out)
  clear hb
  have f6_8 := box_a HB6.out 8 _ rfl
  have g6_8 := box_b HB6.out 8 _ rfl
  go_wp2_with fail
  clear f6_8 g6_8
  go_at_call 35
  refine (C7.out _ B6.out).mono ?_
  rintro _ w8 ⟨rfl, hb⟩
  have HB7 := hide (HB6.out.trans (hb.mono HB6.out.size))
  have B7 := hide (box_below HB7.out)
  clear hb
  go_wp2_with fail
  go_ret
  exact ⟨rfl, B7.out⟩
end Go.Proofs.YthnjmfkiohgkkaaGreatDoor.Sy
