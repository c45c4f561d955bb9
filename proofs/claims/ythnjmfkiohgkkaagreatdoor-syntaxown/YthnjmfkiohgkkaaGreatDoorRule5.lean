/- A rule. By program. -/
import Derived.Test.YthnjmfkiohgkkaaGreatDoorPrem5
namespace Go.Proofs.YthnjmfkiohgkkaaGreatDoor.Sy
open Go.RowKit

theorem bind_two {α β γ : Type} {x : M α} {g : α → M β} {f : β → M γ} {s : RS} {o : Out γ} (h : ((x >>= g) >>= f) s = o) : (x >>= fun a => g a >>= f) s = o := by
  rw [← h]
  show (match x s with | .ok a t => (g a >>= f) t | .bad e n => .bad e n) = (match (match x s with | .ok a t => g a t | .bad e n => .bad e n) with | .ok a t => f a t | .bad e n => .bad e n)
  cases x s with
  | ok a t => rfl
  | bad e n => rfl
theorem bind_t {α β : Type} {A B : M α} {f : α → M β} {s : RS} {o : Out β} {c : Bool} (h : ((if c = true then A else B) >>= f) s = o) (hc : c = true) : (A >>= f) s = o := by rw [if_pos hc] at h; exact h
theorem bind_f {α β : Type} {A B : M α} {f : α → M β} {s : RS} {o : Out β} {c : Bool} (h : ((if c = true then A else B) >>= f) s = o) (hc : c = false) : (B >>= f) s = o := by rw [if_neg (by simp [hc])] at h; exact h
theorem bind_pure {α β : Type} {a : α} {f : α → M β} {s : RS} {o : Out β} (h : ((pure a : M α) >>= f) s = o) : f a s = o := h

theorem eats_premise (F : Fns) : Eats (premiseM F) :=
  .ask fun b => .ite b eats_unlike (.ask fun b => .ite b (.bind (eats_guard F) fun _ => .pure _) (.bind (eats_literal F) fun _ => .pure _))

section
variable (R : Nat) (L : List Tok) (N : Nat) (s : RS) (st : St9) (w : World)

set_option maxRecDepth 100000 in
set_option maxHeartbeats 1600000 in
theorem rule_any (h : Rd R L N s st w) (o : Out RuleM) (ho : ruleM FN (kt L) s = o) :
    Calls Tryz.prog 83 #[.pointer (some ⟨R, 0, none⟩)] w (Ends R L N st w (vRule (New w)) o) := by
  have HO := hide ho
  have H := hide h
  have F := hide (Fq.refl R w)
  clear h ho
  go_enter Tryz.func83, Tryz.ntmps83
  have B1 : Below _ _ ((w).alloc (.cells #[.string ⟨#[]⟩, .string ⟨#[]⟩, .int .i64 0, .int .i64 0, .slice none 0 0, .int .i64 0, .bool false, .string ⟨#[]⟩, .slice none 0 0, .bool false, .int .i64 0] 100)) := (Below.refl _ _).alloc (Nat.le_refl _) _
  have Q1 : Hid (R < w.heap.size) := hide H.out.lt
  have G1 : Hid (w.heap.size ≤ w.heap.size) := hide F.out.size
  have LB1 := hide (heap_alloc_new (w) (.cells #[.string ⟨#[]⟩, .string ⟨#[]⟩, .int .i64 0, .int .i64 0, .slice none 0 0, .int .i64 0, .bool false, .string ⟨#[]⟩, .slice none 0 0, .bool false, .int .i64 0] 100))
  have H1 := hide (H.out.below B1)
  have F1 := hide (F.out.trans (Fq.of_below B1))
  clear H F B1
  have C2 := hide (name_any R L N s st _ H1.out _ rfl)
  go_wp2_with fail
  refine C2.out.mono ?_
  intro e w2 he
  rcases he.split with ⟨a2, s2, v2, ho, rfl, hv, hR, hF⟩ | ⟨c, m, ho, rfl, hF⟩
  rotate_left 1
  · exact on_panic rfl (.of_bad (bind_no HO.out ho) (F1.out.trans hF))
  have HO2 := hide (bind_go HO.out ho)
  have LB1_2 := hide (hF.loc LB1.out (Nat.ne_of_gt Q1.out))
  clear LB1
  have H2 := hide hR
  have F2 := hide (F1.out.trans hF)
  cases hv
  clear he ho hR hF C2 H1 F1 HO
  obtain ⟨z3_0, z3_1, z3_2, z3_3, z3_4, z3_5, z3_6, z3_7, z3_8, z3_9, z3_10, y3⟩ := row11 LB1_2.out
  have B4 : Below _ _ ((w2).alloc (.cells #[.string ⟨a2.toArray⟩, .string ⟨#[]⟩, .int .i64 0, .int .i64 0, .slice none 0 0, .int .i64 0, .bool false, .string ⟨#[]⟩, .slice none 0 0, .bool false, .int .i64 0] 100)) := (Below.refl _ _).alloc (Nat.le_refl _) _
  have Q4 : Hid (R < w2.heap.size) := hide H2.out.lt
  have G4 : Hid (w.heap.size ≤ w2.heap.size) := hide F2.out.size
  have NE_0_1 : Hid (w.heap.size ≠ w2.heap.size) := hide (Nat.ne_of_lt (loc_lt LB1_2.out))
  have NE_1_0 : Hid (w2.heap.size ≠ w.heap.size) := hide (Nat.ne_of_gt (loc_lt LB1_2.out))
  have LB1_2_4 := hide ((B4.block _ (loc_lt LB1_2.out)).trans LB1_2.out)
  clear LB1_2
  have LB4 := hide (heap_alloc_new (w2) (.cells #[.string ⟨a2.toArray⟩, .string ⟨#[]⟩, .int .i64 0, .int .i64 0, .slice none 0 0, .int .i64 0, .bool false, .string ⟨#[]⟩, .slice none 0 0, .bool false, .int .i64 0] 100))
  have H4 := hide (H2.out.below B4)
  have F4 := hide (F2.out.trans (Fq.of_below B4))
  clear H2 F2 B4
  have C5 := hide (wantWord_any R L N s2 st _ [111, 102] H4.out _ rfl)
  go_wp2_with fail
  refine C5.out.mono ?_
  intro e w5 he
  rcases he.split with ⟨a5, s5, v5, ho, rfl, hv, hR, hF⟩ | ⟨c, m, ho, rfl, hF⟩
  rotate_left 1
  · exact on_panic rfl (.of_bad (bind_no HO2.out ho) (F4.out.trans hF))
  clear z3_0 z3_1 z3_2 z3_3 z3_4 z3_5 z3_6 z3_7 z3_8 z3_9 z3_10 y3
  have HO5 := hide (bind_go HO2.out ho)
  have LB1_2_4_5 := hide (hF.loc LB1_2_4.out (Nat.ne_of_gt Q1.out))
  clear LB1_2_4
  have LB4_5 := hide (hF.loc LB4.out (Nat.ne_of_gt Q4.out))
  clear LB4
  have H5 := hide hR
  have F5 := hide (F4.out.trans hF)
  cases hv
  clear he ho hR hF C5 H4 F4 HO2
  obtain ⟨z6_0, z6_1, z6_2, z6_3, z6_4, z6_5, z6_6, z6_7, z6_8, z6_9, z6_10, y6⟩ := row11 LB1_2_4_5.out
  obtain ⟨z7_0, z7_1, z7_2, z7_3, z7_4, z7_5, z7_6, z7_7, z7_8, z7_9, z7_10, y7⟩ := row11 LB4_5.out
  have x8 := NE_0_1.out
  have x9 := NE_1_0.out
  have C10 := hide (name_any R L N s5 st _ H5.out _ rfl)
  go_wp2_with fail
  refine C10.out.mono ?_
  intro e w10 he
  rcases he.split with ⟨a10, s10, v10, ho, rfl, hv, hR, hF⟩ | ⟨c, m, ho, rfl, hF⟩
  rotate_left 1
  · exact on_panic rfl (.of_bad (bind_no HO5.out ho) (F5.out.trans hF))
  clear z6_0 z6_1 z6_2 z6_3 z6_4 z6_5 z6_6 z6_7 z6_8 z6_9 z6_10 y6 z7_0 z7_1 z7_2 z7_3 z7_4 z7_5 z7_6 z7_7 z7_8 z7_9 z7_10 y7 x8 x9
  have HO10 := hide (bind_go HO5.out ho)
  have LB1_2_4_5_10 := hide (hF.loc LB1_2_4_5.out (Nat.ne_of_gt Q1.out))
  clear LB1_2_4_5
  have LB4_5_10 := hide (hF.loc LB4_5.out (Nat.ne_of_gt Q4.out))
  clear LB4_5
  have H10 := hide hR
  have F10 := hide (F5.out.trans hF)
  cases hv
  clear he ho hR hF C10 H5 F5 HO5
  obtain ⟨z11_0, z11_1, z11_2, z11_3, z11_4, z11_5, z11_6, z11_7, z11_8, z11_9, z11_10, y11⟩ := row11 LB1_2_4_5_10.out
  obtain ⟨z12_0, z12_1, z12_2, z12_3, z12_4, z12_5, z12_6, z12_7, z12_8, z12_9, z12_10, y12⟩ := row11 LB4_5_10.out
  have x13 := NE_0_1.out
  have x14 := NE_1_0.out
  have LB1_2_4_5_10_15 := hide (loc_other (p := ⟨w2.heap.size, 1, none⟩) (v := .string ⟨a10.toArray⟩) LB1_2_4_5_10.out (NE_0_1.out))
  have LB4_5_10_15 := hide (loc_set (i := 1) (v := .string ⟨a10.toArray⟩) LB4_5_10.out)
  clear LB1_2_4_5_10 LB4_5_10
  have H15 := hide (H10.out.setLoc Q4.out 1 (.string ⟨a10.toArray⟩))
  have F15 := hide (F10.out.setLoc G4.out 1 (.string ⟨a10.toArray⟩))
  clear H10 F10
  have C16 := hide (wantWord_any R L N s10 st _ [97, 116] H15.out _ rfl)
  go_wp2_with fail
  refine C16.out.mono ?_
  intro e w16 he
  rcases he.split with ⟨a16, s16, v16, ho, rfl, hv, hR, hF⟩ | ⟨c, m, ho, rfl, hF⟩
  rotate_left 1
  · exact on_panic rfl (.of_bad (bind_no HO10.out ho) (F15.out.trans hF))
  clear z11_0 z11_1 z11_2 z11_3 z11_4 z11_5 z11_6 z11_7 z11_8 z11_9 z11_10 y11 z12_0 z12_1 z12_2 z12_3 z12_4 z12_5 z12_6 z12_7 z12_8 z12_9 z12_10 y12 x13 x14
  have HO16 := hide (bind_go HO10.out ho)
  have LB1_2_4_5_10_15_16 := hide (hF.loc LB1_2_4_5_10_15.out (Nat.ne_of_gt Q1.out))
  clear LB1_2_4_5_10_15
  have LB4_5_10_15_16 := hide (hF.loc LB4_5_10_15.out (Nat.ne_of_gt Q4.out))
  clear LB4_5_10_15
  have H16 := hide hR
  have F16 := hide (F15.out.trans hF)
  cases hv
  clear he ho hR hF C16 H15 F15 HO10
  obtain ⟨z17_0, z17_1, z17_2, z17_3, z17_4, z17_5, z17_6, z17_7, z17_8, z17_9, z17_10, y17⟩ := row11 LB1_2_4_5_10_15_16.out
  obtain ⟨z18_0, z18_1, z18_2, z18_3, z18_4, z18_5, z18_6, z18_7, z18_8, z18_9, z18_10, y18⟩ := row11 LB4_5_10_15_16.out
  have x19 := NE_0_1.out
  have x20 := NE_1_0.out
  have C21 := hide (date_any R L N s16 st _ H16.out _ rfl)
  go_wp2_with fail
  refine C21.out.mono ?_
  intro e w21 he
  rcases he.split with ⟨a21, s21, v21, ho, rfl, hv, hR, hF⟩ | ⟨c, m, ho, rfl, hF⟩
  rotate_left 1
  · exact on_panic rfl (.of_bad (bind_no HO16.out ho) (F16.out.trans hF))
  clear z17_0 z17_1 z17_2 z17_3 z17_4 z17_5 z17_6 z17_7 z17_8 z17_9 z17_10 y17 z18_0 z18_1 z18_2 z18_3 z18_4 z18_5 z18_6 z18_7 z18_8 z18_9 z18_10 y18 x19 x20
  have HO21 := hide (bind_go HO16.out ho)
  have LB1_2_4_5_10_15_16_21 := hide (hF.loc LB1_2_4_5_10_15_16.out (Nat.ne_of_gt Q1.out))
  clear LB1_2_4_5_10_15_16
  have LB4_5_10_15_16_21 := hide (hF.loc LB4_5_10_15_16.out (Nat.ne_of_gt Q4.out))
  clear LB4_5_10_15_16
  have H21 := hide hR
  have F21 := hide (F16.out.trans hF)
  cases hv
  clear he ho hR hF C21 H16 F16 HO16
  obtain ⟨z22_0, z22_1, z22_2, z22_3, z22_4, z22_5, z22_6, z22_7, z22_8, z22_9, z22_10, y22⟩ := row11 LB1_2_4_5_10_15_16_21.out
  obtain ⟨z23_0, z23_1, z23_2, z23_3, z23_4, z23_5, z23_6, z23_7, z23_8, z23_9, z23_10, y23⟩ := row11 LB4_5_10_15_16_21.out
  have x24 := NE_0_1.out
  have x25 := NE_1_0.out
  have LB1_2_4_5_10_15_16_21_26 := hide (loc_other (p := ⟨w2.heap.size, 2, none⟩) (v := .int .i64 a21) LB1_2_4_5_10_15_16_21.out (NE_0_1.out))
  have LB4_5_10_15_16_21_26 := hide (loc_set (i := 2) (v := .int .i64 a21) LB4_5_10_15_16_21.out)
  clear LB1_2_4_5_10_15_16_21 LB4_5_10_15_16_21
  have H26 := hide (H21.out.setLoc Q4.out 2 (.int .i64 a21))
  have F26 := hide (F21.out.setLoc G4.out 2 (.int .i64 a21))
  clear H21 F21
  have HOu := hide (bind_two HO21.out)
  clear HO21
  have C27 := hide (hasWord_any R L N s21 st _ [117, 110, 116, 105, 108] H26.out _ rfl)
  go_wp2_with fail
  refine C27.out.mono ?_
  intro e w27 he
  rcases he.split with ⟨a27, s27, v27, ho, rfl, hv, hR, hF⟩ | ⟨c, m, ho, rfl, hF⟩
  rotate_left 1
  · exact on_panic rfl (.of_bad (bind_no HOu.out ho) (F26.out.trans hF))
  clear z22_0 z22_1 z22_2 z22_3 z22_4 z22_5 z22_6 z22_7 z22_8 z22_9 z22_10 y22 z23_0 z23_1 z23_2 z23_3 z23_4 z23_5 z23_6 z23_7 z23_8 z23_9 z23_10 y23 x24 x25
  have HO27 := hide (bind_go HOu.out ho)
  have LB1_2_4_5_10_15_16_21_26_27 := hide (hF.loc LB1_2_4_5_10_15_16_21_26.out (Nat.ne_of_gt Q1.out))
  clear LB1_2_4_5_10_15_16_21_26
  have LB4_5_10_15_16_21_26_27 := hide (hF.loc LB4_5_10_15_16_21_26.out (Nat.ne_of_gt Q4.out))
  clear LB4_5_10_15_16_21_26
  have H27 := hide hR
  have F27 := hide (F26.out.trans hF)
  cases hv
  clear he ho hR hF C27 H26 F26 HOu
  obtain ⟨z28_0, z28_1, z28_2, z28_3, z28_4, z28_5, z28_6, z28_7, z28_8, z28_9, z28_10, y28⟩ := row11 LB1_2_4_5_10_15_16_21_26_27.out
  obtain ⟨z29_0, z29_1, z29_2, z29_3, z29_4, z29_5, z29_6, z29_7, z29_8, z29_9, z29_10, y29⟩ := row11 LB4_5_10_15_16_21_26_27.out
  have x30 := NE_0_1.out
  have x31 := NE_1_0.out
  cases a27 with
  | false =>
    have HO := hide (bind_pure (bind_f HO27.out rfl))
    clear HO27
    have C32 := hide (wantMark_any R L N s27 st _ [58] H27.out _ rfl)
    go_wp2_with fail
    refine C32.out.mono ?_
    intro e w32 he
    rcases he.split with ⟨a32, s32, v32, ho, rfl, hv, hR, hF⟩ | ⟨c, m, ho, rfl, hF⟩
    rotate_left 1
    · exact on_panic rfl (.of_bad (bind_no HO.out ho) (F27.out.trans hF))
    clear z28_0 z28_1 z28_2 z28_3 z28_4 z28_5 z28_6 z28_7 z28_8 z28_9 z28_10 y28 z29_0 z29_1 z29_2 z29_3 z29_4 z29_5 z29_6 z29_7 z29_8 z29_9 z29_10 y29 x30 x31
    have HO32 := hide (bind_go HO.out ho)
    have LB1_2_4_5_10_15_16_21_26_27_32 := hide (hF.loc LB1_2_4_5_10_15_16_21_26_27.out (Nat.ne_of_gt Q1.out))
    clear LB1_2_4_5_10_15_16_21_26_27
    have LB4_5_10_15_16_21_26_27_32 := hide (hF.loc LB4_5_10_15_16_21_26_27.out (Nat.ne_of_gt Q4.out))
    clear LB4_5_10_15_16_21_26_27
    have H32 := hide hR
    have F32 := hide (F27.out.trans hF)
    cases hv
    clear he ho hR hF C32 H27 F27 HO
    obtain ⟨z33_0, z33_1, z33_2, z33_3, z33_4, z33_5, z33_6, z33_7, z33_8, z33_9, z33_10, y33⟩ := row11 LB1_2_4_5_10_15_16_21_26_27_32.out
    obtain ⟨z34_0, z34_1, z34_2, z34_3, z34_4, z34_5, z34_6, z34_7, z34_8, z34_9, z34_10, y34⟩ := row11 LB4_5_10_15_16_21_26_27_32.out
    have x35 := NE_0_1.out
    have x36 := NE_1_0.out
    have HOb := hide (ask_go (bind_two HO32.out))
    clear HO32
    have CO := hide (arrowOf_any L s32.n (placeAt L N s32.n))
    have CA0 := hide (fun w h => ahead_any R L N s32 st w h 0 (by omega))
    rw [show s32.n + 0 = s32.n from rfl] at CA0
    cases har : decide (arrowAt (kt L) s32.n = 0) with
    | false =>
      have HOc := hide (bind_pure (bind_f HOb.out har))
      have hr' : ¬ ((arrowAt (kt L) s32.n : Nat) : Int) = 0 := by simp at har; omega
      clear HOb har
      go_wp2_with fail
      refine (CA0.out _ H32.out).mono ?_
      rintro _ w37 ⟨rfl, hb⟩
      clear z33_0 z33_1 z33_2 z33_3 z33_4 z33_5 z33_6 z33_7 z33_8 z33_9 z33_10 y33 z34_0 z34_1 z34_2 z34_3 z34_4 z34_5 z34_6 z34_7 z34_8 z34_9 z34_10 y34 x35 x36
      have LB1_2_4_5_10_15_16_21_26_27_32_37 := hide ((hb.block _ (loc_lt LB1_2_4_5_10_15_16_21_26_27_32.out)).trans LB1_2_4_5_10_15_16_21_26_27_32.out)
      clear LB1_2_4_5_10_15_16_21_26_27_32
      have LB4_5_10_15_16_21_26_27_32_37 := hide ((hb.block _ (loc_lt LB4_5_10_15_16_21_26_27_32.out)).trans LB4_5_10_15_16_21_26_27_32.out)
      clear LB4_5_10_15_16_21_26_27_32
      have H37 := hide (H32.out.below hb)
      have F37 := hide (F32.out.trans (Fq.of_below hb))
      clear hb H32 F32
      obtain ⟨z38_0, z38_1, z38_2, z38_3, z38_4, z38_5, z38_6, z38_7, z38_8, z38_9, z38_10, y38⟩ := row11 LB1_2_4_5_10_15_16_21_26_27_32_37.out
      obtain ⟨z39_0, z39_1, z39_2, z39_3, z39_4, z39_5, z39_6, z39_7, z39_8, z39_9, z39_10, y39⟩ := row11 LB4_5_10_15_16_21_26_27_32_37.out
      have x40 := NE_0_1.out
      have x41 := NE_1_0.out
      go_wp2_with fail
      refine (CO.out _).mono ?_
      rintro _ w42 ⟨rfl, hb⟩
      clear z38_0 z38_1 z38_2 z38_3 z38_4 z38_5 z38_6 z38_7 z38_8 z38_9 z38_10 y38 z39_0 z39_1 z39_2 z39_3 z39_4 z39_5 z39_6 z39_7 z39_8 z39_9 z39_10 y39 x40 x41
      have LB1_2_4_5_10_15_16_21_26_27_32_37_42 := hide ((hb.block _ (loc_lt LB1_2_4_5_10_15_16_21_26_27_32_37.out)).trans LB1_2_4_5_10_15_16_21_26_27_32_37.out)
      clear LB1_2_4_5_10_15_16_21_26_27_32_37
      have LB4_5_10_15_16_21_26_27_32_37_42 := hide ((hb.block _ (loc_lt LB4_5_10_15_16_21_26_27_32_37.out)).trans LB4_5_10_15_16_21_26_27_32_37.out)
      clear LB4_5_10_15_16_21_26_27_32_37
      have H42 := hide (H37.out.below hb)
      have F42 := hide (F37.out.trans (Fq.of_below hb))
      clear hb H37 F37
      obtain ⟨z43_0, z43_1, z43_2, z43_3, z43_4, z43_5, z43_6, z43_7, z43_8, z43_9, z43_10, y43⟩ := row11 LB1_2_4_5_10_15_16_21_26_27_32_37_42.out
      obtain ⟨z44_0, z44_1, z44_2, z44_3, z44_4, z44_5, z44_6, z44_7, z44_8, z44_9, z44_10, y44⟩ := row11 LB4_5_10_15_16_21_26_27_32_37_42.out
      have x45 := NE_0_1.out
      have x46 := NE_1_0.out
      have C47 := hide (arrow_any R L N s32 st _ H42.out _ rfl)
      go_wp2_with fail
      refine C47.out.mono ?_
      intro e w47 he
      rcases he.split with ⟨a47, s47, v47, ho, rfl, hv, hR, hF⟩ | ⟨c, m, ho, rfl, hF⟩
      rotate_left 1
      · exact on_panic rfl (.of_bad (bind_no HOc.out ho) (F42.out.trans hF))
      clear z43_0 z43_1 z43_2 z43_3 z43_4 z43_5 z43_6 z43_7 z43_8 z43_9 z43_10 y43 z44_0 z44_1 z44_2 z44_3 z44_4 z44_5 z44_6 z44_7 z44_8 z44_9 z44_10 y44 x45 x46
      have HO47 := hide (bind_go HOc.out ho)
      have LB1_2_4_5_10_15_16_21_26_27_32_37_42_47 := hide (hF.loc LB1_2_4_5_10_15_16_21_26_27_32_37_42.out (Nat.ne_of_gt Q1.out))
      clear LB1_2_4_5_10_15_16_21_26_27_32_37_42
      have LB4_5_10_15_16_21_26_27_32_37_42_47 := hide (hF.loc LB4_5_10_15_16_21_26_27_32_37_42.out (Nat.ne_of_gt Q4.out))
      clear LB4_5_10_15_16_21_26_27_32_37_42
      have H47 := hide hR
      have F47 := hide (F42.out.trans hF)
      cases hv
      clear he ho hR hF C47 H42 F42 HOc
      obtain ⟨z48_0, z48_1, z48_2, z48_3, z48_4, z48_5, z48_6, z48_7, z48_8, z48_9, z48_10, y48⟩ := row11 LB1_2_4_5_10_15_16_21_26_27_32_37_42_47.out
      obtain ⟨z49_0, z49_1, z49_2, z49_3, z49_4, z49_5, z49_6, z49_7, z49_8, z49_9, z49_10, y49⟩ := row11 LB4_5_10_15_16_21_26_27_32_37_42_47.out
      have x50 := NE_0_1.out
      have x51 := NE_1_0.out
      have LB1_2_4_5_10_15_16_21_26_27_32_37_42_47_52 := hide (loc_other (p := ⟨w2.heap.size, 5, none⟩) (v := .int .i64 a47) LB1_2_4_5_10_15_16_21_26_27_32_37_42_47.out (NE_0_1.out))
      have LB4_5_10_15_16_21_26_27_32_37_42_47_52 := hide (loc_set (i := 5) (v := .int .i64 a47) LB4_5_10_15_16_21_26_27_32_37_42_47.out)
      clear LB1_2_4_5_10_15_16_21_26_27_32_37_42_47 LB4_5_10_15_16_21_26_27_32_37_42_47
      have H52 := hide (H47.out.setLoc Q4.out 5 (.int .i64 a47))
      have F52 := hide (F47.out.setLoc G4.out 5 (.int .i64 a47))
      clear H47 F47
      have C53 := hide (literal_any R L N s47 st _ H52.out _ rfl)
      go_wp2_with fail
      refine C53.out.mono ?_
      intro e w53 he
      rcases he.split with ⟨a53, s53, v53, ho, rfl, hv, hR, hF⟩ | ⟨c, m, ho, rfl, hF⟩
      rotate_left 1
      · exact on_panic rfl (.of_bad (bind_no HO47.out ho) (F52.out.trans hF))
      clear z48_0 z48_1 z48_2 z48_3 z48_4 z48_5 z48_6 z48_7 z48_8 z48_9 z48_10 y48 z49_0 z49_1 z49_2 z49_3 z49_4 z49_5 z49_6 z49_7 z49_8 z49_9 z49_10 y49 x50 x51
      have HO53 := hide (bind_go HO47.out ho)
      have LB1_2_4_5_10_15_16_21_26_27_32_37_42_47_52_53 := hide (hF.loc LB1_2_4_5_10_15_16_21_26_27_32_37_42_47_52.out (Nat.ne_of_gt Q1.out))
      clear LB1_2_4_5_10_15_16_21_26_27_32_37_42_47_52
      have LB4_5_10_15_16_21_26_27_32_37_42_47_52_53 := hide (hF.loc LB4_5_10_15_16_21_26_27_32_37_42_47_52.out (Nat.ne_of_gt Q4.out))
      clear LB4_5_10_15_16_21_26_27_32_37_42_47_52
      have H53 := hide hR
      have F53 := hide (F52.out.trans hF)
      obtain ⟨av53, rfl, hv0_53⟩ := hv
      obtain ⟨p0_53, r0_53, rfl⟩ := rows_form hv0_53
      have V0_53 := hide (Strs.mono hv0_53 fun g hg => Nat.le_trans F52.out.size hg)
      clear hv0_53
      clear he ho hR hF C53 H52 F52 HO47
      obtain ⟨z54_0, z54_1, z54_2, z54_3, z54_4, z54_5, z54_6, z54_7, z54_8, z54_9, z54_10, y54⟩ := row11 LB1_2_4_5_10_15_16_21_26_27_32_37_42_47_52_53.out
      obtain ⟨z55_0, z55_1, z55_2, z55_3, z55_4, z55_5, z55_6, z55_7, z55_8, z55_9, z55_10, y55⟩ := row11 LB4_5_10_15_16_21_26_27_32_37_42_47_52_53.out
      have x56 := NE_0_1.out
      have x57 := NE_1_0.out
      have V0_53_58 := hide (Strs.keep V0_53.out (Kp.setLoc (T := [9]) (i := 6) (v := .bool a53.neg) LB4_5_10_15_16_21_26_27_32_37_42_47_52_53.out (by decide)) (by decide))
      clear V0_53
      have LB1_2_4_5_10_15_16_21_26_27_32_37_42_47_52_53_58 := hide (loc_other (p := ⟨w2.heap.size, 6, none⟩) (v := .bool a53.neg) LB1_2_4_5_10_15_16_21_26_27_32_37_42_47_52_53.out (NE_0_1.out))
      have LB4_5_10_15_16_21_26_27_32_37_42_47_52_53_58 := hide (loc_set (i := 6) (v := .bool a53.neg) LB4_5_10_15_16_21_26_27_32_37_42_47_52_53.out)
      clear LB1_2_4_5_10_15_16_21_26_27_32_37_42_47_52_53 LB4_5_10_15_16_21_26_27_32_37_42_47_52_53
      have H58 := hide (H53.out.setLoc Q4.out 6 (.bool a53.neg))
      have F58 := hide (F53.out.setLoc G4.out 6 (.bool a53.neg))
      clear H53 F53
      have V0_53_58_59 := hide (Strs.keep V0_53_58.out (Kp.setLoc (T := [9]) (i := 7) (v := .string ⟨a53.pred.toArray⟩) LB4_5_10_15_16_21_26_27_32_37_42_47_52_53_58.out (by decide)) (by decide))
      clear V0_53_58
      have LB1_2_4_5_10_15_16_21_26_27_32_37_42_47_52_53_58_59 := hide (loc_other (p := ⟨w2.heap.size, 7, none⟩) (v := .string ⟨a53.pred.toArray⟩) LB1_2_4_5_10_15_16_21_26_27_32_37_42_47_52_53_58.out (NE_0_1.out))
      have LB4_5_10_15_16_21_26_27_32_37_42_47_52_53_58_59 := hide (loc_set (i := 7) (v := .string ⟨a53.pred.toArray⟩) LB4_5_10_15_16_21_26_27_32_37_42_47_52_53_58.out)
      clear LB1_2_4_5_10_15_16_21_26_27_32_37_42_47_52_53_58 LB4_5_10_15_16_21_26_27_32_37_42_47_52_53_58
      have H59 := hide (H58.out.setLoc Q4.out 7 (.string ⟨a53.pred.toArray⟩))
      have F59 := hide (F58.out.setLoc G4.out 7 (.string ⟨a53.pred.toArray⟩))
      clear H58 F58
      have V0_53_58_59_60 := hide (Strs.keep V0_53_58_59.out (Kp.setLoc (T := [9]) (i := 8) (v := .slice p0_53 a53.args.length r0_53) LB4_5_10_15_16_21_26_27_32_37_42_47_52_53_58_59.out (by decide)) (by decide))
      clear V0_53_58_59
      have LB1_2_4_5_10_15_16_21_26_27_32_37_42_47_52_53_58_59_60 := hide (loc_other (p := ⟨w2.heap.size, 8, none⟩) (v := .slice p0_53 a53.args.length r0_53) LB1_2_4_5_10_15_16_21_26_27_32_37_42_47_52_53_58_59.out (NE_0_1.out))
      have LB4_5_10_15_16_21_26_27_32_37_42_47_52_53_58_59_60 := hide (loc_set (i := 8) (v := .slice p0_53 a53.args.length r0_53) LB4_5_10_15_16_21_26_27_32_37_42_47_52_53_58_59.out)
      clear LB1_2_4_5_10_15_16_21_26_27_32_37_42_47_52_53_58_59 LB4_5_10_15_16_21_26_27_32_37_42_47_52_53_58_59
      have H60 := hide (H59.out.setLoc Q4.out 8 (.slice p0_53 a53.args.length r0_53))
      have F60 := hide (F59.out.setLoc G4.out 8 (.slice p0_53 a53.args.length r0_53))
      clear H59 F59
      have V0_53_58_59_60_61 := hide (Strs.keep V0_53_58_59_60.out (Kp.setLoc (T := [9]) (i := 9) (v := .bool a53.hasValue) LB4_5_10_15_16_21_26_27_32_37_42_47_52_53_58_59_60.out (by decide)) (by decide))
      clear V0_53_58_59_60
      have LB1_2_4_5_10_15_16_21_26_27_32_37_42_47_52_53_58_59_60_61 := hide (loc_other (p := ⟨w2.heap.size, 9, none⟩) (v := .bool a53.hasValue) LB1_2_4_5_10_15_16_21_26_27_32_37_42_47_52_53_58_59_60.out (NE_0_1.out))
      have LB4_5_10_15_16_21_26_27_32_37_42_47_52_53_58_59_60_61 := hide (loc_set (i := 9) (v := .bool a53.hasValue) LB4_5_10_15_16_21_26_27_32_37_42_47_52_53_58_59_60.out)
      clear LB1_2_4_5_10_15_16_21_26_27_32_37_42_47_52_53_58_59_60 LB4_5_10_15_16_21_26_27_32_37_42_47_52_53_58_59_60
      have H61 := hide (H60.out.setLoc Q4.out 9 (.bool a53.hasValue))
      have F61 := hide (F60.out.setLoc G4.out 9 (.bool a53.hasValue))
      clear H60 F60
      have V0_53_58_59_60_61_62 := hide (Strs.keep V0_53_58_59_60_61.out (Kp.setLoc (T := [9]) (i := 10) (v := .int .i64 a53.value) LB4_5_10_15_16_21_26_27_32_37_42_47_52_53_58_59_60_61.out (by decide)) (by decide))
      clear V0_53_58_59_60_61
      have LB1_2_4_5_10_15_16_21_26_27_32_37_42_47_52_53_58_59_60_61_62 := hide (loc_other (p := ⟨w2.heap.size, 10, none⟩) (v := .int .i64 a53.value) LB1_2_4_5_10_15_16_21_26_27_32_37_42_47_52_53_58_59_60_61.out (NE_0_1.out))
      have LB4_5_10_15_16_21_26_27_32_37_42_47_52_53_58_59_60_61_62 := hide (loc_set (i := 10) (v := .int .i64 a53.value) LB4_5_10_15_16_21_26_27_32_37_42_47_52_53_58_59_60_61.out)
      clear LB1_2_4_5_10_15_16_21_26_27_32_37_42_47_52_53_58_59_60_61 LB4_5_10_15_16_21_26_27_32_37_42_47_52_53_58_59_60_61
      have H62 := hide (H61.out.setLoc Q4.out 10 (.int .i64 a53.value))
      have F62 := hide (F61.out.setLoc G4.out 10 (.int .i64 a53.value))
      clear H61 F61
      go_wp2_with fail
      have hz := (And.intro z54_0 (And.intro z54_1 (And.intro z54_2 (And.intro z54_3 (And.intro z54_4 (And.intro z54_5 (And.intro z54_6 (And.intro z54_7 (And.intro z54_8 (And.intro z54_9 (And.intro z54_10 (And.intro y54 (And.intro z55_0 (And.intro z55_1 (And.intro z55_2 (And.intro z55_3 (And.intro z55_4 (And.intro z55_5 (And.intro z55_6 (And.intro z55_7 (And.intro z55_8 (And.intro z55_9 (And.intro z55_10 (And.intro y55 (And.intro x56 x57)))))))))))))))))))))))))
      simp [bodyPost, results, Tryz.results83, go_sem, hz]
      have V0_53_58_59_60_61_62_63 := hide (Strs.keep V0_53_58_59_60_61_62.out (Kp.setLoc (T := [9]) (i := 0) (v := .string ⟨a2.toArray⟩) LB1_2_4_5_10_15_16_21_26_27_32_37_42_47_52_53_58_59_60_61_62.out (by decide)) (by decide))
      clear V0_53_58_59_60_61_62
      have LB1_2_4_5_10_15_16_21_26_27_32_37_42_47_52_53_58_59_60_61_62_63 := hide (loc_set (i := 0) (v := .string ⟨a2.toArray⟩) LB1_2_4_5_10_15_16_21_26_27_32_37_42_47_52_53_58_59_60_61_62.out)
      have LB4_5_10_15_16_21_26_27_32_37_42_47_52_53_58_59_60_61_62_63 := hide (loc_other (p := ⟨w.heap.size, 0, none⟩) (v := .string ⟨a2.toArray⟩) LB4_5_10_15_16_21_26_27_32_37_42_47_52_53_58_59_60_61_62.out (NE_1_0.out))
      clear LB1_2_4_5_10_15_16_21_26_27_32_37_42_47_52_53_58_59_60_61_62 LB4_5_10_15_16_21_26_27_32_37_42_47_52_53_58_59_60_61_62
      have H63 := hide (H62.out.setLoc Q1.out 0 (.string ⟨a2.toArray⟩))
      have F63 := hide (F62.out.setLoc G1.out 0 (.string ⟨a2.toArray⟩))
      clear H62 F62
      have V0_53_58_59_60_61_62_63_64 := hide (Strs.keep V0_53_58_59_60_61_62_63.out (Kp.setLoc (T := [9]) (i := 1) (v := .string ⟨a10.toArray⟩) LB1_2_4_5_10_15_16_21_26_27_32_37_42_47_52_53_58_59_60_61_62_63.out (by decide)) (by decide))
      clear V0_53_58_59_60_61_62_63
      have LB1_2_4_5_10_15_16_21_26_27_32_37_42_47_52_53_58_59_60_61_62_63_64 := hide (loc_set (i := 1) (v := .string ⟨a10.toArray⟩) LB1_2_4_5_10_15_16_21_26_27_32_37_42_47_52_53_58_59_60_61_62_63.out)
      have LB4_5_10_15_16_21_26_27_32_37_42_47_52_53_58_59_60_61_62_63_64 := hide (loc_other (p := ⟨w.heap.size, 1, none⟩) (v := .string ⟨a10.toArray⟩) LB4_5_10_15_16_21_26_27_32_37_42_47_52_53_58_59_60_61_62_63.out (NE_1_0.out))
      clear LB1_2_4_5_10_15_16_21_26_27_32_37_42_47_52_53_58_59_60_61_62_63 LB4_5_10_15_16_21_26_27_32_37_42_47_52_53_58_59_60_61_62_63
      have H64 := hide (H63.out.setLoc Q1.out 1 (.string ⟨a10.toArray⟩))
      have F64 := hide (F63.out.setLoc G1.out 1 (.string ⟨a10.toArray⟩))
      clear H63 F63
      have V0_53_58_59_60_61_62_63_64_65 := hide (Strs.keep V0_53_58_59_60_61_62_63_64.out (Kp.setLoc (T := [9]) (i := 2) (v := .int .i64 a21) LB1_2_4_5_10_15_16_21_26_27_32_37_42_47_52_53_58_59_60_61_62_63_64.out (by decide)) (by decide))
      clear V0_53_58_59_60_61_62_63_64
      have LB1_2_4_5_10_15_16_21_26_27_32_37_42_47_52_53_58_59_60_61_62_63_64_65 := hide (loc_set (i := 2) (v := .int .i64 a21) LB1_2_4_5_10_15_16_21_26_27_32_37_42_47_52_53_58_59_60_61_62_63_64.out)
      have LB4_5_10_15_16_21_26_27_32_37_42_47_52_53_58_59_60_61_62_63_64_65 := hide (loc_other (p := ⟨w.heap.size, 2, none⟩) (v := .int .i64 a21) LB4_5_10_15_16_21_26_27_32_37_42_47_52_53_58_59_60_61_62_63_64.out (NE_1_0.out))
      clear LB1_2_4_5_10_15_16_21_26_27_32_37_42_47_52_53_58_59_60_61_62_63_64 LB4_5_10_15_16_21_26_27_32_37_42_47_52_53_58_59_60_61_62_63_64
      have H65 := hide (H64.out.setLoc Q1.out 2 (.int .i64 a21))
      have F65 := hide (F64.out.setLoc G1.out 2 (.int .i64 a21))
      clear H64 F64
      have V0_53_58_59_60_61_62_63_64_65_66 := hide (Strs.keep V0_53_58_59_60_61_62_63_64_65.out (Kp.setLoc (T := [9]) (i := 3) (v := .int .i64 0) LB1_2_4_5_10_15_16_21_26_27_32_37_42_47_52_53_58_59_60_61_62_63_64_65.out (by decide)) (by decide))
      clear V0_53_58_59_60_61_62_63_64_65
      have LB1_2_4_5_10_15_16_21_26_27_32_37_42_47_52_53_58_59_60_61_62_63_64_65_66 := hide (loc_set (i := 3) (v := .int .i64 0) LB1_2_4_5_10_15_16_21_26_27_32_37_42_47_52_53_58_59_60_61_62_63_64_65.out)
      have LB4_5_10_15_16_21_26_27_32_37_42_47_52_53_58_59_60_61_62_63_64_65_66 := hide (loc_other (p := ⟨w.heap.size, 3, none⟩) (v := .int .i64 0) LB4_5_10_15_16_21_26_27_32_37_42_47_52_53_58_59_60_61_62_63_64_65.out (NE_1_0.out))
      clear LB1_2_4_5_10_15_16_21_26_27_32_37_42_47_52_53_58_59_60_61_62_63_64_65 LB4_5_10_15_16_21_26_27_32_37_42_47_52_53_58_59_60_61_62_63_64_65
      have H66 := hide (H65.out.setLoc Q1.out 3 (.int .i64 0))
      have F66 := hide (F65.out.setLoc G1.out 3 (.int .i64 0))
      clear H65 F65
      have V0_53_58_59_60_61_62_63_64_65_66_67 := hide (Strs.keep V0_53_58_59_60_61_62_63_64_65_66.out (Kp.setLoc (T := [9]) (i := 4) (v := .slice none 0 0) LB1_2_4_5_10_15_16_21_26_27_32_37_42_47_52_53_58_59_60_61_62_63_64_65_66.out (by decide)) (by decide))
      clear V0_53_58_59_60_61_62_63_64_65_66
      have LB1_2_4_5_10_15_16_21_26_27_32_37_42_47_52_53_58_59_60_61_62_63_64_65_66_67 := hide (loc_set (i := 4) (v := .slice none 0 0) LB1_2_4_5_10_15_16_21_26_27_32_37_42_47_52_53_58_59_60_61_62_63_64_65_66.out)
      have LB4_5_10_15_16_21_26_27_32_37_42_47_52_53_58_59_60_61_62_63_64_65_66_67 := hide (loc_other (p := ⟨w.heap.size, 4, none⟩) (v := .slice none 0 0) LB4_5_10_15_16_21_26_27_32_37_42_47_52_53_58_59_60_61_62_63_64_65_66.out (NE_1_0.out))
      clear LB1_2_4_5_10_15_16_21_26_27_32_37_42_47_52_53_58_59_60_61_62_63_64_65_66 LB4_5_10_15_16_21_26_27_32_37_42_47_52_53_58_59_60_61_62_63_64_65_66
      have H67 := hide (H66.out.setLoc Q1.out 4 (.slice none 0 0))
      have F67 := hide (F66.out.setLoc G1.out 4 (.slice none 0 0))
      clear H66 F66
      have V0_53_58_59_60_61_62_63_64_65_66_67_68 := hide (Strs.keep V0_53_58_59_60_61_62_63_64_65_66_67.out (Kp.setLoc (T := [9]) (i := 5) (v := .int .i64 a47) LB1_2_4_5_10_15_16_21_26_27_32_37_42_47_52_53_58_59_60_61_62_63_64_65_66_67.out (by decide)) (by decide))
      clear V0_53_58_59_60_61_62_63_64_65_66_67
      have LB1_2_4_5_10_15_16_21_26_27_32_37_42_47_52_53_58_59_60_61_62_63_64_65_66_67_68 := hide (loc_set (i := 5) (v := .int .i64 a47) LB1_2_4_5_10_15_16_21_26_27_32_37_42_47_52_53_58_59_60_61_62_63_64_65_66_67.out)
      have LB4_5_10_15_16_21_26_27_32_37_42_47_52_53_58_59_60_61_62_63_64_65_66_67_68 := hide (loc_other (p := ⟨w.heap.size, 5, none⟩) (v := .int .i64 a47) LB4_5_10_15_16_21_26_27_32_37_42_47_52_53_58_59_60_61_62_63_64_65_66_67.out (NE_1_0.out))
      clear LB1_2_4_5_10_15_16_21_26_27_32_37_42_47_52_53_58_59_60_61_62_63_64_65_66_67 LB4_5_10_15_16_21_26_27_32_37_42_47_52_53_58_59_60_61_62_63_64_65_66_67
      have H68 := hide (H67.out.setLoc Q1.out 5 (.int .i64 a47))
      have F68 := hide (F67.out.setLoc G1.out 5 (.int .i64 a47))
      clear H67 F67
      have V0_53_58_59_60_61_62_63_64_65_66_67_68_69 := hide (Strs.keep V0_53_58_59_60_61_62_63_64_65_66_67_68.out (Kp.setLoc (T := [9]) (i := 6) (v := .bool a53.neg) LB1_2_4_5_10_15_16_21_26_27_32_37_42_47_52_53_58_59_60_61_62_63_64_65_66_67_68.out (by decide)) (by decide))
      clear V0_53_58_59_60_61_62_63_64_65_66_67_68
      have LB1_2_4_5_10_15_16_21_26_27_32_37_42_47_52_53_58_59_60_61_62_63_64_65_66_67_68_69 := hide (loc_set (i := 6) (v := .bool a53.neg) LB1_2_4_5_10_15_16_21_26_27_32_37_42_47_52_53_58_59_60_61_62_63_64_65_66_67_68.out)
      have LB4_5_10_15_16_21_26_27_32_37_42_47_52_53_58_59_60_61_62_63_64_65_66_67_68_69 := hide (loc_other (p := ⟨w.heap.size, 6, none⟩) (v := .bool a53.neg) LB4_5_10_15_16_21_26_27_32_37_42_47_52_53_58_59_60_61_62_63_64_65_66_67_68.out (NE_1_0.out))
      clear LB1_2_4_5_10_15_16_21_26_27_32_37_42_47_52_53_58_59_60_61_62_63_64_65_66_67_68 LB4_5_10_15_16_21_26_27_32_37_42_47_52_53_58_59_60_61_62_63_64_65_66_67_68
      have H69 := hide (H68.out.setLoc Q1.out 6 (.bool a53.neg))
      have F69 := hide (F68.out.setLoc G1.out 6 (.bool a53.neg))
      clear H68 F68
      have V0_53_58_59_60_61_62_63_64_65_66_67_68_69_70 := hide (Strs.keep V0_53_58_59_60_61_62_63_64_65_66_67_68_69.out (Kp.setLoc (T := [9]) (i := 7) (v := .string ⟨a53.pred.toArray⟩) LB1_2_4_5_10_15_16_21_26_27_32_37_42_47_52_53_58_59_60_61_62_63_64_65_66_67_68_69.out (by decide)) (by decide))
      clear V0_53_58_59_60_61_62_63_64_65_66_67_68_69
      have LB1_2_4_5_10_15_16_21_26_27_32_37_42_47_52_53_58_59_60_61_62_63_64_65_66_67_68_69_70 := hide (loc_set (i := 7) (v := .string ⟨a53.pred.toArray⟩) LB1_2_4_5_10_15_16_21_26_27_32_37_42_47_52_53_58_59_60_61_62_63_64_65_66_67_68_69.out)
      have LB4_5_10_15_16_21_26_27_32_37_42_47_52_53_58_59_60_61_62_63_64_65_66_67_68_69_70 := hide (loc_other (p := ⟨w.heap.size, 7, none⟩) (v := .string ⟨a53.pred.toArray⟩) LB4_5_10_15_16_21_26_27_32_37_42_47_52_53_58_59_60_61_62_63_64_65_66_67_68_69.out (NE_1_0.out))
      clear LB1_2_4_5_10_15_16_21_26_27_32_37_42_47_52_53_58_59_60_61_62_63_64_65_66_67_68_69 LB4_5_10_15_16_21_26_27_32_37_42_47_52_53_58_59_60_61_62_63_64_65_66_67_68_69
      have H70 := hide (H69.out.setLoc Q1.out 7 (.string ⟨a53.pred.toArray⟩))
      have F70 := hide (F69.out.setLoc G1.out 7 (.string ⟨a53.pred.toArray⟩))
      clear H69 F69
      have V0_53_58_59_60_61_62_63_64_65_66_67_68_69_70_71 := hide (Strs.keep V0_53_58_59_60_61_62_63_64_65_66_67_68_69_70.out (Kp.setLoc (T := [9]) (i := 8) (v := .slice p0_53 a53.args.length r0_53) LB1_2_4_5_10_15_16_21_26_27_32_37_42_47_52_53_58_59_60_61_62_63_64_65_66_67_68_69_70.out (by decide)) (by decide))
      clear V0_53_58_59_60_61_62_63_64_65_66_67_68_69_70
      have LB1_2_4_5_10_15_16_21_26_27_32_37_42_47_52_53_58_59_60_61_62_63_64_65_66_67_68_69_70_71 := hide (loc_set (i := 8) (v := .slice p0_53 a53.args.length r0_53) LB1_2_4_5_10_15_16_21_26_27_32_37_42_47_52_53_58_59_60_61_62_63_64_65_66_67_68_69_70.out)
      have LB4_5_10_15_16_21_26_27_32_37_42_47_52_53_58_59_60_61_62_63_64_65_66_67_68_69_70_71 := hide (loc_other (p := ⟨w.heap.size, 8, none⟩) (v := .slice p0_53 a53.args.length r0_53) LB4_5_10_15_16_21_26_27_32_37_42_47_52_53_58_59_60_61_62_63_64_65_66_67_68_69_70.out (NE_1_0.out))
      clear LB1_2_4_5_10_15_16_21_26_27_32_37_42_47_52_53_58_59_60_61_62_63_64_65_66_67_68_69_70 LB4_5_10_15_16_21_26_27_32_37_42_47_52_53_58_59_60_61_62_63_64_65_66_67_68_69_70
      have H71 := hide (H70.out.setLoc Q1.out 8 (.slice p0_53 a53.args.length r0_53))
      have F71 := hide (F70.out.setLoc G1.out 8 (.slice p0_53 a53.args.length r0_53))
      clear H70 F70
      have V0_53_58_59_60_61_62_63_64_65_66_67_68_69_70_71_72 := hide (Strs.keep V0_53_58_59_60_61_62_63_64_65_66_67_68_69_70_71.out (Kp.setLoc (T := [9]) (i := 9) (v := .bool a53.hasValue) LB1_2_4_5_10_15_16_21_26_27_32_37_42_47_52_53_58_59_60_61_62_63_64_65_66_67_68_69_70_71.out (by decide)) (by decide))
      clear V0_53_58_59_60_61_62_63_64_65_66_67_68_69_70_71
      have LB1_2_4_5_10_15_16_21_26_27_32_37_42_47_52_53_58_59_60_61_62_63_64_65_66_67_68_69_70_71_72 := hide (loc_set (i := 9) (v := .bool a53.hasValue) LB1_2_4_5_10_15_16_21_26_27_32_37_42_47_52_53_58_59_60_61_62_63_64_65_66_67_68_69_70_71.out)
      have LB4_5_10_15_16_21_26_27_32_37_42_47_52_53_58_59_60_61_62_63_64_65_66_67_68_69_70_71_72 := hide (loc_other (p := ⟨w.heap.size, 9, none⟩) (v := .bool a53.hasValue) LB4_5_10_15_16_21_26_27_32_37_42_47_52_53_58_59_60_61_62_63_64_65_66_67_68_69_70_71.out (NE_1_0.out))
      clear LB1_2_4_5_10_15_16_21_26_27_32_37_42_47_52_53_58_59_60_61_62_63_64_65_66_67_68_69_70_71 LB4_5_10_15_16_21_26_27_32_37_42_47_52_53_58_59_60_61_62_63_64_65_66_67_68_69_70_71
      have H72 := hide (H71.out.setLoc Q1.out 9 (.bool a53.hasValue))
      have F72 := hide (F71.out.setLoc G1.out 9 (.bool a53.hasValue))
      clear H71 F71
      have V0_53_58_59_60_61_62_63_64_65_66_67_68_69_70_71_72_73 := hide (Strs.keep V0_53_58_59_60_61_62_63_64_65_66_67_68_69_70_71_72.out (Kp.setLoc (T := [9]) (i := 10) (v := .int .i64 a53.value) LB1_2_4_5_10_15_16_21_26_27_32_37_42_47_52_53_58_59_60_61_62_63_64_65_66_67_68_69_70_71_72.out (by decide)) (by decide))
      clear V0_53_58_59_60_61_62_63_64_65_66_67_68_69_70_71_72
      have LB1_2_4_5_10_15_16_21_26_27_32_37_42_47_52_53_58_59_60_61_62_63_64_65_66_67_68_69_70_71_72_73 := hide (loc_set (i := 10) (v := .int .i64 a53.value) LB1_2_4_5_10_15_16_21_26_27_32_37_42_47_52_53_58_59_60_61_62_63_64_65_66_67_68_69_70_71_72.out)
      have LB4_5_10_15_16_21_26_27_32_37_42_47_52_53_58_59_60_61_62_63_64_65_66_67_68_69_70_71_72_73 := hide (loc_other (p := ⟨w.heap.size, 10, none⟩) (v := .int .i64 a53.value) LB4_5_10_15_16_21_26_27_32_37_42_47_52_53_58_59_60_61_62_63_64_65_66_67_68_69_70_71_72.out (NE_1_0.out))
      clear LB1_2_4_5_10_15_16_21_26_27_32_37_42_47_52_53_58_59_60_61_62_63_64_65_66_67_68_69_70_71_72 LB4_5_10_15_16_21_26_27_32_37_42_47_52_53_58_59_60_61_62_63_64_65_66_67_68_69_70_71_72
      have H73 := hide (H72.out.setLoc Q1.out 10 (.int .i64 a53.value))
      have F73 := hide (F72.out.setLoc G1.out 10 (.int .i64 a53.value))
      clear H72 F72
      exact .of_ok HO53.out (⟨_, _, rfl, Rows.nil _ _ _ _ _, V0_53_58_59_60_61_62_63_64_65_66_67_68_69_70_71_72_73.out⟩) H73.out F73.out
    | true =>
      have HOc := hide (bind_t HOb.out har)
      have hr' : arrowAt (kt L) s32.n = 0 := by simpa using har
      rw [hr'] at CO
      clear HOb har hr'
      go_wp2_with fail
      refine (CA0.out _ H32.out).mono ?_
      rintro _ w74 ⟨rfl, hb⟩
      clear z33_0 z33_1 z33_2 z33_3 z33_4 z33_5 z33_6 z33_7 z33_8 z33_9 z33_10 y33 z34_0 z34_1 z34_2 z34_3 z34_4 z34_5 z34_6 z34_7 z34_8 z34_9 z34_10 y34 x35 x36
      have LB1_2_4_5_10_15_16_21_26_27_32_74 := hide ((hb.block _ (loc_lt LB1_2_4_5_10_15_16_21_26_27_32.out)).trans LB1_2_4_5_10_15_16_21_26_27_32.out)
      clear LB1_2_4_5_10_15_16_21_26_27_32
      have LB4_5_10_15_16_21_26_27_32_74 := hide ((hb.block _ (loc_lt LB4_5_10_15_16_21_26_27_32.out)).trans LB4_5_10_15_16_21_26_27_32.out)
      clear LB4_5_10_15_16_21_26_27_32
      have H74 := hide (H32.out.below hb)
      have F74 := hide (F32.out.trans (Fq.of_below hb))
      clear hb H32 F32
      obtain ⟨z75_0, z75_1, z75_2, z75_3, z75_4, z75_5, z75_6, z75_7, z75_8, z75_9, z75_10, y75⟩ := row11 LB1_2_4_5_10_15_16_21_26_27_32_74.out
      obtain ⟨z76_0, z76_1, z76_2, z76_3, z76_4, z76_5, z76_6, z76_7, z76_8, z76_9, z76_10, y76⟩ := row11 LB4_5_10_15_16_21_26_27_32_74.out
      have x77 := NE_0_1.out
      have x78 := NE_1_0.out
      go_wp2_with fail
      refine (CO.out _).mono ?_
      rintro _ w79 ⟨rfl, hb⟩
      clear z75_0 z75_1 z75_2 z75_3 z75_4 z75_5 z75_6 z75_7 z75_8 z75_9 z75_10 y75 z76_0 z76_1 z76_2 z76_3 z76_4 z76_5 z76_6 z76_7 z76_8 z76_9 z76_10 y76 x77 x78
      have LB1_2_4_5_10_15_16_21_26_27_32_74_79 := hide ((hb.block _ (loc_lt LB1_2_4_5_10_15_16_21_26_27_32_74.out)).trans LB1_2_4_5_10_15_16_21_26_27_32_74.out)
      clear LB1_2_4_5_10_15_16_21_26_27_32_74
      have LB4_5_10_15_16_21_26_27_32_74_79 := hide ((hb.block _ (loc_lt LB4_5_10_15_16_21_26_27_32_74.out)).trans LB4_5_10_15_16_21_26_27_32_74.out)
      clear LB4_5_10_15_16_21_26_27_32_74
      have H79 := hide (H74.out.below hb)
      have F79 := hide (F74.out.trans (Fq.of_below hb))
      clear hb H74 F74
      obtain ⟨z80_0, z80_1, z80_2, z80_3, z80_4, z80_5, z80_6, z80_7, z80_8, z80_9, z80_10, y80⟩ := row11 LB1_2_4_5_10_15_16_21_26_27_32_74_79.out
      obtain ⟨z81_0, z81_1, z81_2, z81_3, z81_4, z81_5, z81_6, z81_7, z81_8, z81_9, z81_10, y81⟩ := row11 LB4_5_10_15_16_21_26_27_32_74_79.out
      have x82 := NE_0_1.out
      have x83 := NE_1_0.out
      have C84 := hide (list_prem_prem R L N s32 st _ (premiseM FN (kt L)) (fun s w h => premise_any R L N s st w h _ rfl) (commaM (kt L)) (fun s w h => comma_any R L N s st w h _ rfl) (fun s a u => eats_premise FN _ s a u) (fun s u => hasMark_eats) 16 H79.out _ rfl)
      go_wp2_with fail
      refine C84.out.mono ?_
      intro e w84 he
      rcases he.split with ⟨a84, s84, v84, ho, rfl, hv, hR, hF⟩ | ⟨c, m, ho, rfl, hF⟩
      rotate_left 1
      · exact on_panic rfl (.of_bad (bind_no HOc.out ho) (F79.out.trans hF))
      clear z80_0 z80_1 z80_2 z80_3 z80_4 z80_5 z80_6 z80_7 z80_8 z80_9 z80_10 y80 z81_0 z81_1 z81_2 z81_3 z81_4 z81_5 z81_6 z81_7 z81_8 z81_9 z81_10 y81 x82 x83
      have HO84 := hide (bind_go HOc.out ho)
      have LB1_2_4_5_10_15_16_21_26_27_32_74_79_84 := hide (hF.loc LB1_2_4_5_10_15_16_21_26_27_32_74_79.out (Nat.ne_of_gt Q1.out))
      clear LB1_2_4_5_10_15_16_21_26_27_32_74_79
      have LB4_5_10_15_16_21_26_27_32_74_79_84 := hide (hF.loc LB4_5_10_15_16_21_26_27_32_74_79.out (Nat.ne_of_gt Q4.out))
      clear LB4_5_10_15_16_21_26_27_32_74_79
      have H84 := hide hR
      have F84 := hide (F79.out.trans hF)
      obtain ⟨p84, r84, rfl⟩ := rows_form hv
      have V84 := hide (Prems.mono hv fun g hg => Nat.le_trans F79.out.size hg)
      clear hv
      clear he ho hR hF C84 H79 F79 HOc
      obtain ⟨z85_0, z85_1, z85_2, z85_3, z85_4, z85_5, z85_6, z85_7, z85_8, z85_9, z85_10, y85⟩ := row11 LB1_2_4_5_10_15_16_21_26_27_32_74_79_84.out
      obtain ⟨z86_0, z86_1, z86_2, z86_3, z86_4, z86_5, z86_6, z86_7, z86_8, z86_9, z86_10, y86⟩ := row11 LB4_5_10_15_16_21_26_27_32_74_79_84.out
      have x87 := NE_0_1.out
      have x88 := NE_1_0.out
      have V84_89 := hide (Prems.keep V84.out (Kp.setLoc (T := inner) (i := 4) (v := .slice p84 a84.length r84) LB4_5_10_15_16_21_26_27_32_74_79_84.out (by decide)))
      clear V84
      have LB1_2_4_5_10_15_16_21_26_27_32_74_79_84_89 := hide (loc_other (p := ⟨w2.heap.size, 4, none⟩) (v := .slice p84 a84.length r84) LB1_2_4_5_10_15_16_21_26_27_32_74_79_84.out (NE_0_1.out))
      have LB4_5_10_15_16_21_26_27_32_74_79_84_89 := hide (loc_set (i := 4) (v := .slice p84 a84.length r84) LB4_5_10_15_16_21_26_27_32_74_79_84.out)
      clear LB1_2_4_5_10_15_16_21_26_27_32_74_79_84 LB4_5_10_15_16_21_26_27_32_74_79_84
      have H89 := hide (H84.out.setLoc Q4.out 4 (.slice p84 a84.length r84))
      have F89 := hide (F84.out.setLoc G4.out 4 (.slice p84 a84.length r84))
      clear H84 F84
      have C90 := hide (arrow_any R L N s84 st _ H89.out _ rfl)
      go_wp2_with fail
      refine C90.out.mono ?_
      intro e w90 he
      rcases he.split with ⟨a90, s90, v90, ho, rfl, hv, hR, hF⟩ | ⟨c, m, ho, rfl, hF⟩
      rotate_left 1
      · exact on_panic rfl (.of_bad (bind_no HO84.out ho) (F89.out.trans hF))
      clear z85_0 z85_1 z85_2 z85_3 z85_4 z85_5 z85_6 z85_7 z85_8 z85_9 z85_10 y85 z86_0 z86_1 z86_2 z86_3 z86_4 z86_5 z86_6 z86_7 z86_8 z86_9 z86_10 y86 x87 x88
      have HO90 := hide (bind_go HO84.out ho)
      have LB1_2_4_5_10_15_16_21_26_27_32_74_79_84_89_90 := hide (hF.loc LB1_2_4_5_10_15_16_21_26_27_32_74_79_84_89.out (Nat.ne_of_gt Q1.out))
      clear LB1_2_4_5_10_15_16_21_26_27_32_74_79_84_89
      have LB4_5_10_15_16_21_26_27_32_74_79_84_89_90 := hide (hF.loc LB4_5_10_15_16_21_26_27_32_74_79_84_89.out (Nat.ne_of_gt Q4.out))
      clear LB4_5_10_15_16_21_26_27_32_74_79_84_89
      have V84_89_90 := hide (Prems.keep V84_89.out (Kp.of_fq (T := inner) hF H89.out (by decide)))
      clear V84_89
      have H90 := hide hR
      have F90 := hide (F89.out.trans hF)
      cases hv
      clear he ho hR hF C90 H89 F89 HO84
      obtain ⟨z91_0, z91_1, z91_2, z91_3, z91_4, z91_5, z91_6, z91_7, z91_8, z91_9, z91_10, y91⟩ := row11 LB1_2_4_5_10_15_16_21_26_27_32_74_79_84_89_90.out
      obtain ⟨z92_0, z92_1, z92_2, z92_3, z92_4, z92_5, z92_6, z92_7, z92_8, z92_9, z92_10, y92⟩ := row11 LB4_5_10_15_16_21_26_27_32_74_79_84_89_90.out
      have x93 := NE_0_1.out
      have x94 := NE_1_0.out
      have V84_89_90_95 := hide (Prems.keep V84_89_90.out (Kp.setLoc (T := inner) (i := 5) (v := .int .i64 a90) LB4_5_10_15_16_21_26_27_32_74_79_84_89_90.out (by decide)))
      clear V84_89_90
      have LB1_2_4_5_10_15_16_21_26_27_32_74_79_84_89_90_95 := hide (loc_other (p := ⟨w2.heap.size, 5, none⟩) (v := .int .i64 a90) LB1_2_4_5_10_15_16_21_26_27_32_74_79_84_89_90.out (NE_0_1.out))
      have LB4_5_10_15_16_21_26_27_32_74_79_84_89_90_95 := hide (loc_set (i := 5) (v := .int .i64 a90) LB4_5_10_15_16_21_26_27_32_74_79_84_89_90.out)
      clear LB1_2_4_5_10_15_16_21_26_27_32_74_79_84_89_90 LB4_5_10_15_16_21_26_27_32_74_79_84_89_90
      have H95 := hide (H90.out.setLoc Q4.out 5 (.int .i64 a90))
      have F95 := hide (F90.out.setLoc G4.out 5 (.int .i64 a90))
      clear H90 F90
      have C96 := hide (literal_any R L N s90 st _ H95.out _ rfl)
      go_wp2_with fail
      refine C96.out.mono ?_
      intro e w96 he
      rcases he.split with ⟨a96, s96, v96, ho, rfl, hv, hR, hF⟩ | ⟨c, m, ho, rfl, hF⟩
      rotate_left 1
      · exact on_panic rfl (.of_bad (bind_no HO90.out ho) (F95.out.trans hF))
      clear z91_0 z91_1 z91_2 z91_3 z91_4 z91_5 z91_6 z91_7 z91_8 z91_9 z91_10 y91 z92_0 z92_1 z92_2 z92_3 z92_4 z92_5 z92_6 z92_7 z92_8 z92_9 z92_10 y92 x93 x94
      have HO96 := hide (bind_go HO90.out ho)
      have LB1_2_4_5_10_15_16_21_26_27_32_74_79_84_89_90_95_96 := hide (hF.loc LB1_2_4_5_10_15_16_21_26_27_32_74_79_84_89_90_95.out (Nat.ne_of_gt Q1.out))
      clear LB1_2_4_5_10_15_16_21_26_27_32_74_79_84_89_90_95
      have LB4_5_10_15_16_21_26_27_32_74_79_84_89_90_95_96 := hide (hF.loc LB4_5_10_15_16_21_26_27_32_74_79_84_89_90_95.out (Nat.ne_of_gt Q4.out))
      clear LB4_5_10_15_16_21_26_27_32_74_79_84_89_90_95
      have V84_89_90_95_96 := hide (Prems.keep V84_89_90_95.out (Kp.of_fq (T := inner) hF H95.out (by decide)))
      clear V84_89_90_95
      have H96 := hide hR
      have F96 := hide (F95.out.trans hF)
      obtain ⟨av96, rfl, hv0_96⟩ := hv
      obtain ⟨p0_96, r0_96, rfl⟩ := rows_form hv0_96
      have V0_96 := hide (Strs.mono hv0_96 fun g hg => Nat.le_trans F95.out.size hg)
      clear hv0_96
      clear he ho hR hF C96 H95 F95 HO90
      obtain ⟨z97_0, z97_1, z97_2, z97_3, z97_4, z97_5, z97_6, z97_7, z97_8, z97_9, z97_10, y97⟩ := row11 LB1_2_4_5_10_15_16_21_26_27_32_74_79_84_89_90_95_96.out
      obtain ⟨z98_0, z98_1, z98_2, z98_3, z98_4, z98_5, z98_6, z98_7, z98_8, z98_9, z98_10, y98⟩ := row11 LB4_5_10_15_16_21_26_27_32_74_79_84_89_90_95_96.out
      have x99 := NE_0_1.out
      have x100 := NE_1_0.out
      have V84_89_90_95_96_101 := hide (Prems.keep V84_89_90_95_96.out (Kp.setLoc (T := inner) (i := 6) (v := .bool a96.neg) LB4_5_10_15_16_21_26_27_32_74_79_84_89_90_95_96.out (by decide)))
      clear V84_89_90_95_96
      have V0_96_101 := hide (Strs.keep V0_96.out (Kp.setLoc (T := [9]) (i := 6) (v := .bool a96.neg) LB4_5_10_15_16_21_26_27_32_74_79_84_89_90_95_96.out (by decide)) (by decide))
      clear V0_96
      have LB1_2_4_5_10_15_16_21_26_27_32_74_79_84_89_90_95_96_101 := hide (loc_other (p := ⟨w2.heap.size, 6, none⟩) (v := .bool a96.neg) LB1_2_4_5_10_15_16_21_26_27_32_74_79_84_89_90_95_96.out (NE_0_1.out))
      have LB4_5_10_15_16_21_26_27_32_74_79_84_89_90_95_96_101 := hide (loc_set (i := 6) (v := .bool a96.neg) LB4_5_10_15_16_21_26_27_32_74_79_84_89_90_95_96.out)
      clear LB1_2_4_5_10_15_16_21_26_27_32_74_79_84_89_90_95_96 LB4_5_10_15_16_21_26_27_32_74_79_84_89_90_95_96
      have H101 := hide (H96.out.setLoc Q4.out 6 (.bool a96.neg))
      have F101 := hide (F96.out.setLoc G4.out 6 (.bool a96.neg))
      clear H96 F96
      have V84_89_90_95_96_101_102 := hide (Prems.keep V84_89_90_95_96_101.out (Kp.setLoc (T := inner) (i := 7) (v := .string ⟨a96.pred.toArray⟩) LB4_5_10_15_16_21_26_27_32_74_79_84_89_90_95_96_101.out (by decide)))
      clear V84_89_90_95_96_101
      have V0_96_101_102 := hide (Strs.keep V0_96_101.out (Kp.setLoc (T := [9]) (i := 7) (v := .string ⟨a96.pred.toArray⟩) LB4_5_10_15_16_21_26_27_32_74_79_84_89_90_95_96_101.out (by decide)) (by decide))
      clear V0_96_101
      have LB1_2_4_5_10_15_16_21_26_27_32_74_79_84_89_90_95_96_101_102 := hide (loc_other (p := ⟨w2.heap.size, 7, none⟩) (v := .string ⟨a96.pred.toArray⟩) LB1_2_4_5_10_15_16_21_26_27_32_74_79_84_89_90_95_96_101.out (NE_0_1.out))
      have LB4_5_10_15_16_21_26_27_32_74_79_84_89_90_95_96_101_102 := hide (loc_set (i := 7) (v := .string ⟨a96.pred.toArray⟩) LB4_5_10_15_16_21_26_27_32_74_79_84_89_90_95_96_101.out)
      clear LB1_2_4_5_10_15_16_21_26_27_32_74_79_84_89_90_95_96_101 LB4_5_10_15_16_21_26_27_32_74_79_84_89_90_95_96_101
      have H102 := hide (H101.out.setLoc Q4.out 7 (.string ⟨a96.pred.toArray⟩))
      have F102 := hide (F101.out.setLoc G4.out 7 (.string ⟨a96.pred.toArray⟩))
      clear H101 F101
      have V84_89_90_95_96_101_102_103 := hide (Prems.keep V84_89_90_95_96_101_102.out (Kp.setLoc (T := inner) (i := 8) (v := .slice p0_96 a96.args.length r0_96) LB4_5_10_15_16_21_26_27_32_74_79_84_89_90_95_96_101_102.out (by decide)))
      clear V84_89_90_95_96_101_102
      have V0_96_101_102_103 := hide (Strs.keep V0_96_101_102.out (Kp.setLoc (T := [9]) (i := 8) (v := .slice p0_96 a96.args.length r0_96) LB4_5_10_15_16_21_26_27_32_74_79_84_89_90_95_96_101_102.out (by decide)) (by decide))
      clear V0_96_101_102
      have LB1_2_4_5_10_15_16_21_26_27_32_74_79_84_89_90_95_96_101_102_103 := hide (loc_other (p := ⟨w2.heap.size, 8, none⟩) (v := .slice p0_96 a96.args.length r0_96) LB1_2_4_5_10_15_16_21_26_27_32_74_79_84_89_90_95_96_101_102.out (NE_0_1.out))
      have LB4_5_10_15_16_21_26_27_32_74_79_84_89_90_95_96_101_102_103 := hide (loc_set (i := 8) (v := .slice p0_96 a96.args.length r0_96) LB4_5_10_15_16_21_26_27_32_74_79_84_89_90_95_96_101_102.out)
      clear LB1_2_4_5_10_15_16_21_26_27_32_74_79_84_89_90_95_96_101_102 LB4_5_10_15_16_21_26_27_32_74_79_84_89_90_95_96_101_102
      have H103 := hide (H102.out.setLoc Q4.out 8 (.slice p0_96 a96.args.length r0_96))
      have F103 := hide (F102.out.setLoc G4.out 8 (.slice p0_96 a96.args.length r0_96))
      clear H102 F102
      have V84_89_90_95_96_101_102_103_104 := hide (Prems.keep V84_89_90_95_96_101_102_103.out (Kp.setLoc (T := inner) (i := 9) (v := .bool a96.hasValue) LB4_5_10_15_16_21_26_27_32_74_79_84_89_90_95_96_101_102_103.out (by decide)))
      clear V84_89_90_95_96_101_102_103
      have V0_96_101_102_103_104 := hide (Strs.keep V0_96_101_102_103.out (Kp.setLoc (T := [9]) (i := 9) (v := .bool a96.hasValue) LB4_5_10_15_16_21_26_27_32_74_79_84_89_90_95_96_101_102_103.out (by decide)) (by decide))
      clear V0_96_101_102_103
      have LB1_2_4_5_10_15_16_21_26_27_32_74_79_84_89_90_95_96_101_102_103_104 := hide (loc_other (p := ⟨w2.heap.size, 9, none⟩) (v := .bool a96.hasValue) LB1_2_4_5_10_15_16_21_26_27_32_74_79_84_89_90_95_96_101_102_103.out (NE_0_1.out))
      have LB4_5_10_15_16_21_26_27_32_74_79_84_89_90_95_96_101_102_103_104 := hide (loc_set (i := 9) (v := .bool a96.hasValue) LB4_5_10_15_16_21_26_27_32_74_79_84_89_90_95_96_101_102_103.out)
      clear LB1_2_4_5_10_15_16_21_26_27_32_74_79_84_89_90_95_96_101_102_103 LB4_5_10_15_16_21_26_27_32_74_79_84_89_90_95_96_101_102_103
      have H104 := hide (H103.out.setLoc Q4.out 9 (.bool a96.hasValue))
      have F104 := hide (F103.out.setLoc G4.out 9 (.bool a96.hasValue))
      clear H103 F103
      have V84_89_90_95_96_101_102_103_104_105 := hide (Prems.keep V84_89_90_95_96_101_102_103_104.out (Kp.setLoc (T := inner) (i := 10) (v := .int .i64 a96.value) LB4_5_10_15_16_21_26_27_32_74_79_84_89_90_95_96_101_102_103_104.out (by decide)))
      clear V84_89_90_95_96_101_102_103_104
      have V0_96_101_102_103_104_105 := hide (Strs.keep V0_96_101_102_103_104.out (Kp.setLoc (T := [9]) (i := 10) (v := .int .i64 a96.value) LB4_5_10_15_16_21_26_27_32_74_79_84_89_90_95_96_101_102_103_104.out (by decide)) (by decide))
      clear V0_96_101_102_103_104
      have LB1_2_4_5_10_15_16_21_26_27_32_74_79_84_89_90_95_96_101_102_103_104_105 := hide (loc_other (p := ⟨w2.heap.size, 10, none⟩) (v := .int .i64 a96.value) LB1_2_4_5_10_15_16_21_26_27_32_74_79_84_89_90_95_96_101_102_103_104.out (NE_0_1.out))
      have LB4_5_10_15_16_21_26_27_32_74_79_84_89_90_95_96_101_102_103_104_105 := hide (loc_set (i := 10) (v := .int .i64 a96.value) LB4_5_10_15_16_21_26_27_32_74_79_84_89_90_95_96_101_102_103_104.out)
      clear LB1_2_4_5_10_15_16_21_26_27_32_74_79_84_89_90_95_96_101_102_103_104 LB4_5_10_15_16_21_26_27_32_74_79_84_89_90_95_96_101_102_103_104
      have H105 := hide (H104.out.setLoc Q4.out 10 (.int .i64 a96.value))
      have F105 := hide (F104.out.setLoc G4.out 10 (.int .i64 a96.value))
      clear H104 F104
      go_wp2_with fail
      have hz := (And.intro z97_0 (And.intro z97_1 (And.intro z97_2 (And.intro z97_3 (And.intro z97_4 (And.intro z97_5 (And.intro z97_6 (And.intro z97_7 (And.intro z97_8 (And.intro z97_9 (And.intro z97_10 (And.intro y97 (And.intro z98_0 (And.intro z98_1 (And.intro z98_2 (And.intro z98_3 (And.intro z98_4 (And.intro z98_5 (And.intro z98_6 (And.intro z98_7 (And.intro z98_8 (And.intro z98_9 (And.intro z98_10 (And.intro y98 (And.intro x99 x100)))))))))))))))))))))))))
      simp [bodyPost, results, Tryz.results83, go_sem, hz]
      have V84_89_90_95_96_101_102_103_104_105_106 := hide (Prems.keep V84_89_90_95_96_101_102_103_104_105.out (Kp.setLoc (T := inner) (i := 0) (v := .string ⟨a2.toArray⟩) LB1_2_4_5_10_15_16_21_26_27_32_74_79_84_89_90_95_96_101_102_103_104_105.out (by decide)))
      clear V84_89_90_95_96_101_102_103_104_105
      have V0_96_101_102_103_104_105_106 := hide (Strs.keep V0_96_101_102_103_104_105.out (Kp.setLoc (T := [9]) (i := 0) (v := .string ⟨a2.toArray⟩) LB1_2_4_5_10_15_16_21_26_27_32_74_79_84_89_90_95_96_101_102_103_104_105.out (by decide)) (by decide))
      clear V0_96_101_102_103_104_105
      have LB1_2_4_5_10_15_16_21_26_27_32_74_79_84_89_90_95_96_101_102_103_104_105_106 := hide (loc_set (i := 0) (v := .string ⟨a2.toArray⟩) LB1_2_4_5_10_15_16_21_26_27_32_74_79_84_89_90_95_96_101_102_103_104_105.out)
      have LB4_5_10_15_16_21_26_27_32_74_79_84_89_90_95_96_101_102_103_104_105_106 := hide (loc_other (p := ⟨w.heap.size, 0, none⟩) (v := .string ⟨a2.toArray⟩) LB4_5_10_15_16_21_26_27_32_74_79_84_89_90_95_96_101_102_103_104_105.out (NE_1_0.out))
      clear LB1_2_4_5_10_15_16_21_26_27_32_74_79_84_89_90_95_96_101_102_103_104_105 LB4_5_10_15_16_21_26_27_32_74_79_84_89_90_95_96_101_102_103_104_105
      have H106 := hide (H105.out.setLoc Q1.out 0 (.string ⟨a2.toArray⟩))
      have F106 := hide (F105.out.setLoc G1.out 0 (.string ⟨a2.toArray⟩))
      clear H105 F105
      have V84_89_90_95_96_101_102_103_104_105_106_107 := hide (Prems.keep V84_89_90_95_96_101_102_103_104_105_106.out (Kp.setLoc (T := inner) (i := 1) (v := .string ⟨a10.toArray⟩) LB1_2_4_5_10_15_16_21_26_27_32_74_79_84_89_90_95_96_101_102_103_104_105_106.out (by decide)))
      clear V84_89_90_95_96_101_102_103_104_105_106
      have V0_96_101_102_103_104_105_106_107 := hide (Strs.keep V0_96_101_102_103_104_105_106.out (Kp.setLoc (T := [9]) (i := 1) (v := .string ⟨a10.toArray⟩) LB1_2_4_5_10_15_16_21_26_27_32_74_79_84_89_90_95_96_101_102_103_104_105_106.out (by decide)) (by decide))
      clear V0_96_101_102_103_104_105_106
      have LB1_2_4_5_10_15_16_21_26_27_32_74_79_84_89_90_95_96_101_102_103_104_105_106_107 := hide (loc_set (i := 1) (v := .string ⟨a10.toArray⟩) LB1_2_4_5_10_15_16_21_26_27_32_74_79_84_89_90_95_96_101_102_103_104_105_106.out)
      have LB4_5_10_15_16_21_26_27_32_74_79_84_89_90_95_96_101_102_103_104_105_106_107 := hide (loc_other (p := ⟨w.heap.size, 1, none⟩) (v := .string ⟨a10.toArray⟩) LB4_5_10_15_16_21_26_27_32_74_79_84_89_90_95_96_101_102_103_104_105_106.out (NE_1_0.out))
      clear LB1_2_4_5_10_15_16_21_26_27_32_74_79_84_89_90_95_96_101_102_103_104_105_106 LB4_5_10_15_16_21_26_27_32_74_79_84_89_90_95_96_101_102_103_104_105_106
      have H107 := hide (H106.out.setLoc Q1.out 1 (.string ⟨a10.toArray⟩))
      have F107 := hide (F106.out.setLoc G1.out 1 (.string ⟨a10.toArray⟩))
      clear H106 F106
      have V84_89_90_95_96_101_102_103_104_105_106_107_108 := hide (Prems.keep V84_89_90_95_96_101_102_103_104_105_106_107.out (Kp.setLoc (T := inner) (i := 2) (v := .int .i64 a21) LB1_2_4_5_10_15_16_21_26_27_32_74_79_84_89_90_95_96_101_102_103_104_105_106_107.out (by decide)))
      clear V84_89_90_95_96_101_102_103_104_105_106_107
      have V0_96_101_102_103_104_105_106_107_108 := hide (Strs.keep V0_96_101_102_103_104_105_106_107.out (Kp.setLoc (T := [9]) (i := 2) (v := .int .i64 a21) LB1_2_4_5_10_15_16_21_26_27_32_74_79_84_89_90_95_96_101_102_103_104_105_106_107.out (by decide)) (by decide))
      clear V0_96_101_102_103_104_105_106_107
      have LB1_2_4_5_10_15_16_21_26_27_32_74_79_84_89_90_95_96_101_102_103_104_105_106_107_108 := hide (loc_set (i := 2) (v := .int .i64 a21) LB1_2_4_5_10_15_16_21_26_27_32_74_79_84_89_90_95_96_101_102_103_104_105_106_107.out)
      have LB4_5_10_15_16_21_26_27_32_74_79_84_89_90_95_96_101_102_103_104_105_106_107_108 := hide (loc_other (p := ⟨w.heap.size, 2, none⟩) (v := .int .i64 a21) LB4_5_10_15_16_21_26_27_32_74_79_84_89_90_95_96_101_102_103_104_105_106_107.out (NE_1_0.out))
      clear LB1_2_4_5_10_15_16_21_26_27_32_74_79_84_89_90_95_96_101_102_103_104_105_106_107 LB4_5_10_15_16_21_26_27_32_74_79_84_89_90_95_96_101_102_103_104_105_106_107
      have H108 := hide (H107.out.setLoc Q1.out 2 (.int .i64 a21))
      have F108 := hide (F107.out.setLoc G1.out 2 (.int .i64 a21))
      clear H107 F107
      have V84_89_90_95_96_101_102_103_104_105_106_107_108_109 := hide (Prems.keep V84_89_90_95_96_101_102_103_104_105_106_107_108.out (Kp.setLoc (T := inner) (i := 3) (v := .int .i64 0) LB1_2_4_5_10_15_16_21_26_27_32_74_79_84_89_90_95_96_101_102_103_104_105_106_107_108.out (by decide)))
      clear V84_89_90_95_96_101_102_103_104_105_106_107_108
      have V0_96_101_102_103_104_105_106_107_108_109 := hide (Strs.keep V0_96_101_102_103_104_105_106_107_108.out (Kp.setLoc (T := [9]) (i := 3) (v := .int .i64 0) LB1_2_4_5_10_15_16_21_26_27_32_74_79_84_89_90_95_96_101_102_103_104_105_106_107_108.out (by decide)) (by decide))
      clear V0_96_101_102_103_104_105_106_107_108
      have LB1_2_4_5_10_15_16_21_26_27_32_74_79_84_89_90_95_96_101_102_103_104_105_106_107_108_109 := hide (loc_set (i := 3) (v := .int .i64 0) LB1_2_4_5_10_15_16_21_26_27_32_74_79_84_89_90_95_96_101_102_103_104_105_106_107_108.out)
      have LB4_5_10_15_16_21_26_27_32_74_79_84_89_90_95_96_101_102_103_104_105_106_107_108_109 := hide (loc_other (p := ⟨w.heap.size, 3, none⟩) (v := .int .i64 0) LB4_5_10_15_16_21_26_27_32_74_79_84_89_90_95_96_101_102_103_104_105_106_107_108.out (NE_1_0.out))
      clear LB1_2_4_5_10_15_16_21_26_27_32_74_79_84_89_90_95_96_101_102_103_104_105_106_107_108 LB4_5_10_15_16_21_26_27_32_74_79_84_89_90_95_96_101_102_103_104_105_106_107_108
      have H109 := hide (H108.out.setLoc Q1.out 3 (.int .i64 0))
      have F109 := hide (F108.out.setLoc G1.out 3 (.int .i64 0))
      clear H108 F108
      have V84_89_90_95_96_101_102_103_104_105_106_107_108_109_110 := hide (Prems.keep V84_89_90_95_96_101_102_103_104_105_106_107_108_109.out (Kp.setLoc (T := inner) (i := 4) (v := .slice p84 a84.length r84) LB1_2_4_5_10_15_16_21_26_27_32_74_79_84_89_90_95_96_101_102_103_104_105_106_107_108_109.out (by decide)))
      clear V84_89_90_95_96_101_102_103_104_105_106_107_108_109
      have V0_96_101_102_103_104_105_106_107_108_109_110 := hide (Strs.keep V0_96_101_102_103_104_105_106_107_108_109.out (Kp.setLoc (T := [9]) (i := 4) (v := .slice p84 a84.length r84) LB1_2_4_5_10_15_16_21_26_27_32_74_79_84_89_90_95_96_101_102_103_104_105_106_107_108_109.out (by decide)) (by decide))
      clear V0_96_101_102_103_104_105_106_107_108_109
      have LB1_2_4_5_10_15_16_21_26_27_32_74_79_84_89_90_95_96_101_102_103_104_105_106_107_108_109_110 := hide (loc_set (i := 4) (v := .slice p84 a84.length r84) LB1_2_4_5_10_15_16_21_26_27_32_74_79_84_89_90_95_96_101_102_103_104_105_106_107_108_109.out)
      have LB4_5_10_15_16_21_26_27_32_74_79_84_89_90_95_96_101_102_103_104_105_106_107_108_109_110 := hide (loc_other (p := ⟨w.heap.size, 4, none⟩) (v := .slice p84 a84.length r84) LB4_5_10_15_16_21_26_27_32_74_79_84_89_90_95_96_101_102_103_104_105_106_107_108_109.out (NE_1_0.out))
      clear LB1_2_4_5_10_15_16_21_26_27_32_74_79_84_89_90_95_96_101_102_103_104_105_106_107_108_109 LB4_5_10_15_16_21_26_27_32_74_79_84_89_90_95_96_101_102_103_104_105_106_107_108_109
      have H110 := hide (H109.out.setLoc Q1.out 4 (.slice p84 a84.length r84))
      have F110 := hide (F109.out.setLoc G1.out 4 (.slice p84 a84.length r84))
      clear H109 F109
      have V84_89_90_95_96_101_102_103_104_105_106_107_108_109_110_111 := hide (Prems.keep V84_89_90_95_96_101_102_103_104_105_106_107_108_109_110.out (Kp.setLoc (T := inner) (i := 5) (v := .int .i64 a90) LB1_2_4_5_10_15_16_21_26_27_32_74_79_84_89_90_95_96_101_102_103_104_105_106_107_108_109_110.out (by decide)))
      clear V84_89_90_95_96_101_102_103_104_105_106_107_108_109_110
      have V0_96_101_102_103_104_105_106_107_108_109_110_111 := hide (Strs.keep V0_96_101_102_103_104_105_106_107_108_109_110.out (Kp.setLoc (T := [9]) (i := 5) (v := .int .i64 a90) LB1_2_4_5_10_15_16_21_26_27_32_74_79_84_89_90_95_96_101_102_103_104_105_106_107_108_109_110.out (by decide)) (by decide))
      clear V0_96_101_102_103_104_105_106_107_108_109_110
      have LB1_2_4_5_10_15_16_21_26_27_32_74_79_84_89_90_95_96_101_102_103_104_105_106_107_108_109_110_111 := hide (loc_set (i := 5) (v := .int .i64 a90) LB1_2_4_5_10_15_16_21_26_27_32_74_79_84_89_90_95_96_101_102_103_104_105_106_107_108_109_110.out)
      have LB4_5_10_15_16_21_26_27_32_74_79_84_89_90_95_96_101_102_103_104_105_106_107_108_109_110_111 := hide (loc_other (p := ⟨w.heap.size, 5, none⟩) (v := .int .i64 a90) LB4_5_10_15_16_21_26_27_32_74_79_84_89_90_95_96_101_102_103_104_105_106_107_108_109_110.out (NE_1_0.out))
      clear LB1_2_4_5_10_15_16_21_26_27_32_74_79_84_89_90_95_96_101_102_103_104_105_106_107_108_109_110 LB4_5_10_15_16_21_26_27_32_74_79_84_89_90_95_96_101_102_103_104_105_106_107_108_109_110
      have H111 := hide (H110.out.setLoc Q1.out 5 (.int .i64 a90))
      have F111 := hide (F110.out.setLoc G1.out 5 (.int .i64 a90))
      clear H110 F110
      have V84_89_90_95_96_101_102_103_104_105_106_107_108_109_110_111_112 := hide (Prems.keep V84_89_90_95_96_101_102_103_104_105_106_107_108_109_110_111.out (Kp.setLoc (T := inner) (i := 6) (v := .bool a96.neg) LB1_2_4_5_10_15_16_21_26_27_32_74_79_84_89_90_95_96_101_102_103_104_105_106_107_108_109_110_111.out (by decide)))
      clear V84_89_90_95_96_101_102_103_104_105_106_107_108_109_110_111
      have V0_96_101_102_103_104_105_106_107_108_109_110_111_112 := hide (Strs.keep V0_96_101_102_103_104_105_106_107_108_109_110_111.out (Kp.setLoc (T := [9]) (i := 6) (v := .bool a96.neg) LB1_2_4_5_10_15_16_21_26_27_32_74_79_84_89_90_95_96_101_102_103_104_105_106_107_108_109_110_111.out (by decide)) (by decide))
      clear V0_96_101_102_103_104_105_106_107_108_109_110_111
      have LB1_2_4_5_10_15_16_21_26_27_32_74_79_84_89_90_95_96_101_102_103_104_105_106_107_108_109_110_111_112 := hide (loc_set (i := 6) (v := .bool a96.neg) LB1_2_4_5_10_15_16_21_26_27_32_74_79_84_89_90_95_96_101_102_103_104_105_106_107_108_109_110_111.out)
      have LB4_5_10_15_16_21_26_27_32_74_79_84_89_90_95_96_101_102_103_104_105_106_107_108_109_110_111_112 := hide (loc_other (p := ⟨w.heap.size, 6, none⟩) (v := .bool a96.neg) LB4_5_10_15_16_21_26_27_32_74_79_84_89_90_95_96_101_102_103_104_105_106_107_108_109_110_111.out (NE_1_0.out))
      clear LB1_2_4_5_10_15_16_21_26_27_32_74_79_84_89_90_95_96_101_102_103_104_105_106_107_108_109_110_111 LB4_5_10_15_16_21_26_27_32_74_79_84_89_90_95_96_101_102_103_104_105_106_107_108_109_110_111
      have H112 := hide (H111.out.setLoc Q1.out 6 (.bool a96.neg))
      have F112 := hide (F111.out.setLoc G1.out 6 (.bool a96.neg))
      clear H111 F111
      have V84_89_90_95_96_101_102_103_104_105_106_107_108_109_110_111_112_113 := hide (Prems.keep V84_89_90_95_96_101_102_103_104_105_106_107_108_109_110_111_112.out (Kp.setLoc (T := inner) (i := 7) (v := .string ⟨a96.pred.toArray⟩) LB1_2_4_5_10_15_16_21_26_27_32_74_79_84_89_90_95_96_101_102_103_104_105_106_107_108_109_110_111_112.out (by decide)))
      clear V84_89_90_95_96_101_102_103_104_105_106_107_108_109_110_111_112
      have V0_96_101_102_103_104_105_106_107_108_109_110_111_112_113 := hide (Strs.keep V0_96_101_102_103_104_105_106_107_108_109_110_111_112.out (Kp.setLoc (T := [9]) (i := 7) (v := .string ⟨a96.pred.toArray⟩) LB1_2_4_5_10_15_16_21_26_27_32_74_79_84_89_90_95_96_101_102_103_104_105_106_107_108_109_110_111_112.out (by decide)) (by decide))
      clear V0_96_101_102_103_104_105_106_107_108_109_110_111_112
      have LB1_2_4_5_10_15_16_21_26_27_32_74_79_84_89_90_95_96_101_102_103_104_105_106_107_108_109_110_111_112_113 := hide (loc_set (i := 7) (v := .string ⟨a96.pred.toArray⟩) LB1_2_4_5_10_15_16_21_26_27_32_74_79_84_89_90_95_96_101_102_103_104_105_106_107_108_109_110_111_112.out)
      have LB4_5_10_15_16_21_26_27_32_74_79_84_89_90_95_96_101_102_103_104_105_106_107_108_109_110_111_112_113 := hide (loc_other (p := ⟨w.heap.size, 7, none⟩) (v := .string ⟨a96.pred.toArray⟩) LB4_5_10_15_16_21_26_27_32_74_79_84_89_90_95_96_101_102_103_104_105_106_107_108_109_110_111_112.out (NE_1_0.out))
      clear LB1_2_4_5_10_15_16_21_26_27_32_74_79_84_89_90_95_96_101_102_103_104_105_106_107_108_109_110_111_112 LB4_5_10_15_16_21_26_27_32_74_79_84_89_90_95_96_101_102_103_104_105_106_107_108_109_110_111_112
      have H113 := hide (H112.out.setLoc Q1.out 7 (.string ⟨a96.pred.toArray⟩))
      have F113 := hide (F112.out.setLoc G1.out 7 (.string ⟨a96.pred.toArray⟩))
      clear H112 F112
      have V84_89_90_95_96_101_102_103_104_105_106_107_108_109_110_111_112_113_114 := hide (Prems.keep V84_89_90_95_96_101_102_103_104_105_106_107_108_109_110_111_112_113.out (Kp.setLoc (T := inner) (i := 8) (v := .slice p0_96 a96.args.length r0_96) LB1_2_4_5_10_15_16_21_26_27_32_74_79_84_89_90_95_96_101_102_103_104_105_106_107_108_109_110_111_112_113.out (by decide)))
      clear V84_89_90_95_96_101_102_103_104_105_106_107_108_109_110_111_112_113
      have V0_96_101_102_103_104_105_106_107_108_109_110_111_112_113_114 := hide (Strs.keep V0_96_101_102_103_104_105_106_107_108_109_110_111_112_113.out (Kp.setLoc (T := [9]) (i := 8) (v := .slice p0_96 a96.args.length r0_96) LB1_2_4_5_10_15_16_21_26_27_32_74_79_84_89_90_95_96_101_102_103_104_105_106_107_108_109_110_111_112_113.out (by decide)) (by decide))
      clear V0_96_101_102_103_104_105_106_107_108_109_110_111_112_113
      have LB1_2_4_5_10_15_16_21_26_27_32_74_79_84_89_90_95_96_101_102_103_104_105_106_107_108_109_110_111_112_113_114 := hide (loc_set (i := 8) (v := .slice p0_96 a96.args.length r0_96) LB1_2_4_5_10_15_16_21_26_27_32_74_79_84_89_90_95_96_101_102_103_104_105_106_107_108_109_110_111_112_113.out)
      have LB4_5_10_15_16_21_26_27_32_74_79_84_89_90_95_96_101_102_103_104_105_106_107_108_109_110_111_112_113_114 := hide (loc_other (p := ⟨w.heap.size, 8, none⟩) (v := .slice p0_96 a96.args.length r0_96) LB4_5_10_15_16_21_26_27_32_74_79_84_89_90_95_96_101_102_103_104_105_106_107_108_109_110_111_112_113.out (NE_1_0.out))
      clear LB1_2_4_5_10_15_16_21_26_27_32_74_79_84_89_90_95_96_101_102_103_104_105_106_107_108_109_110_111_112_113 LB4_5_10_15_16_21_26_27_32_74_79_84_89_90_95_96_101_102_103_104_105_106_107_108_109_110_111_112_113
      have H114 := hide (H113.out.setLoc Q1.out 8 (.slice p0_96 a96.args.length r0_96))
      have F114 := hide (F113.out.setLoc G1.out 8 (.slice p0_96 a96.args.length r0_96))
      clear H113 F113
      have V84_89_90_95_96_101_102_103_104_105_106_107_108_109_110_111_112_113_114_115 := hide (Prems.keep V84_89_90_95_96_101_102_103_104_105_106_107_108_109_110_111_112_113_114.out (Kp.setLoc (T := inner) (i := 9) (v := .bool a96.hasValue) LB1_2_4_5_10_15_16_21_26_27_32_74_79_84_89_90_95_96_101_102_103_104_105_106_107_108_109_110_111_112_113_114.out (by decide)))
      clear V84_89_90_95_96_101_102_103_104_105_106_107_108_109_110_111_112_113_114
      have V0_96_101_102_103_104_105_106_107_108_109_110_111_112_113_114_115 := hide (Strs.keep V0_96_101_102_103_104_105_106_107_108_109_110_111_112_113_114.out (Kp.setLoc (T := [9]) (i := 9) (v := .bool a96.hasValue) LB1_2_4_5_10_15_16_21_26_27_32_74_79_84_89_90_95_96_101_102_103_104_105_106_107_108_109_110_111_112_113_114.out (by decide)) (by decide))
      clear V0_96_101_102_103_104_105_106_107_108_109_110_111_112_113_114
      have LB1_2_4_5_10_15_16_21_26_27_32_74_79_84_89_90_95_96_101_102_103_104_105_106_107_108_109_110_111_112_113_114_115 := hide (loc_set (i := 9) (v := .bool a96.hasValue) LB1_2_4_5_10_15_16_21_26_27_32_74_79_84_89_90_95_96_101_102_103_104_105_106_107_108_109_110_111_112_113_114.out)
      have LB4_5_10_15_16_21_26_27_32_74_79_84_89_90_95_96_101_102_103_104_105_106_107_108_109_110_111_112_113_114_115 := hide (loc_other (p := ⟨w.heap.size, 9, none⟩) (v := .bool a96.hasValue) LB4_5_10_15_16_21_26_27_32_74_79_84_89_90_95_96_101_102_103_104_105_106_107_108_109_110_111_112_113_114.out (NE_1_0.out))
      clear LB1_2_4_5_10_15_16_21_26_27_32_74_79_84_89_90_95_96_101_102_103_104_105_106_107_108_109_110_111_112_113_114 LB4_5_10_15_16_21_26_27_32_74_79_84_89_90_95_96_101_102_103_104_105_106_107_108_109_110_111_112_113_114
      have H115 := hide (H114.out.setLoc Q1.out 9 (.bool a96.hasValue))
      have F115 := hide (F114.out.setLoc G1.out 9 (.bool a96.hasValue))
      clear H114 F114
      have V84_89_90_95_96_101_102_103_104_105_106_107_108_109_110_111_112_113_114_115_116 := hide (Prems.keep V84_89_90_95_96_101_102_103_104_105_106_107_108_109_110_111_112_113_114_115.out (Kp.setLoc (T := inner) (i := 10) (v := .int .i64 a96.value) LB1_2_4_5_10_15_16_21_26_27_32_74_79_84_89_90_95_96_101_102_103_104_105_106_107_108_109_110_111_112_113_114_115.out (by decide)))
      clear V84_89_90_95_96_101_102_103_104_105_106_107_108_109_110_111_112_113_114_115
      have V0_96_101_102_103_104_105_106_107_108_109_110_111_112_113_114_115_116 := hide (Strs.keep V0_96_101_102_103_104_105_106_107_108_109_110_111_112_113_114_115.out (Kp.setLoc (T := [9]) (i := 10) (v := .int .i64 a96.value) LB1_2_4_5_10_15_16_21_26_27_32_74_79_84_89_90_95_96_101_102_103_104_105_106_107_108_109_110_111_112_113_114_115.out (by decide)) (by decide))
      clear V0_96_101_102_103_104_105_106_107_108_109_110_111_112_113_114_115
      have LB1_2_4_5_10_15_16_21_26_27_32_74_79_84_89_90_95_96_101_102_103_104_105_106_107_108_109_110_111_112_113_114_115_116 := hide (loc_set (i := 10) (v := .int .i64 a96.value) LB1_2_4_5_10_15_16_21_26_27_32_74_79_84_89_90_95_96_101_102_103_104_105_106_107_108_109_110_111_112_113_114_115.out)
      have LB4_5_10_15_16_21_26_27_32_74_79_84_89_90_95_96_101_102_103_104_105_106_107_108_109_110_111_112_113_114_115_116 := hide (loc_other (p := ⟨w.heap.size, 10, none⟩) (v := .int .i64 a96.value) LB4_5_10_15_16_21_26_27_32_74_79_84_89_90_95_96_101_102_103_104_105_106_107_108_109_110_111_112_113_114_115.out (NE_1_0.out))
      clear LB1_2_4_5_10_15_16_21_26_27_32_74_79_84_89_90_95_96_101_102_103_104_105_106_107_108_109_110_111_112_113_114_115 LB4_5_10_15_16_21_26_27_32_74_79_84_89_90_95_96_101_102_103_104_105_106_107_108_109_110_111_112_113_114_115
      have H116 := hide (H115.out.setLoc Q1.out 10 (.int .i64 a96.value))
      have F116 := hide (F115.out.setLoc G1.out 10 (.int .i64 a96.value))
      clear H115 F115
      exact .of_ok HO96.out (⟨_, _, rfl, V84_89_90_95_96_101_102_103_104_105_106_107_108_109_110_111_112_113_114_115_116.out, V0_96_101_102_103_104_105_106_107_108_109_110_111_112_113_114_115_116.out⟩) H116.out F116.out
  | true =>
    have HO := hide (bind_t HO27.out rfl)
    clear HO27
    have C117 := hide (date_any R L N s27 st _ H27.out _ rfl)
    go_wp2_with fail
    refine C117.out.mono ?_
    intro e w117 he
    rcases he.split with ⟨a117, s117, v117, ho, rfl, hv, hR, hF⟩ | ⟨c, m, ho, rfl, hF⟩
    rotate_left 1
    · exact on_panic rfl (.of_bad (bind_no HO.out ho) (F27.out.trans hF))
    clear z28_0 z28_1 z28_2 z28_3 z28_4 z28_5 z28_6 z28_7 z28_8 z28_9 z28_10 y28 z29_0 z29_1 z29_2 z29_3 z29_4 z29_5 z29_6 z29_7 z29_8 z29_9 z29_10 y29 x30 x31
    have HO117 := hide (bind_go HO.out ho)
    have LB1_2_4_5_10_15_16_21_26_27_117 := hide (hF.loc LB1_2_4_5_10_15_16_21_26_27.out (Nat.ne_of_gt Q1.out))
    clear LB1_2_4_5_10_15_16_21_26_27
    have LB4_5_10_15_16_21_26_27_117 := hide (hF.loc LB4_5_10_15_16_21_26_27.out (Nat.ne_of_gt Q4.out))
    clear LB4_5_10_15_16_21_26_27
    have H117 := hide hR
    have F117 := hide (F27.out.trans hF)
    cases hv
    clear he ho hR hF C117 H27 F27 HO
    obtain ⟨z118_0, z118_1, z118_2, z118_3, z118_4, z118_5, z118_6, z118_7, z118_8, z118_9, z118_10, y118⟩ := row11 LB1_2_4_5_10_15_16_21_26_27_117.out
    obtain ⟨z119_0, z119_1, z119_2, z119_3, z119_4, z119_5, z119_6, z119_7, z119_8, z119_9, z119_10, y119⟩ := row11 LB4_5_10_15_16_21_26_27_117.out
    have x120 := NE_0_1.out
    have x121 := NE_1_0.out
    have LB1_2_4_5_10_15_16_21_26_27_117_122 := hide (loc_other (p := ⟨w2.heap.size, 3, none⟩) (v := .int .i64 a117) LB1_2_4_5_10_15_16_21_26_27_117.out (NE_0_1.out))
    have LB4_5_10_15_16_21_26_27_117_122 := hide (loc_set (i := 3) (v := .int .i64 a117) LB4_5_10_15_16_21_26_27_117.out)
    clear LB1_2_4_5_10_15_16_21_26_27_117 LB4_5_10_15_16_21_26_27_117
    have H122 := hide (H117.out.setLoc Q4.out 3 (.int .i64 a117))
    have F122 := hide (F117.out.setLoc G4.out 3 (.int .i64 a117))
    clear H117 F117
    have C123 := hide (wantMark_any R L N s117 st _ [58] H122.out _ rfl)
    go_wp2_with fail
    refine C123.out.mono ?_
    intro e w123 he
    rcases he.split with ⟨a123, s123, v123, ho, rfl, hv, hR, hF⟩ | ⟨c, m, ho, rfl, hF⟩
    rotate_left 1
    · exact on_panic rfl (.of_bad (bind_no HO117.out ho) (F122.out.trans hF))
    clear z118_0 z118_1 z118_2 z118_3 z118_4 z118_5 z118_6 z118_7 z118_8 z118_9 z118_10 y118 z119_0 z119_1 z119_2 z119_3 z119_4 z119_5 z119_6 z119_7 z119_8 z119_9 z119_10 y119 x120 x121
    have HO123 := hide (bind_go HO117.out ho)
    have LB1_2_4_5_10_15_16_21_26_27_117_122_123 := hide (hF.loc LB1_2_4_5_10_15_16_21_26_27_117_122.out (Nat.ne_of_gt Q1.out))
    clear LB1_2_4_5_10_15_16_21_26_27_117_122
    have LB4_5_10_15_16_21_26_27_117_122_123 := hide (hF.loc LB4_5_10_15_16_21_26_27_117_122.out (Nat.ne_of_gt Q4.out))
    clear LB4_5_10_15_16_21_26_27_117_122
    have H123 := hide hR
    have F123 := hide (F122.out.trans hF)
    cases hv
    clear he ho hR hF C123 H122 F122 HO117
    obtain ⟨z124_0, z124_1, z124_2, z124_3, z124_4, z124_5, z124_6, z124_7, z124_8, z124_9, z124_10, y124⟩ := row11 LB1_2_4_5_10_15_16_21_26_27_117_122_123.out
    obtain ⟨z125_0, z125_1, z125_2, z125_3, z125_4, z125_5, z125_6, z125_7, z125_8, z125_9, z125_10, y125⟩ := row11 LB4_5_10_15_16_21_26_27_117_122_123.out
    have x126 := NE_0_1.out
    have x127 := NE_1_0.out
    have HOb := hide (ask_go (bind_two HO123.out))
    clear HO123
    have CO := hide (arrowOf_any L s123.n (placeAt L N s123.n))
    have CA0 := hide (fun w h => ahead_any R L N s123 st w h 0 (by omega))
    rw [show s123.n + 0 = s123.n from rfl] at CA0
    cases har : decide (arrowAt (kt L) s123.n = 0) with
    | false =>
      have HOc := hide (bind_pure (bind_f HOb.out har))
      have hr' : ¬ ((arrowAt (kt L) s123.n : Nat) : Int) = 0 := by simp at har; omega
      clear HOb har
      go_wp2_with fail
      refine (CA0.out _ H123.out).mono ?_
      rintro _ w128 ⟨rfl, hb⟩
      clear z124_0 z124_1 z124_2 z124_3 z124_4 z124_5 z124_6 z124_7 z124_8 z124_9 z124_10 y124 z125_0 z125_1 z125_2 z125_3 z125_4 z125_5 z125_6 z125_7 z125_8 z125_9 z125_10 y125 x126 x127
      have LB1_2_4_5_10_15_16_21_26_27_117_122_123_128 := hide ((hb.block _ (loc_lt LB1_2_4_5_10_15_16_21_26_27_117_122_123.out)).trans LB1_2_4_5_10_15_16_21_26_27_117_122_123.out)
      clear LB1_2_4_5_10_15_16_21_26_27_117_122_123
      have LB4_5_10_15_16_21_26_27_117_122_123_128 := hide ((hb.block _ (loc_lt LB4_5_10_15_16_21_26_27_117_122_123.out)).trans LB4_5_10_15_16_21_26_27_117_122_123.out)
      clear LB4_5_10_15_16_21_26_27_117_122_123
      have H128 := hide (H123.out.below hb)
      have F128 := hide (F123.out.trans (Fq.of_below hb))
      clear hb H123 F123
      obtain ⟨z129_0, z129_1, z129_2, z129_3, z129_4, z129_5, z129_6, z129_7, z129_8, z129_9, z129_10, y129⟩ := row11 LB1_2_4_5_10_15_16_21_26_27_117_122_123_128.out
      obtain ⟨z130_0, z130_1, z130_2, z130_3, z130_4, z130_5, z130_6, z130_7, z130_8, z130_9, z130_10, y130⟩ := row11 LB4_5_10_15_16_21_26_27_117_122_123_128.out
      have x131 := NE_0_1.out
      have x132 := NE_1_0.out
      go_wp2_with fail
      refine (CO.out _).mono ?_
      rintro _ w133 ⟨rfl, hb⟩
      clear z129_0 z129_1 z129_2 z129_3 z129_4 z129_5 z129_6 z129_7 z129_8 z129_9 z129_10 y129 z130_0 z130_1 z130_2 z130_3 z130_4 z130_5 z130_6 z130_7 z130_8 z130_9 z130_10 y130 x131 x132
      have LB1_2_4_5_10_15_16_21_26_27_117_122_123_128_133 := hide ((hb.block _ (loc_lt LB1_2_4_5_10_15_16_21_26_27_117_122_123_128.out)).trans LB1_2_4_5_10_15_16_21_26_27_117_122_123_128.out)
      clear LB1_2_4_5_10_15_16_21_26_27_117_122_123_128
      have LB4_5_10_15_16_21_26_27_117_122_123_128_133 := hide ((hb.block _ (loc_lt LB4_5_10_15_16_21_26_27_117_122_123_128.out)).trans LB4_5_10_15_16_21_26_27_117_122_123_128.out)
      clear LB4_5_10_15_16_21_26_27_117_122_123_128
      have H133 := hide (H128.out.below hb)
      have F133 := hide (F128.out.trans (Fq.of_below hb))
      clear hb H128 F128
      obtain ⟨z134_0, z134_1, z134_2, z134_3, z134_4, z134_5, z134_6, z134_7, z134_8, z134_9, z134_10, y134⟩ := row11 LB1_2_4_5_10_15_16_21_26_27_117_122_123_128_133.out
      obtain ⟨z135_0, z135_1, z135_2, z135_3, z135_4, z135_5, z135_6, z135_7, z135_8, z135_9, z135_10, y135⟩ := row11 LB4_5_10_15_16_21_26_27_117_122_123_128_133.out
      have x136 := NE_0_1.out
      have x137 := NE_1_0.out
      have C138 := hide (arrow_any R L N s123 st _ H133.out _ rfl)
      go_wp2_with fail
      refine C138.out.mono ?_
      intro e w138 he
      rcases he.split with ⟨a138, s138, v138, ho, rfl, hv, hR, hF⟩ | ⟨c, m, ho, rfl, hF⟩
      rotate_left 1
      · exact on_panic rfl (.of_bad (bind_no HOc.out ho) (F133.out.trans hF))
      clear z134_0 z134_1 z134_2 z134_3 z134_4 z134_5 z134_6 z134_7 z134_8 z134_9 z134_10 y134 z135_0 z135_1 z135_2 z135_3 z135_4 z135_5 z135_6 z135_7 z135_8 z135_9 z135_10 y135 x136 x137
      have HO138 := hide (bind_go HOc.out ho)
      have LB1_2_4_5_10_15_16_21_26_27_117_122_123_128_133_138 := hide (hF.loc LB1_2_4_5_10_15_16_21_26_27_117_122_123_128_133.out (Nat.ne_of_gt Q1.out))
      clear LB1_2_4_5_10_15_16_21_26_27_117_122_123_128_133
      have LB4_5_10_15_16_21_26_27_117_122_123_128_133_138 := hide (hF.loc LB4_5_10_15_16_21_26_27_117_122_123_128_133.out (Nat.ne_of_gt Q4.out))
      clear LB4_5_10_15_16_21_26_27_117_122_123_128_133
      have H138 := hide hR
      have F138 := hide (F133.out.trans hF)
      cases hv
      clear he ho hR hF C138 H133 F133 HOc
      obtain ⟨z139_0, z139_1, z139_2, z139_3, z139_4, z139_5, z139_6, z139_7, z139_8, z139_9, z139_10, y139⟩ := row11 LB1_2_4_5_10_15_16_21_26_27_117_122_123_128_133_138.out
      obtain ⟨z140_0, z140_1, z140_2, z140_3, z140_4, z140_5, z140_6, z140_7, z140_8, z140_9, z140_10, y140⟩ := row11 LB4_5_10_15_16_21_26_27_117_122_123_128_133_138.out
      have x141 := NE_0_1.out
      have x142 := NE_1_0.out
      have LB1_2_4_5_10_15_16_21_26_27_117_122_123_128_133_138_143 := hide (loc_other (p := ⟨w2.heap.size, 5, none⟩) (v := .int .i64 a138) LB1_2_4_5_10_15_16_21_26_27_117_122_123_128_133_138.out (NE_0_1.out))
      have LB4_5_10_15_16_21_26_27_117_122_123_128_133_138_143 := hide (loc_set (i := 5) (v := .int .i64 a138) LB4_5_10_15_16_21_26_27_117_122_123_128_133_138.out)
      clear LB1_2_4_5_10_15_16_21_26_27_117_122_123_128_133_138 LB4_5_10_15_16_21_26_27_117_122_123_128_133_138
      have H143 := hide (H138.out.setLoc Q4.out 5 (.int .i64 a138))
      have F143 := hide (F138.out.setLoc G4.out 5 (.int .i64 a138))
      clear H138 F138
      have C144 := hide (literal_any R L N s138 st _ H143.out _ rfl)
      go_wp2_with fail
      refine C144.out.mono ?_
      intro e w144 he
      rcases he.split with ⟨a144, s144, v144, ho, rfl, hv, hR, hF⟩ | ⟨c, m, ho, rfl, hF⟩
      rotate_left 1
      · exact on_panic rfl (.of_bad (bind_no HO138.out ho) (F143.out.trans hF))
      clear z139_0 z139_1 z139_2 z139_3 z139_4 z139_5 z139_6 z139_7 z139_8 z139_9 z139_10 y139 z140_0 z140_1 z140_2 z140_3 z140_4 z140_5 z140_6 z140_7 z140_8 z140_9 z140_10 y140 x141 x142
      have HO144 := hide (bind_go HO138.out ho)
      have LB1_2_4_5_10_15_16_21_26_27_117_122_123_128_133_138_143_144 := hide (hF.loc LB1_2_4_5_10_15_16_21_26_27_117_122_123_128_133_138_143.out (Nat.ne_of_gt Q1.out))
      clear LB1_2_4_5_10_15_16_21_26_27_117_122_123_128_133_138_143
      have LB4_5_10_15_16_21_26_27_117_122_123_128_133_138_143_144 := hide (hF.loc LB4_5_10_15_16_21_26_27_117_122_123_128_133_138_143.out (Nat.ne_of_gt Q4.out))
      clear LB4_5_10_15_16_21_26_27_117_122_123_128_133_138_143
      have H144 := hide hR
      have F144 := hide (F143.out.trans hF)
      obtain ⟨av144, rfl, hv0_144⟩ := hv
      obtain ⟨p0_144, r0_144, rfl⟩ := rows_form hv0_144
      have V0_144 := hide (Strs.mono hv0_144 fun g hg => Nat.le_trans F143.out.size hg)
      clear hv0_144
      clear he ho hR hF C144 H143 F143 HO138
      obtain ⟨z145_0, z145_1, z145_2, z145_3, z145_4, z145_5, z145_6, z145_7, z145_8, z145_9, z145_10, y145⟩ := row11 LB1_2_4_5_10_15_16_21_26_27_117_122_123_128_133_138_143_144.out
      obtain ⟨z146_0, z146_1, z146_2, z146_3, z146_4, z146_5, z146_6, z146_7, z146_8, z146_9, z146_10, y146⟩ := row11 LB4_5_10_15_16_21_26_27_117_122_123_128_133_138_143_144.out
      have x147 := NE_0_1.out
      have x148 := NE_1_0.out
      have V0_144_149 := hide (Strs.keep V0_144.out (Kp.setLoc (T := [9]) (i := 6) (v := .bool a144.neg) LB4_5_10_15_16_21_26_27_117_122_123_128_133_138_143_144.out (by decide)) (by decide))
      clear V0_144
      have LB1_2_4_5_10_15_16_21_26_27_117_122_123_128_133_138_143_144_149 := hide (loc_other (p := ⟨w2.heap.size, 6, none⟩) (v := .bool a144.neg) LB1_2_4_5_10_15_16_21_26_27_117_122_123_128_133_138_143_144.out (NE_0_1.out))
      have LB4_5_10_15_16_21_26_27_117_122_123_128_133_138_143_144_149 := hide (loc_set (i := 6) (v := .bool a144.neg) LB4_5_10_15_16_21_26_27_117_122_123_128_133_138_143_144.out)
      clear LB1_2_4_5_10_15_16_21_26_27_117_122_123_128_133_138_143_144 LB4_5_10_15_16_21_26_27_117_122_123_128_133_138_143_144
      have H149 := hide (H144.out.setLoc Q4.out 6 (.bool a144.neg))
      have F149 := hide (F144.out.setLoc G4.out 6 (.bool a144.neg))
      clear H144 F144
      have V0_144_149_150 := hide (Strs.keep V0_144_149.out (Kp.setLoc (T := [9]) (i := 7) (v := .string ⟨a144.pred.toArray⟩) LB4_5_10_15_16_21_26_27_117_122_123_128_133_138_143_144_149.out (by decide)) (by decide))
      clear V0_144_149
      have LB1_2_4_5_10_15_16_21_26_27_117_122_123_128_133_138_143_144_149_150 := hide (loc_other (p := ⟨w2.heap.size, 7, none⟩) (v := .string ⟨a144.pred.toArray⟩) LB1_2_4_5_10_15_16_21_26_27_117_122_123_128_133_138_143_144_149.out (NE_0_1.out))
      have LB4_5_10_15_16_21_26_27_117_122_123_128_133_138_143_144_149_150 := hide (loc_set (i := 7) (v := .string ⟨a144.pred.toArray⟩) LB4_5_10_15_16_21_26_27_117_122_123_128_133_138_143_144_149.out)
      clear LB1_2_4_5_10_15_16_21_26_27_117_122_123_128_133_138_143_144_149 LB4_5_10_15_16_21_26_27_117_122_123_128_133_138_143_144_149
      have H150 := hide (H149.out.setLoc Q4.out 7 (.string ⟨a144.pred.toArray⟩))
      have F150 := hide (F149.out.setLoc G4.out 7 (.string ⟨a144.pred.toArray⟩))
      clear H149 F149
      have V0_144_149_150_151 := hide (Strs.keep V0_144_149_150.out (Kp.setLoc (T := [9]) (i := 8) (v := .slice p0_144 a144.args.length r0_144) LB4_5_10_15_16_21_26_27_117_122_123_128_133_138_143_144_149_150.out (by decide)) (by decide))
      clear V0_144_149_150
      have LB1_2_4_5_10_15_16_21_26_27_117_122_123_128_133_138_143_144_149_150_151 := hide (loc_other (p := ⟨w2.heap.size, 8, none⟩) (v := .slice p0_144 a144.args.length r0_144) LB1_2_4_5_10_15_16_21_26_27_117_122_123_128_133_138_143_144_149_150.out (NE_0_1.out))
      have LB4_5_10_15_16_21_26_27_117_122_123_128_133_138_143_144_149_150_151 := hide (loc_set (i := 8) (v := .slice p0_144 a144.args.length r0_144) LB4_5_10_15_16_21_26_27_117_122_123_128_133_138_143_144_149_150.out)
      clear LB1_2_4_5_10_15_16_21_26_27_117_122_123_128_133_138_143_144_149_150 LB4_5_10_15_16_21_26_27_117_122_123_128_133_138_143_144_149_150
      have H151 := hide (H150.out.setLoc Q4.out 8 (.slice p0_144 a144.args.length r0_144))
      have F151 := hide (F150.out.setLoc G4.out 8 (.slice p0_144 a144.args.length r0_144))
      clear H150 F150
      have V0_144_149_150_151_152 := hide (Strs.keep V0_144_149_150_151.out (Kp.setLoc (T := [9]) (i := 9) (v := .bool a144.hasValue) LB4_5_10_15_16_21_26_27_117_122_123_128_133_138_143_144_149_150_151.out (by decide)) (by decide))
      clear V0_144_149_150_151
      have LB1_2_4_5_10_15_16_21_26_27_117_122_123_128_133_138_143_144_149_150_151_152 := hide (loc_other (p := ⟨w2.heap.size, 9, none⟩) (v := .bool a144.hasValue) LB1_2_4_5_10_15_16_21_26_27_117_122_123_128_133_138_143_144_149_150_151.out (NE_0_1.out))
      have LB4_5_10_15_16_21_26_27_117_122_123_128_133_138_143_144_149_150_151_152 := hide (loc_set (i := 9) (v := .bool a144.hasValue) LB4_5_10_15_16_21_26_27_117_122_123_128_133_138_143_144_149_150_151.out)
      clear LB1_2_4_5_10_15_16_21_26_27_117_122_123_128_133_138_143_144_149_150_151 LB4_5_10_15_16_21_26_27_117_122_123_128_133_138_143_144_149_150_151
      have H152 := hide (H151.out.setLoc Q4.out 9 (.bool a144.hasValue))
      have F152 := hide (F151.out.setLoc G4.out 9 (.bool a144.hasValue))
      clear H151 F151
      have V0_144_149_150_151_152_153 := hide (Strs.keep V0_144_149_150_151_152.out (Kp.setLoc (T := [9]) (i := 10) (v := .int .i64 a144.value) LB4_5_10_15_16_21_26_27_117_122_123_128_133_138_143_144_149_150_151_152.out (by decide)) (by decide))
      clear V0_144_149_150_151_152
      have LB1_2_4_5_10_15_16_21_26_27_117_122_123_128_133_138_143_144_149_150_151_152_153 := hide (loc_other (p := ⟨w2.heap.size, 10, none⟩) (v := .int .i64 a144.value) LB1_2_4_5_10_15_16_21_26_27_117_122_123_128_133_138_143_144_149_150_151_152.out (NE_0_1.out))
      have LB4_5_10_15_16_21_26_27_117_122_123_128_133_138_143_144_149_150_151_152_153 := hide (loc_set (i := 10) (v := .int .i64 a144.value) LB4_5_10_15_16_21_26_27_117_122_123_128_133_138_143_144_149_150_151_152.out)
      clear LB1_2_4_5_10_15_16_21_26_27_117_122_123_128_133_138_143_144_149_150_151_152 LB4_5_10_15_16_21_26_27_117_122_123_128_133_138_143_144_149_150_151_152
      have H153 := hide (H152.out.setLoc Q4.out 10 (.int .i64 a144.value))
      have F153 := hide (F152.out.setLoc G4.out 10 (.int .i64 a144.value))
      clear H152 F152
      go_wp2_with fail
      have hz := (And.intro z145_0 (And.intro z145_1 (And.intro z145_2 (And.intro z145_3 (And.intro z145_4 (And.intro z145_5 (And.intro z145_6 (And.intro z145_7 (And.intro z145_8 (And.intro z145_9 (And.intro z145_10 (And.intro y145 (And.intro z146_0 (And.intro z146_1 (And.intro z146_2 (And.intro z146_3 (And.intro z146_4 (And.intro z146_5 (And.intro z146_6 (And.intro z146_7 (And.intro z146_8 (And.intro z146_9 (And.intro z146_10 (And.intro y146 (And.intro x147 x148)))))))))))))))))))))))))
      simp [bodyPost, results, Tryz.results83, go_sem, hz]
      have V0_144_149_150_151_152_153_154 := hide (Strs.keep V0_144_149_150_151_152_153.out (Kp.setLoc (T := [9]) (i := 0) (v := .string ⟨a2.toArray⟩) LB1_2_4_5_10_15_16_21_26_27_117_122_123_128_133_138_143_144_149_150_151_152_153.out (by decide)) (by decide))
      clear V0_144_149_150_151_152_153
      have LB1_2_4_5_10_15_16_21_26_27_117_122_123_128_133_138_143_144_149_150_151_152_153_154 := hide (loc_set (i := 0) (v := .string ⟨a2.toArray⟩) LB1_2_4_5_10_15_16_21_26_27_117_122_123_128_133_138_143_144_149_150_151_152_153.out)
      have LB4_5_10_15_16_21_26_27_117_122_123_128_133_138_143_144_149_150_151_152_153_154 := hide (loc_other (p := ⟨w.heap.size, 0, none⟩) (v := .string ⟨a2.toArray⟩) LB4_5_10_15_16_21_26_27_117_122_123_128_133_138_143_144_149_150_151_152_153.out (NE_1_0.out))
      clear LB1_2_4_5_10_15_16_21_26_27_117_122_123_128_133_138_143_144_149_150_151_152_153 LB4_5_10_15_16_21_26_27_117_122_123_128_133_138_143_144_149_150_151_152_153
      have H154 := hide (H153.out.setLoc Q1.out 0 (.string ⟨a2.toArray⟩))
      have F154 := hide (F153.out.setLoc G1.out 0 (.string ⟨a2.toArray⟩))
      clear H153 F153
      have V0_144_149_150_151_152_153_154_155 := hide (Strs.keep V0_144_149_150_151_152_153_154.out (Kp.setLoc (T := [9]) (i := 1) (v := .string ⟨a10.toArray⟩) LB1_2_4_5_10_15_16_21_26_27_117_122_123_128_133_138_143_144_149_150_151_152_153_154.out (by decide)) (by decide))
      clear V0_144_149_150_151_152_153_154
      have LB1_2_4_5_10_15_16_21_26_27_117_122_123_128_133_138_143_144_149_150_151_152_153_154_155 := hide (loc_set (i := 1) (v := .string ⟨a10.toArray⟩) LB1_2_4_5_10_15_16_21_26_27_117_122_123_128_133_138_143_144_149_150_151_152_153_154.out)
      have LB4_5_10_15_16_21_26_27_117_122_123_128_133_138_143_144_149_150_151_152_153_154_155 := hide (loc_other (p := ⟨w.heap.size, 1, none⟩) (v := .string ⟨a10.toArray⟩) LB4_5_10_15_16_21_26_27_117_122_123_128_133_138_143_144_149_150_151_152_153_154.out (NE_1_0.out))
      clear LB1_2_4_5_10_15_16_21_26_27_117_122_123_128_133_138_143_144_149_150_151_152_153_154 LB4_5_10_15_16_21_26_27_117_122_123_128_133_138_143_144_149_150_151_152_153_154
      have H155 := hide (H154.out.setLoc Q1.out 1 (.string ⟨a10.toArray⟩))
      have F155 := hide (F154.out.setLoc G1.out 1 (.string ⟨a10.toArray⟩))
      clear H154 F154
      have V0_144_149_150_151_152_153_154_155_156 := hide (Strs.keep V0_144_149_150_151_152_153_154_155.out (Kp.setLoc (T := [9]) (i := 2) (v := .int .i64 a21) LB1_2_4_5_10_15_16_21_26_27_117_122_123_128_133_138_143_144_149_150_151_152_153_154_155.out (by decide)) (by decide))
      clear V0_144_149_150_151_152_153_154_155
      have LB1_2_4_5_10_15_16_21_26_27_117_122_123_128_133_138_143_144_149_150_151_152_153_154_155_156 := hide (loc_set (i := 2) (v := .int .i64 a21) LB1_2_4_5_10_15_16_21_26_27_117_122_123_128_133_138_143_144_149_150_151_152_153_154_155.out)
      have LB4_5_10_15_16_21_26_27_117_122_123_128_133_138_143_144_149_150_151_152_153_154_155_156 := hide (loc_other (p := ⟨w.heap.size, 2, none⟩) (v := .int .i64 a21) LB4_5_10_15_16_21_26_27_117_122_123_128_133_138_143_144_149_150_151_152_153_154_155.out (NE_1_0.out))
      clear LB1_2_4_5_10_15_16_21_26_27_117_122_123_128_133_138_143_144_149_150_151_152_153_154_155 LB4_5_10_15_16_21_26_27_117_122_123_128_133_138_143_144_149_150_151_152_153_154_155
      have H156 := hide (H155.out.setLoc Q1.out 2 (.int .i64 a21))
      have F156 := hide (F155.out.setLoc G1.out 2 (.int .i64 a21))
      clear H155 F155
      have V0_144_149_150_151_152_153_154_155_156_157 := hide (Strs.keep V0_144_149_150_151_152_153_154_155_156.out (Kp.setLoc (T := [9]) (i := 3) (v := .int .i64 a117) LB1_2_4_5_10_15_16_21_26_27_117_122_123_128_133_138_143_144_149_150_151_152_153_154_155_156.out (by decide)) (by decide))
      clear V0_144_149_150_151_152_153_154_155_156
      have LB1_2_4_5_10_15_16_21_26_27_117_122_123_128_133_138_143_144_149_150_151_152_153_154_155_156_157 := hide (loc_set (i := 3) (v := .int .i64 a117) LB1_2_4_5_10_15_16_21_26_27_117_122_123_128_133_138_143_144_149_150_151_152_153_154_155_156.out)
      have LB4_5_10_15_16_21_26_27_117_122_123_128_133_138_143_144_149_150_151_152_153_154_155_156_157 := hide (loc_other (p := ⟨w.heap.size, 3, none⟩) (v := .int .i64 a117) LB4_5_10_15_16_21_26_27_117_122_123_128_133_138_143_144_149_150_151_152_153_154_155_156.out (NE_1_0.out))
      clear LB1_2_4_5_10_15_16_21_26_27_117_122_123_128_133_138_143_144_149_150_151_152_153_154_155_156 LB4_5_10_15_16_21_26_27_117_122_123_128_133_138_143_144_149_150_151_152_153_154_155_156
      have H157 := hide (H156.out.setLoc Q1.out 3 (.int .i64 a117))
      have F157 := hide (F156.out.setLoc G1.out 3 (.int .i64 a117))
      clear H156 F156
      have V0_144_149_150_151_152_153_154_155_156_157_158 := hide (Strs.keep V0_144_149_150_151_152_153_154_155_156_157.out (Kp.setLoc (T := [9]) (i := 4) (v := .slice none 0 0) LB1_2_4_5_10_15_16_21_26_27_117_122_123_128_133_138_143_144_149_150_151_152_153_154_155_156_157.out (by decide)) (by decide))
      clear V0_144_149_150_151_152_153_154_155_156_157
      have LB1_2_4_5_10_15_16_21_26_27_117_122_123_128_133_138_143_144_149_150_151_152_153_154_155_156_157_158 := hide (loc_set (i := 4) (v := .slice none 0 0) LB1_2_4_5_10_15_16_21_26_27_117_122_123_128_133_138_143_144_149_150_151_152_153_154_155_156_157.out)
      have LB4_5_10_15_16_21_26_27_117_122_123_128_133_138_143_144_149_150_151_152_153_154_155_156_157_158 := hide (loc_other (p := ⟨w.heap.size, 4, none⟩) (v := .slice none 0 0) LB4_5_10_15_16_21_26_27_117_122_123_128_133_138_143_144_149_150_151_152_153_154_155_156_157.out (NE_1_0.out))
      clear LB1_2_4_5_10_15_16_21_26_27_117_122_123_128_133_138_143_144_149_150_151_152_153_154_155_156_157 LB4_5_10_15_16_21_26_27_117_122_123_128_133_138_143_144_149_150_151_152_153_154_155_156_157
      have H158 := hide (H157.out.setLoc Q1.out 4 (.slice none 0 0))
      have F158 := hide (F157.out.setLoc G1.out 4 (.slice none 0 0))
      clear H157 F157
      have V0_144_149_150_151_152_153_154_155_156_157_158_159 := hide (Strs.keep V0_144_149_150_151_152_153_154_155_156_157_158.out (Kp.setLoc (T := [9]) (i := 5) (v := .int .i64 a138) LB1_2_4_5_10_15_16_21_26_27_117_122_123_128_133_138_143_144_149_150_151_152_153_154_155_156_157_158.out (by decide)) (by decide))
      clear V0_144_149_150_151_152_153_154_155_156_157_158
      have LB1_2_4_5_10_15_16_21_26_27_117_122_123_128_133_138_143_144_149_150_151_152_153_154_155_156_157_158_159 := hide (loc_set (i := 5) (v := .int .i64 a138) LB1_2_4_5_10_15_16_21_26_27_117_122_123_128_133_138_143_144_149_150_151_152_153_154_155_156_157_158.out)
      have LB4_5_10_15_16_21_26_27_117_122_123_128_133_138_143_144_149_150_151_152_153_154_155_156_157_158_159 := hide (loc_other (p := ⟨w.heap.size, 5, none⟩) (v := .int .i64 a138) LB4_5_10_15_16_21_26_27_117_122_123_128_133_138_143_144_149_150_151_152_153_154_155_156_157_158.out (NE_1_0.out))
      clear LB1_2_4_5_10_15_16_21_26_27_117_122_123_128_133_138_143_144_149_150_151_152_153_154_155_156_157_158 LB4_5_10_15_16_21_26_27_117_122_123_128_133_138_143_144_149_150_151_152_153_154_155_156_157_158
      have H159 := hide (H158.out.setLoc Q1.out 5 (.int .i64 a138))
      have F159 := hide (F158.out.setLoc G1.out 5 (.int .i64 a138))
      clear H158 F158
      have V0_144_149_150_151_152_153_154_155_156_157_158_159_160 := hide (Strs.keep V0_144_149_150_151_152_153_154_155_156_157_158_159.out (Kp.setLoc (T := [9]) (i := 6) (v := .bool a144.neg) LB1_2_4_5_10_15_16_21_26_27_117_122_123_128_133_138_143_144_149_150_151_152_153_154_155_156_157_158_159.out (by decide)) (by decide))
      clear V0_144_149_150_151_152_153_154_155_156_157_158_159
      have LB1_2_4_5_10_15_16_21_26_27_117_122_123_128_133_138_143_144_149_150_151_152_153_154_155_156_157_158_159_160 := hide (loc_set (i := 6) (v := .bool a144.neg) LB1_2_4_5_10_15_16_21_26_27_117_122_123_128_133_138_143_144_149_150_151_152_153_154_155_156_157_158_159.out)
      have LB4_5_10_15_16_21_26_27_117_122_123_128_133_138_143_144_149_150_151_152_153_154_155_156_157_158_159_160 := hide (loc_other (p := ⟨w.heap.size, 6, none⟩) (v := .bool a144.neg) LB4_5_10_15_16_21_26_27_117_122_123_128_133_138_143_144_149_150_151_152_153_154_155_156_157_158_159.out (NE_1_0.out))
      clear LB1_2_4_5_10_15_16_21_26_27_117_122_123_128_133_138_143_144_149_150_151_152_153_154_155_156_157_158_159 LB4_5_10_15_16_21_26_27_117_122_123_128_133_138_143_144_149_150_151_152_153_154_155_156_157_158_159
      have H160 := hide (H159.out.setLoc Q1.out 6 (.bool a144.neg))
      have F160 := hide (F159.out.setLoc G1.out 6 (.bool a144.neg))
      clear H159 F159
      have V0_144_149_150_151_152_153_154_155_156_157_158_159_160_161 := hide (Strs.keep V0_144_149_150_151_152_153_154_155_156_157_158_159_160.out (Kp.setLoc (T := [9]) (i := 7) (v := .string ⟨a144.pred.toArray⟩) LB1_2_4_5_10_15_16_21_26_27_117_122_123_128_133_138_143_144_149_150_151_152_153_154_155_156_157_158_159_160.out (by decide)) (by decide))
      clear V0_144_149_150_151_152_153_154_155_156_157_158_159_160
      have LB1_2_4_5_10_15_16_21_26_27_117_122_123_128_133_138_143_144_149_150_151_152_153_154_155_156_157_158_159_160_161 := hide (loc_set (i := 7) (v := .string ⟨a144.pred.toArray⟩) LB1_2_4_5_10_15_16_21_26_27_117_122_123_128_133_138_143_144_149_150_151_152_153_154_155_156_157_158_159_160.out)
      have LB4_5_10_15_16_21_26_27_117_122_123_128_133_138_143_144_149_150_151_152_153_154_155_156_157_158_159_160_161 := hide (loc_other (p := ⟨w.heap.size, 7, none⟩) (v := .string ⟨a144.pred.toArray⟩) LB4_5_10_15_16_21_26_27_117_122_123_128_133_138_143_144_149_150_151_152_153_154_155_156_157_158_159_160.out (NE_1_0.out))
      clear LB1_2_4_5_10_15_16_21_26_27_117_122_123_128_133_138_143_144_149_150_151_152_153_154_155_156_157_158_159_160 LB4_5_10_15_16_21_26_27_117_122_123_128_133_138_143_144_149_150_151_152_153_154_155_156_157_158_159_160
      have H161 := hide (H160.out.setLoc Q1.out 7 (.string ⟨a144.pred.toArray⟩))
      have F161 := hide (F160.out.setLoc G1.out 7 (.string ⟨a144.pred.toArray⟩))
      clear H160 F160
      have V0_144_149_150_151_152_153_154_155_156_157_158_159_160_161_162 := hide (Strs.keep V0_144_149_150_151_152_153_154_155_156_157_158_159_160_161.out (Kp.setLoc (T := [9]) (i := 8) (v := .slice p0_144 a144.args.length r0_144) LB1_2_4_5_10_15_16_21_26_27_117_122_123_128_133_138_143_144_149_150_151_152_153_154_155_156_157_158_159_160_161.out (by decide)) (by decide))
      clear V0_144_149_150_151_152_153_154_155_156_157_158_159_160_161
      have LB1_2_4_5_10_15_16_21_26_27_117_122_123_128_133_138_143_144_149_150_151_152_153_154_155_156_157_158_159_160_161_162 := hide (loc_set (i := 8) (v := .slice p0_144 a144.args.length r0_144) LB1_2_4_5_10_15_16_21_26_27_117_122_123_128_133_138_143_144_149_150_151_152_153_154_155_156_157_158_159_160_161.out)
      have LB4_5_10_15_16_21_26_27_117_122_123_128_133_138_143_144_149_150_151_152_153_154_155_156_157_158_159_160_161_162 := hide (loc_other (p := ⟨w.heap.size, 8, none⟩) (v := .slice p0_144 a144.args.length r0_144) LB4_5_10_15_16_21_26_27_117_122_123_128_133_138_143_144_149_150_151_152_153_154_155_156_157_158_159_160_161.out (NE_1_0.out))
      clear LB1_2_4_5_10_15_16_21_26_27_117_122_123_128_133_138_143_144_149_150_151_152_153_154_155_156_157_158_159_160_161 LB4_5_10_15_16_21_26_27_117_122_123_128_133_138_143_144_149_150_151_152_153_154_155_156_157_158_159_160_161
      have H162 := hide (H161.out.setLoc Q1.out 8 (.slice p0_144 a144.args.length r0_144))
      have F162 := hide (F161.out.setLoc G1.out 8 (.slice p0_144 a144.args.length r0_144))
      clear H161 F161
      have V0_144_149_150_151_152_153_154_155_156_157_158_159_160_161_162_163 := hide (Strs.keep V0_144_149_150_151_152_153_154_155_156_157_158_159_160_161_162.out (Kp.setLoc (T := [9]) (i := 9) (v := .bool a144.hasValue) LB1_2_4_5_10_15_16_21_26_27_117_122_123_128_133_138_143_144_149_150_151_152_153_154_155_156_157_158_159_160_161_162.out (by decide)) (by decide))
      clear V0_144_149_150_151_152_153_154_155_156_157_158_159_160_161_162
      have LB1_2_4_5_10_15_16_21_26_27_117_122_123_128_133_138_143_144_149_150_151_152_153_154_155_156_157_158_159_160_161_162_163 := hide (loc_set (i := 9) (v := .bool a144.hasValue) LB1_2_4_5_10_15_16_21_26_27_117_122_123_128_133_138_143_144_149_150_151_152_153_154_155_156_157_158_159_160_161_162.out)
      have LB4_5_10_15_16_21_26_27_117_122_123_128_133_138_143_144_149_150_151_152_153_154_155_156_157_158_159_160_161_162_163 := hide (loc_other (p := ⟨w.heap.size, 9, none⟩) (v := .bool a144.hasValue) LB4_5_10_15_16_21_26_27_117_122_123_128_133_138_143_144_149_150_151_152_153_154_155_156_157_158_159_160_161_162.out (NE_1_0.out))
      clear LB1_2_4_5_10_15_16_21_26_27_117_122_123_128_133_138_143_144_149_150_151_152_153_154_155_156_157_158_159_160_161_162 LB4_5_10_15_16_21_26_27_117_122_123_128_133_138_143_144_149_150_151_152_153_154_155_156_157_158_159_160_161_162
      have H163 := hide (H162.out.setLoc Q1.out 9 (.bool a144.hasValue))
      have F163 := hide (F162.out.setLoc G1.out 9 (.bool a144.hasValue))
      clear H162 F162
      have V0_144_149_150_151_152_153_154_155_156_157_158_159_160_161_162_163_164 := hide (Strs.keep V0_144_149_150_151_152_153_154_155_156_157_158_159_160_161_162_163.out (Kp.setLoc (T := [9]) (i := 10) (v := .int .i64 a144.value) LB1_2_4_5_10_15_16_21_26_27_117_122_123_128_133_138_143_144_149_150_151_152_153_154_155_156_157_158_159_160_161_162_163.out (by decide)) (by decide))
      clear V0_144_149_150_151_152_153_154_155_156_157_158_159_160_161_162_163
      have LB1_2_4_5_10_15_16_21_26_27_117_122_123_128_133_138_143_144_149_150_151_152_153_154_155_156_157_158_159_160_161_162_163_164 := hide (loc_set (i := 10) (v := .int .i64 a144.value) LB1_2_4_5_10_15_16_21_26_27_117_122_123_128_133_138_143_144_149_150_151_152_153_154_155_156_157_158_159_160_161_162_163.out)
      have LB4_5_10_15_16_21_26_27_117_122_123_128_133_138_143_144_149_150_151_152_153_154_155_156_157_158_159_160_161_162_163_164 := hide (loc_other (p := ⟨w.heap.size, 10, none⟩) (v := .int .i64 a144.value) LB4_5_10_15_16_21_26_27_117_122_123_128_133_138_143_144_149_150_151_152_153_154_155_156_157_158_159_160_161_162_163.out (NE_1_0.out))
      clear LB1_2_4_5_10_15_16_21_26_27_117_122_123_128_133_138_143_144_149_150_151_152_153_154_155_156_157_158_159_160_161_162_163 LB4_5_10_15_16_21_26_27_117_122_123_128_133_138_143_144_149_150_151_152_153_154_155_156_157_158_159_160_161_162_163
      have H164 := hide (H163.out.setLoc Q1.out 10 (.int .i64 a144.value))
      have F164 := hide (F163.out.setLoc G1.out 10 (.int .i64 a144.value))
      clear H163 F163
      exact .of_ok HO144.out (⟨_, _, rfl, Rows.nil _ _ _ _ _, V0_144_149_150_151_152_153_154_155_156_157_158_159_160_161_162_163_164.out⟩) H164.out F164.out
    | true =>
      have HOc := hide (bind_t HOb.out har)
      have hr' : arrowAt (kt L) s123.n = 0 := by simpa using har
      rw [hr'] at CO
      clear HOb har hr'
      go_wp2_with fail
      refine (CA0.out _ H123.out).mono ?_
      rintro _ w165 ⟨rfl, hb⟩
      clear z124_0 z124_1 z124_2 z124_3 z124_4 z124_5 z124_6 z124_7 z124_8 z124_9 z124_10 y124 z125_0 z125_1 z125_2 z125_3 z125_4 z125_5 z125_6 z125_7 z125_8 z125_9 z125_10 y125 x126 x127
      have LB1_2_4_5_10_15_16_21_26_27_117_122_123_165 := hide ((hb.block _ (loc_lt LB1_2_4_5_10_15_16_21_26_27_117_122_123.out)).trans LB1_2_4_5_10_15_16_21_26_27_117_122_123.out)
      clear LB1_2_4_5_10_15_16_21_26_27_117_122_123
      have LB4_5_10_15_16_21_26_27_117_122_123_165 := hide ((hb.block _ (loc_lt LB4_5_10_15_16_21_26_27_117_122_123.out)).trans LB4_5_10_15_16_21_26_27_117_122_123.out)
      clear LB4_5_10_15_16_21_26_27_117_122_123
      have H165 := hide (H123.out.below hb)
      have F165 := hide (F123.out.trans (Fq.of_below hb))
      clear hb H123 F123
      obtain ⟨z166_0, z166_1, z166_2, z166_3, z166_4, z166_5, z166_6, z166_7, z166_8, z166_9, z166_10, y166⟩ := row11 LB1_2_4_5_10_15_16_21_26_27_117_122_123_165.out
      obtain ⟨z167_0, z167_1, z167_2, z167_3, z167_4, z167_5, z167_6, z167_7, z167_8, z167_9, z167_10, y167⟩ := row11 LB4_5_10_15_16_21_26_27_117_122_123_165.out
      have x168 := NE_0_1.out
      have x169 := NE_1_0.out
      go_wp2_with fail
      refine (CO.out _).mono ?_
      rintro _ w170 ⟨rfl, hb⟩
      clear z166_0 z166_1 z166_2 z166_3 z166_4 z166_5 z166_6 z166_7 z166_8 z166_9 z166_10 y166 z167_0 z167_1 z167_2 z167_3 z167_4 z167_5 z167_6 z167_7 z167_8 z167_9 z167_10 y167 x168 x169
      have LB1_2_4_5_10_15_16_21_26_27_117_122_123_165_170 := hide ((hb.block _ (loc_lt LB1_2_4_5_10_15_16_21_26_27_117_122_123_165.out)).trans LB1_2_4_5_10_15_16_21_26_27_117_122_123_165.out)
      clear LB1_2_4_5_10_15_16_21_26_27_117_122_123_165
      have LB4_5_10_15_16_21_26_27_117_122_123_165_170 := hide ((hb.block _ (loc_lt LB4_5_10_15_16_21_26_27_117_122_123_165.out)).trans LB4_5_10_15_16_21_26_27_117_122_123_165.out)
      clear LB4_5_10_15_16_21_26_27_117_122_123_165
      have H170 := hide (H165.out.below hb)
      have F170 := hide (F165.out.trans (Fq.of_below hb))
      clear hb H165 F165
      obtain ⟨z171_0, z171_1, z171_2, z171_3, z171_4, z171_5, z171_6, z171_7, z171_8, z171_9, z171_10, y171⟩ := row11 LB1_2_4_5_10_15_16_21_26_27_117_122_123_165_170.out
      obtain ⟨z172_0, z172_1, z172_2, z172_3, z172_4, z172_5, z172_6, z172_7, z172_8, z172_9, z172_10, y172⟩ := row11 LB4_5_10_15_16_21_26_27_117_122_123_165_170.out
      have x173 := NE_0_1.out
      have x174 := NE_1_0.out
      have C175 := hide (list_prem_prem R L N s123 st _ (premiseM FN (kt L)) (fun s w h => premise_any R L N s st w h _ rfl) (commaM (kt L)) (fun s w h => comma_any R L N s st w h _ rfl) (fun s a u => eats_premise FN _ s a u) (fun s u => hasMark_eats) 16 H170.out _ rfl)
      go_wp2_with fail
      refine C175.out.mono ?_
      intro e w175 he
      rcases he.split with ⟨a175, s175, v175, ho, rfl, hv, hR, hF⟩ | ⟨c, m, ho, rfl, hF⟩
      rotate_left 1
      · exact on_panic rfl (.of_bad (bind_no HOc.out ho) (F170.out.trans hF))
      clear z171_0 z171_1 z171_2 z171_3 z171_4 z171_5 z171_6 z171_7 z171_8 z171_9 z171_10 y171 z172_0 z172_1 z172_2 z172_3 z172_4 z172_5 z172_6 z172_7 z172_8 z172_9 z172_10 y172 x173 x174
      have HO175 := hide (bind_go HOc.out ho)
      have LB1_2_4_5_10_15_16_21_26_27_117_122_123_165_170_175 := hide (hF.loc LB1_2_4_5_10_15_16_21_26_27_117_122_123_165_170.out (Nat.ne_of_gt Q1.out))
      clear LB1_2_4_5_10_15_16_21_26_27_117_122_123_165_170
      have LB4_5_10_15_16_21_26_27_117_122_123_165_170_175 := hide (hF.loc LB4_5_10_15_16_21_26_27_117_122_123_165_170.out (Nat.ne_of_gt Q4.out))
      clear LB4_5_10_15_16_21_26_27_117_122_123_165_170
      have H175 := hide hR
      have F175 := hide (F170.out.trans hF)
      obtain ⟨p175, r175, rfl⟩ := rows_form hv
      have V175 := hide (Prems.mono hv fun g hg => Nat.le_trans F170.out.size hg)
      clear hv
      clear he ho hR hF C175 H170 F170 HOc
      obtain ⟨z176_0, z176_1, z176_2, z176_3, z176_4, z176_5, z176_6, z176_7, z176_8, z176_9, z176_10, y176⟩ := row11 LB1_2_4_5_10_15_16_21_26_27_117_122_123_165_170_175.out
      obtain ⟨z177_0, z177_1, z177_2, z177_3, z177_4, z177_5, z177_6, z177_7, z177_8, z177_9, z177_10, y177⟩ := row11 LB4_5_10_15_16_21_26_27_117_122_123_165_170_175.out
      have x178 := NE_0_1.out
      have x179 := NE_1_0.out
      have V175_180 := hide (Prems.keep V175.out (Kp.setLoc (T := inner) (i := 4) (v := .slice p175 a175.length r175) LB4_5_10_15_16_21_26_27_117_122_123_165_170_175.out (by decide)))
      clear V175
      have LB1_2_4_5_10_15_16_21_26_27_117_122_123_165_170_175_180 := hide (loc_other (p := ⟨w2.heap.size, 4, none⟩) (v := .slice p175 a175.length r175) LB1_2_4_5_10_15_16_21_26_27_117_122_123_165_170_175.out (NE_0_1.out))
      have LB4_5_10_15_16_21_26_27_117_122_123_165_170_175_180 := hide (loc_set (i := 4) (v := .slice p175 a175.length r175) LB4_5_10_15_16_21_26_27_117_122_123_165_170_175.out)
      clear LB1_2_4_5_10_15_16_21_26_27_117_122_123_165_170_175 LB4_5_10_15_16_21_26_27_117_122_123_165_170_175
      have H180 := hide (H175.out.setLoc Q4.out 4 (.slice p175 a175.length r175))
      have F180 := hide (F175.out.setLoc G4.out 4 (.slice p175 a175.length r175))
      clear H175 F175
      have C181 := hide (arrow_any R L N s175 st _ H180.out _ rfl)
      go_wp2_with fail
      refine C181.out.mono ?_
      intro e w181 he
      rcases he.split with ⟨a181, s181, v181, ho, rfl, hv, hR, hF⟩ | ⟨c, m, ho, rfl, hF⟩
      rotate_left 1
      · exact on_panic rfl (.of_bad (bind_no HO175.out ho) (F180.out.trans hF))
      clear z176_0 z176_1 z176_2 z176_3 z176_4 z176_5 z176_6 z176_7 z176_8 z176_9 z176_10 y176 z177_0 z177_1 z177_2 z177_3 z177_4 z177_5 z177_6 z177_7 z177_8 z177_9 z177_10 y177 x178 x179
      have HO181 := hide (bind_go HO175.out ho)
      have LB1_2_4_5_10_15_16_21_26_27_117_122_123_165_170_175_180_181 := hide (hF.loc LB1_2_4_5_10_15_16_21_26_27_117_122_123_165_170_175_180.out (Nat.ne_of_gt Q1.out))
      clear LB1_2_4_5_10_15_16_21_26_27_117_122_123_165_170_175_180
      have LB4_5_10_15_16_21_26_27_117_122_123_165_170_175_180_181 := hide (hF.loc LB4_5_10_15_16_21_26_27_117_122_123_165_170_175_180.out (Nat.ne_of_gt Q4.out))
      clear LB4_5_10_15_16_21_26_27_117_122_123_165_170_175_180
      have V175_180_181 := hide (Prems.keep V175_180.out (Kp.of_fq (T := inner) hF H180.out (by decide)))
      clear V175_180
      have H181 := hide hR
      have F181 := hide (F180.out.trans hF)
      cases hv
      clear he ho hR hF C181 H180 F180 HO175
      obtain ⟨z182_0, z182_1, z182_2, z182_3, z182_4, z182_5, z182_6, z182_7, z182_8, z182_9, z182_10, y182⟩ := row11 LB1_2_4_5_10_15_16_21_26_27_117_122_123_165_170_175_180_181.out
      obtain ⟨z183_0, z183_1, z183_2, z183_3, z183_4, z183_5, z183_6, z183_7, z183_8, z183_9, z183_10, y183⟩ := row11 LB4_5_10_15_16_21_26_27_117_122_123_165_170_175_180_181.out
      have x184 := NE_0_1.out
      have x185 := NE_1_0.out
      have V175_180_181_186 := hide (Prems.keep V175_180_181.out (Kp.setLoc (T := inner) (i := 5) (v := .int .i64 a181) LB4_5_10_15_16_21_26_27_117_122_123_165_170_175_180_181.out (by decide)))
      clear V175_180_181
      have LB1_2_4_5_10_15_16_21_26_27_117_122_123_165_170_175_180_181_186 := hide (loc_other (p := ⟨w2.heap.size, 5, none⟩) (v := .int .i64 a181) LB1_2_4_5_10_15_16_21_26_27_117_122_123_165_170_175_180_181.out (NE_0_1.out))
      have LB4_5_10_15_16_21_26_27_117_122_123_165_170_175_180_181_186 := hide (loc_set (i := 5) (v := .int .i64 a181) LB4_5_10_15_16_21_26_27_117_122_123_165_170_175_180_181.out)
      clear LB1_2_4_5_10_15_16_21_26_27_117_122_123_165_170_175_180_181 LB4_5_10_15_16_21_26_27_117_122_123_165_170_175_180_181
      have H186 := hide (H181.out.setLoc Q4.out 5 (.int .i64 a181))
      have F186 := hide (F181.out.setLoc G4.out 5 (.int .i64 a181))
      clear H181 F181
      have C187 := hide (literal_any R L N s181 st _ H186.out _ rfl)
      go_wp2_with fail
      refine C187.out.mono ?_
      intro e w187 he
      rcases he.split with ⟨a187, s187, v187, ho, rfl, hv, hR, hF⟩ | ⟨c, m, ho, rfl, hF⟩
      rotate_left 1
      · exact on_panic rfl (.of_bad (bind_no HO181.out ho) (F186.out.trans hF))
      clear z182_0 z182_1 z182_2 z182_3 z182_4 z182_5 z182_6 z182_7 z182_8 z182_9 z182_10 y182 z183_0 z183_1 z183_2 z183_3 z183_4 z183_5 z183_6 z183_7 z183_8 z183_9 z183_10 y183 x184 x185
      have HO187 := hide (bind_go HO181.out ho)
      have LB1_2_4_5_10_15_16_21_26_27_117_122_123_165_170_175_180_181_186_187 := hide (hF.loc LB1_2_4_5_10_15_16_21_26_27_117_122_123_165_170_175_180_181_186.out (Nat.ne_of_gt Q1.out))
      clear LB1_2_4_5_10_15_16_21_26_27_117_122_123_165_170_175_180_181_186
      have LB4_5_10_15_16_21_26_27_117_122_123_165_170_175_180_181_186_187 := hide (hF.loc LB4_5_10_15_16_21_26_27_117_122_123_165_170_175_180_181_186.out (Nat.ne_of_gt Q4.out))
      clear LB4_5_10_15_16_21_26_27_117_122_123_165_170_175_180_181_186
      have V175_180_181_186_187 := hide (Prems.keep V175_180_181_186.out (Kp.of_fq (T := inner) hF H186.out (by decide)))
      clear V175_180_181_186
      have H187 := hide hR
      have F187 := hide (F186.out.trans hF)
      obtain ⟨av187, rfl, hv0_187⟩ := hv
      obtain ⟨p0_187, r0_187, rfl⟩ := rows_form hv0_187
      have V0_187 := hide (Strs.mono hv0_187 fun g hg => Nat.le_trans F186.out.size hg)
      clear hv0_187
      clear he ho hR hF C187 H186 F186 HO181
      obtain ⟨z188_0, z188_1, z188_2, z188_3, z188_4, z188_5, z188_6, z188_7, z188_8, z188_9, z188_10, y188⟩ := row11 LB1_2_4_5_10_15_16_21_26_27_117_122_123_165_170_175_180_181_186_187.out
      obtain ⟨z189_0, z189_1, z189_2, z189_3, z189_4, z189_5, z189_6, z189_7, z189_8, z189_9, z189_10, y189⟩ := row11 LB4_5_10_15_16_21_26_27_117_122_123_165_170_175_180_181_186_187.out
      have x190 := NE_0_1.out
      have x191 := NE_1_0.out
      have V175_180_181_186_187_192 := hide (Prems.keep V175_180_181_186_187.out (Kp.setLoc (T := inner) (i := 6) (v := .bool a187.neg) LB4_5_10_15_16_21_26_27_117_122_123_165_170_175_180_181_186_187.out (by decide)))
      clear V175_180_181_186_187
      have V0_187_192 := hide (Strs.keep V0_187.out (Kp.setLoc (T := [9]) (i := 6) (v := .bool a187.neg) LB4_5_10_15_16_21_26_27_117_122_123_165_170_175_180_181_186_187.out (by decide)) (by decide))
      clear V0_187
      have LB1_2_4_5_10_15_16_21_26_27_117_122_123_165_170_175_180_181_186_187_192 := hide (loc_other (p := ⟨w2.heap.size, 6, none⟩) (v := .bool a187.neg) LB1_2_4_5_10_15_16_21_26_27_117_122_123_165_170_175_180_181_186_187.out (NE_0_1.out))
      have LB4_5_10_15_16_21_26_27_117_122_123_165_170_175_180_181_186_187_192 := hide (loc_set (i := 6) (v := .bool a187.neg) LB4_5_10_15_16_21_26_27_117_122_123_165_170_175_180_181_186_187.out)
      clear LB1_2_4_5_10_15_16_21_26_27_117_122_123_165_170_175_180_181_186_187 LB4_5_10_15_16_21_26_27_117_122_123_165_170_175_180_181_186_187
      have H192 := hide (H187.out.setLoc Q4.out 6 (.bool a187.neg))
      have F192 := hide (F187.out.setLoc G4.out 6 (.bool a187.neg))
      clear H187 F187
      have V175_180_181_186_187_192_193 := hide (Prems.keep V175_180_181_186_187_192.out (Kp.setLoc (T := inner) (i := 7) (v := .string ⟨a187.pred.toArray⟩) LB4_5_10_15_16_21_26_27_117_122_123_165_170_175_180_181_186_187_192.out (by decide)))
      clear V175_180_181_186_187_192
      have V0_187_192_193 := hide (Strs.keep V0_187_192.out (Kp.setLoc (T := [9]) (i := 7) (v := .string ⟨a187.pred.toArray⟩) LB4_5_10_15_16_21_26_27_117_122_123_165_170_175_180_181_186_187_192.out (by decide)) (by decide))
      clear V0_187_192
      have LB1_2_4_5_10_15_16_21_26_27_117_122_123_165_170_175_180_181_186_187_192_193 := hide (loc_other (p := ⟨w2.heap.size, 7, none⟩) (v := .string ⟨a187.pred.toArray⟩) LB1_2_4_5_10_15_16_21_26_27_117_122_123_165_170_175_180_181_186_187_192.out (NE_0_1.out))
      have LB4_5_10_15_16_21_26_27_117_122_123_165_170_175_180_181_186_187_192_193 := hide (loc_set (i := 7) (v := .string ⟨a187.pred.toArray⟩) LB4_5_10_15_16_21_26_27_117_122_123_165_170_175_180_181_186_187_192.out)
      clear LB1_2_4_5_10_15_16_21_26_27_117_122_123_165_170_175_180_181_186_187_192 LB4_5_10_15_16_21_26_27_117_122_123_165_170_175_180_181_186_187_192
      have H193 := hide (H192.out.setLoc Q4.out 7 (.string ⟨a187.pred.toArray⟩))
      have F193 := hide (F192.out.setLoc G4.out 7 (.string ⟨a187.pred.toArray⟩))
      clear H192 F192
      have V175_180_181_186_187_192_193_194 := hide (Prems.keep V175_180_181_186_187_192_193.out (Kp.setLoc (T := inner) (i := 8) (v := .slice p0_187 a187.args.length r0_187) LB4_5_10_15_16_21_26_27_117_122_123_165_170_175_180_181_186_187_192_193.out (by decide)))
      clear V175_180_181_186_187_192_193
      have V0_187_192_193_194 := hide (Strs.keep V0_187_192_193.out (Kp.setLoc (T := [9]) (i := 8) (v := .slice p0_187 a187.args.length r0_187) LB4_5_10_15_16_21_26_27_117_122_123_165_170_175_180_181_186_187_192_193.out (by decide)) (by decide))
      clear V0_187_192_193
      have LB1_2_4_5_10_15_16_21_26_27_117_122_123_165_170_175_180_181_186_187_192_193_194 := hide (loc_other (p := ⟨w2.heap.size, 8, none⟩) (v := .slice p0_187 a187.args.length r0_187) LB1_2_4_5_10_15_16_21_26_27_117_122_123_165_170_175_180_181_186_187_192_193.out (NE_0_1.out))
      have LB4_5_10_15_16_21_26_27_117_122_123_165_170_175_180_181_186_187_192_193_194 := hide (loc_set (i := 8) (v := .slice p0_187 a187.args.length r0_187) LB4_5_10_15_16_21_26_27_117_122_123_165_170_175_180_181_186_187_192_193.out)
      clear LB1_2_4_5_10_15_16_21_26_27_117_122_123_165_170_175_180_181_186_187_192_193 LB4_5_10_15_16_21_26_27_117_122_123_165_170_175_180_181_186_187_192_193
      have H194 := hide (H193.out.setLoc Q4.out 8 (.slice p0_187 a187.args.length r0_187))
      have F194 := hide (F193.out.setLoc G4.out 8 (.slice p0_187 a187.args.length r0_187))
      clear H193 F193
      have V175_180_181_186_187_192_193_194_195 := hide (Prems.keep V175_180_181_186_187_192_193_194.out (Kp.setLoc (T := inner) (i := 9) (v := .bool a187.hasValue) LB4_5_10_15_16_21_26_27_117_122_123_165_170_175_180_181_186_187_192_193_194.out (by decide)))
      clear V175_180_181_186_187_192_193_194
      have V0_187_192_193_194_195 := hide (Strs.keep V0_187_192_193_194.out (Kp.setLoc (T := [9]) (i := 9) (v := .bool a187.hasValue) LB4_5_10_15_16_21_26_27_117_122_123_165_170_175_180_181_186_187_192_193_194.out (by decide)) (by decide))
      clear V0_187_192_193_194
      have LB1_2_4_5_10_15_16_21_26_27_117_122_123_165_170_175_180_181_186_187_192_193_194_195 := hide (loc_other (p := ⟨w2.heap.size, 9, none⟩) (v := .bool a187.hasValue) LB1_2_4_5_10_15_16_21_26_27_117_122_123_165_170_175_180_181_186_187_192_193_194.out (NE_0_1.out))
      have LB4_5_10_15_16_21_26_27_117_122_123_165_170_175_180_181_186_187_192_193_194_195 := hide (loc_set (i := 9) (v := .bool a187.hasValue) LB4_5_10_15_16_21_26_27_117_122_123_165_170_175_180_181_186_187_192_193_194.out)
      clear LB1_2_4_5_10_15_16_21_26_27_117_122_123_165_170_175_180_181_186_187_192_193_194 LB4_5_10_15_16_21_26_27_117_122_123_165_170_175_180_181_186_187_192_193_194
      have H195 := hide (H194.out.setLoc Q4.out 9 (.bool a187.hasValue))
      have F195 := hide (F194.out.setLoc G4.out 9 (.bool a187.hasValue))
      clear H194 F194
      have V175_180_181_186_187_192_193_194_195_196 := hide (Prems.keep V175_180_181_186_187_192_193_194_195.out (Kp.setLoc (T := inner) (i := 10) (v := .int .i64 a187.value) LB4_5_10_15_16_21_26_27_117_122_123_165_170_175_180_181_186_187_192_193_194_195.out (by decide)))
      clear V175_180_181_186_187_192_193_194_195
      have V0_187_192_193_194_195_196 := hide (Strs.keep V0_187_192_193_194_195.out (Kp.setLoc (T := [9]) (i := 10) (v := .int .i64 a187.value) LB4_5_10_15_16_21_26_27_117_122_123_165_170_175_180_181_186_187_192_193_194_195.out (by decide)) (by decide))
      clear V0_187_192_193_194_195
      have LB1_2_4_5_10_15_16_21_26_27_117_122_123_165_170_175_180_181_186_187_192_193_194_195_196 := hide (loc_other (p := ⟨w2.heap.size, 10, none⟩) (v := .int .i64 a187.value) LB1_2_4_5_10_15_16_21_26_27_117_122_123_165_170_175_180_181_186_187_192_193_194_195.out (NE_0_1.out))
      have LB4_5_10_15_16_21_26_27_117_122_123_165_170_175_180_181_186_187_192_193_194_195_196 := hide (loc_set (i := 10) (v := .int .i64 a187.value) LB4_5_10_15_16_21_26_27_117_122_123_165_170_175_180_181_186_187_192_193_194_195.out)
      clear LB1_2_4_5_10_15_16_21_26_27_117_122_123_165_170_175_180_181_186_187_192_193_194_195 LB4_5_10_15_16_21_26_27_117_122_123_165_170_175_180_181_186_187_192_193_194_195
      have H196 := hide (H195.out.setLoc Q4.out 10 (.int .i64 a187.value))
      have F196 := hide (F195.out.setLoc G4.out 10 (.int .i64 a187.value))
      clear H195 F195
      go_wp2_with fail
      have hz := (And.intro z188_0 (And.intro z188_1 (And.intro z188_2 (And.intro z188_3 (And.intro z188_4 (And.intro z188_5 (And.intro z188_6 (And.intro z188_7 (And.intro z188_8 (And.intro z188_9 (And.intro z188_10 (And.intro y188 (And.intro z189_0 (And.intro z189_1 (And.intro z189_2 (And.intro z189_3 (And.intro z189_4 (And.intro z189_5 (And.intro z189_6 (And.intro z189_7 (And.intro z189_8 (And.intro z189_9 (And.intro z189_10 (And.intro y189 (And.intro x190 x191)))))))))))))))))))))))))
      simp [bodyPost, results, Tryz.results83, go_sem, hz]
      have V175_180_181_186_187_192_193_194_195_196_197 := hide (Prems.keep V175_180_181_186_187_192_193_194_195_196.out (Kp.setLoc (T := inner) (i := 0) (v := .string ⟨a2.toArray⟩) LB1_2_4_5_10_15_16_21_26_27_117_122_123_165_170_175_180_181_186_187_192_193_194_195_196.out (by decide)))
      clear V175_180_181_186_187_192_193_194_195_196
      have V0_187_192_193_194_195_196_197 := hide (Strs.keep V0_187_192_193_194_195_196.out (Kp.setLoc (T := [9]) (i := 0) (v := .string ⟨a2.toArray⟩) LB1_2_4_5_10_15_16_21_26_27_117_122_123_165_170_175_180_181_186_187_192_193_194_195_196.out (by decide)) (by decide))
      clear V0_187_192_193_194_195_196
      have LB1_2_4_5_10_15_16_21_26_27_117_122_123_165_170_175_180_181_186_187_192_193_194_195_196_197 := hide (loc_set (i := 0) (v := .string ⟨a2.toArray⟩) LB1_2_4_5_10_15_16_21_26_27_117_122_123_165_170_175_180_181_186_187_192_193_194_195_196.out)
      have LB4_5_10_15_16_21_26_27_117_122_123_165_170_175_180_181_186_187_192_193_194_195_196_197 := hide (loc_other (p := ⟨w.heap.size, 0, none⟩) (v := .string ⟨a2.toArray⟩) LB4_5_10_15_16_21_26_27_117_122_123_165_170_175_180_181_186_187_192_193_194_195_196.out (NE_1_0.out))
      clear LB1_2_4_5_10_15_16_21_26_27_117_122_123_165_170_175_180_181_186_187_192_193_194_195_196 LB4_5_10_15_16_21_26_27_117_122_123_165_170_175_180_181_186_187_192_193_194_195_196
      have H197 := hide (H196.out.setLoc Q1.out 0 (.string ⟨a2.toArray⟩))
      have F197 := hide (F196.out.setLoc G1.out 0 (.string ⟨a2.toArray⟩))
      clear H196 F196
      have V175_180_181_186_187_192_193_194_195_196_197_198 := hide (Prems.keep V175_180_181_186_187_192_193_194_195_196_197.out (Kp.setLoc (T := inner) (i := 1) (v := .string ⟨a10.toArray⟩) LB1_2_4_5_10_15_16_21_26_27_117_122_123_165_170_175_180_181_186_187_192_193_194_195_196_197.out (by decide)))
      clear V175_180_181_186_187_192_193_194_195_196_197
      have V0_187_192_193_194_195_196_197_198 := hide (Strs.keep V0_187_192_193_194_195_196_197.out (Kp.setLoc (T := [9]) (i := 1) (v := .string ⟨a10.toArray⟩) LB1_2_4_5_10_15_16_21_26_27_117_122_123_165_170_175_180_181_186_187_192_193_194_195_196_197.out (by decide)) (by decide))
      clear V0_187_192_193_194_195_196_197
      have LB1_2_4_5_10_15_16_21_26_27_117_122_123_165_170_175_180_181_186_187_192_193_194_195_196_197_198 := hide (loc_set (i := 1) (v := .string ⟨a10.toArray⟩) LB1_2_4_5_10_15_16_21_26_27_117_122_123_165_170_175_180_181_186_187_192_193_194_195_196_197.out)
      have LB4_5_10_15_16_21_26_27_117_122_123_165_170_175_180_181_186_187_192_193_194_195_196_197_198 := hide (loc_other (p := ⟨w.heap.size, 1, none⟩) (v := .string ⟨a10.toArray⟩) LB4_5_10_15_16_21_26_27_117_122_123_165_170_175_180_181_186_187_192_193_194_195_196_197.out (NE_1_0.out))
      clear LB1_2_4_5_10_15_16_21_26_27_117_122_123_165_170_175_180_181_186_187_192_193_194_195_196_197 LB4_5_10_15_16_21_26_27_117_122_123_165_170_175_180_181_186_187_192_193_194_195_196_197
      have H198 := hide (H197.out.setLoc Q1.out 1 (.string ⟨a10.toArray⟩))
      have F198 := hide (F197.out.setLoc G1.out 1 (.string ⟨a10.toArray⟩))
      clear H197 F197
      have V175_180_181_186_187_192_193_194_195_196_197_198_199 := hide (Prems.keep V175_180_181_186_187_192_193_194_195_196_197_198.out (Kp.setLoc (T := inner) (i := 2) (v := .int .i64 a21) LB1_2_4_5_10_15_16_21_26_27_117_122_123_165_170_175_180_181_186_187_192_193_194_195_196_197_198.out (by decide)))
      clear V175_180_181_186_187_192_193_194_195_196_197_198
      have V0_187_192_193_194_195_196_197_198_199 := hide (Strs.keep V0_187_192_193_194_195_196_197_198.out (Kp.setLoc (T := [9]) (i := 2) (v := .int .i64 a21) LB1_2_4_5_10_15_16_21_26_27_117_122_123_165_170_175_180_181_186_187_192_193_194_195_196_197_198.out (by decide)) (by decide))
      clear V0_187_192_193_194_195_196_197_198
      have LB1_2_4_5_10_15_16_21_26_27_117_122_123_165_170_175_180_181_186_187_192_193_194_195_196_197_198_199 := hide (loc_set (i := 2) (v := .int .i64 a21) LB1_2_4_5_10_15_16_21_26_27_117_122_123_165_170_175_180_181_186_187_192_193_194_195_196_197_198.out)
      have LB4_5_10_15_16_21_26_27_117_122_123_165_170_175_180_181_186_187_192_193_194_195_196_197_198_199 := hide (loc_other (p := ⟨w.heap.size, 2, none⟩) (v := .int .i64 a21) LB4_5_10_15_16_21_26_27_117_122_123_165_170_175_180_181_186_187_192_193_194_195_196_197_198.out (NE_1_0.out))
      clear LB1_2_4_5_10_15_16_21_26_27_117_122_123_165_170_175_180_181_186_187_192_193_194_195_196_197_198 LB4_5_10_15_16_21_26_27_117_122_123_165_170_175_180_181_186_187_192_193_194_195_196_197_198
      have H199 := hide (H198.out.setLoc Q1.out 2 (.int .i64 a21))
      have F199 := hide (F198.out.setLoc G1.out 2 (.int .i64 a21))
      clear H198 F198
      have V175_180_181_186_187_192_193_194_195_196_197_198_199_200 := hide (Prems.keep V175_180_181_186_187_192_193_194_195_196_197_198_199.out (Kp.setLoc (T := inner) (i := 3) (v := .int .i64 a117) LB1_2_4_5_10_15_16_21_26_27_117_122_123_165_170_175_180_181_186_187_192_193_194_195_196_197_198_199.out (by decide)))
      clear V175_180_181_186_187_192_193_194_195_196_197_198_199
      have V0_187_192_193_194_195_196_197_198_199_200 := hide (Strs.keep V0_187_192_193_194_195_196_197_198_199.out (Kp.setLoc (T := [9]) (i := 3) (v := .int .i64 a117) LB1_2_4_5_10_15_16_21_26_27_117_122_123_165_170_175_180_181_186_187_192_193_194_195_196_197_198_199.out (by decide)) (by decide))
      clear V0_187_192_193_194_195_196_197_198_199
      have LB1_2_4_5_10_15_16_21_26_27_117_122_123_165_170_175_180_181_186_187_192_193_194_195_196_197_198_199_200 := hide (loc_set (i := 3) (v := .int .i64 a117) LB1_2_4_5_10_15_16_21_26_27_117_122_123_165_170_175_180_181_186_187_192_193_194_195_196_197_198_199.out)
      have LB4_5_10_15_16_21_26_27_117_122_123_165_170_175_180_181_186_187_192_193_194_195_196_197_198_199_200 := hide (loc_other (p := ⟨w.heap.size, 3, none⟩) (v := .int .i64 a117) LB4_5_10_15_16_21_26_27_117_122_123_165_170_175_180_181_186_187_192_193_194_195_196_197_198_199.out (NE_1_0.out))
      clear LB1_2_4_5_10_15_16_21_26_27_117_122_123_165_170_175_180_181_186_187_192_193_194_195_196_197_198_199 LB4_5_10_15_16_21_26_27_117_122_123_165_170_175_180_181_186_187_192_193_194_195_196_197_198_199
      have H200 := hide (H199.out.setLoc Q1.out 3 (.int .i64 a117))
      have F200 := hide (F199.out.setLoc G1.out 3 (.int .i64 a117))
      clear H199 F199
      have V175_180_181_186_187_192_193_194_195_196_197_198_199_200_201 := hide (Prems.keep V175_180_181_186_187_192_193_194_195_196_197_198_199_200.out (Kp.setLoc (T := inner) (i := 4) (v := .slice p175 a175.length r175) LB1_2_4_5_10_15_16_21_26_27_117_122_123_165_170_175_180_181_186_187_192_193_194_195_196_197_198_199_200.out (by decide)))
      clear V175_180_181_186_187_192_193_194_195_196_197_198_199_200
      have V0_187_192_193_194_195_196_197_198_199_200_201 := hide (Strs.keep V0_187_192_193_194_195_196_197_198_199_200.out (Kp.setLoc (T := [9]) (i := 4) (v := .slice p175 a175.length r175) LB1_2_4_5_10_15_16_21_26_27_117_122_123_165_170_175_180_181_186_187_192_193_194_195_196_197_198_199_200.out (by decide)) (by decide))
      clear V0_187_192_193_194_195_196_197_198_199_200
      have LB1_2_4_5_10_15_16_21_26_27_117_122_123_165_170_175_180_181_186_187_192_193_194_195_196_197_198_199_200_201 := hide (loc_set (i := 4) (v := .slice p175 a175.length r175) LB1_2_4_5_10_15_16_21_26_27_117_122_123_165_170_175_180_181_186_187_192_193_194_195_196_197_198_199_200.out)
      have LB4_5_10_15_16_21_26_27_117_122_123_165_170_175_180_181_186_187_192_193_194_195_196_197_198_199_200_201 := hide (loc_other (p := ⟨w.heap.size, 4, none⟩) (v := .slice p175 a175.length r175) LB4_5_10_15_16_21_26_27_117_122_123_165_170_175_180_181_186_187_192_193_194_195_196_197_198_199_200.out (NE_1_0.out))
      clear LB1_2_4_5_10_15_16_21_26_27_117_122_123_165_170_175_180_181_186_187_192_193_194_195_196_197_198_199_200 LB4_5_10_15_16_21_26_27_117_122_123_165_170_175_180_181_186_187_192_193_194_195_196_197_198_199_200
      have H201 := hide (H200.out.setLoc Q1.out 4 (.slice p175 a175.length r175))
      have F201 := hide (F200.out.setLoc G1.out 4 (.slice p175 a175.length r175))
      clear H200 F200
      have V175_180_181_186_187_192_193_194_195_196_197_198_199_200_201_202 := hide (Prems.keep V175_180_181_186_187_192_193_194_195_196_197_198_199_200_201.out (Kp.setLoc (T := inner) (i := 5) (v := .int .i64 a181) LB1_2_4_5_10_15_16_21_26_27_117_122_123_165_170_175_180_181_186_187_192_193_194_195_196_197_198_199_200_201.out (by decide)))
      clear V175_180_181_186_187_192_193_194_195_196_197_198_199_200_201
      have V0_187_192_193_194_195_196_197_198_199_200_201_202 := hide (Strs.keep V0_187_192_193_194_195_196_197_198_199_200_201.out (Kp.setLoc (T := [9]) (i := 5) (v := .int .i64 a181) LB1_2_4_5_10_15_16_21_26_27_117_122_123_165_170_175_180_181_186_187_192_193_194_195_196_197_198_199_200_201.out (by decide)) (by decide))
      clear V0_187_192_193_194_195_196_197_198_199_200_201
      have LB1_2_4_5_10_15_16_21_26_27_117_122_123_165_170_175_180_181_186_187_192_193_194_195_196_197_198_199_200_201_202 := hide (loc_set (i := 5) (v := .int .i64 a181) LB1_2_4_5_10_15_16_21_26_27_117_122_123_165_170_175_180_181_186_187_192_193_194_195_196_197_198_199_200_201.out)
      have LB4_5_10_15_16_21_26_27_117_122_123_165_170_175_180_181_186_187_192_193_194_195_196_197_198_199_200_201_202 := hide (loc_other (p := ⟨w.heap.size, 5, none⟩) (v := .int .i64 a181) LB4_5_10_15_16_21_26_27_117_122_123_165_170_175_180_181_186_187_192_193_194_195_196_197_198_199_200_201.out (NE_1_0.out))
      clear LB1_2_4_5_10_15_16_21_26_27_117_122_123_165_170_175_180_181_186_187_192_193_194_195_196_197_198_199_200_201 LB4_5_10_15_16_21_26_27_117_122_123_165_170_175_180_181_186_187_192_193_194_195_196_197_198_199_200_201
      have H202 := hide (H201.out.setLoc Q1.out 5 (.int .i64 a181))
      have F202 := hide (F201.out.setLoc G1.out 5 (.int .i64 a181))
      clear H201 F201
      have V175_180_181_186_187_192_193_194_195_196_197_198_199_200_201_202_203 := hide (Prems.keep V175_180_181_186_187_192_193_194_195_196_197_198_199_200_201_202.out (Kp.setLoc (T := inner) (i := 6) (v := .bool a187.neg) LB1_2_4_5_10_15_16_21_26_27_117_122_123_165_170_175_180_181_186_187_192_193_194_195_196_197_198_199_200_201_202.out (by decide)))
      clear V175_180_181_186_187_192_193_194_195_196_197_198_199_200_201_202
      have V0_187_192_193_194_195_196_197_198_199_200_201_202_203 := hide (Strs.keep V0_187_192_193_194_195_196_197_198_199_200_201_202.out (Kp.setLoc (T := [9]) (i := 6) (v := .bool a187.neg) LB1_2_4_5_10_15_16_21_26_27_117_122_123_165_170_175_180_181_186_187_192_193_194_195_196_197_198_199_200_201_202.out (by decide)) (by decide))
      clear V0_187_192_193_194_195_196_197_198_199_200_201_202
      have LB1_2_4_5_10_15_16_21_26_27_117_122_123_165_170_175_180_181_186_187_192_193_194_195_196_197_198_199_200_201_202_203 := hide (loc_set (i := 6) (v := .bool a187.neg) LB1_2_4_5_10_15_16_21_26_27_117_122_123_165_170_175_180_181_186_187_192_193_194_195_196_197_198_199_200_201_202.out)
      have LB4_5_10_15_16_21_26_27_117_122_123_165_170_175_180_181_186_187_192_193_194_195_196_197_198_199_200_201_202_203 := hide (loc_other (p := ⟨w.heap.size, 6, none⟩) (v := .bool a187.neg) LB4_5_10_15_16_21_26_27_117_122_123_165_170_175_180_181_186_187_192_193_194_195_196_197_198_199_200_201_202.out (NE_1_0.out))
      clear LB1_2_4_5_10_15_16_21_26_27_117_122_123_165_170_175_180_181_186_187_192_193_194_195_196_197_198_199_200_201_202 LB4_5_10_15_16_21_26_27_117_122_123_165_170_175_180_181_186_187_192_193_194_195_196_197_198_199_200_201_202
      have H203 := hide (H202.out.setLoc Q1.out 6 (.bool a187.neg))
      have F203 := hide (F202.out.setLoc G1.out 6 (.bool a187.neg))
      clear H202 F202
      have V175_180_181_186_187_192_193_194_195_196_197_198_199_200_201_202_203_204 := hide (Prems.keep V175_180_181_186_187_192_193_194_195_196_197_198_199_200_201_202_203.out (Kp.setLoc (T := inner) (i := 7) (v := .string ⟨a187.pred.toArray⟩) LB1_2_4_5_10_15_16_21_26_27_117_122_123_165_170_175_180_181_186_187_192_193_194_195_196_197_198_199_200_201_202_203.out (by decide)))
      clear V175_180_181_186_187_192_193_194_195_196_197_198_199_200_201_202_203
      have V0_187_192_193_194_195_196_197_198_199_200_201_202_203_204 := hide (Strs.keep V0_187_192_193_194_195_196_197_198_199_200_201_202_203.out (Kp.setLoc (T := [9]) (i := 7) (v := .string ⟨a187.pred.toArray⟩) LB1_2_4_5_10_15_16_21_26_27_117_122_123_165_170_175_180_181_186_187_192_193_194_195_196_197_198_199_200_201_202_203.out (by decide)) (by decide))
      clear V0_187_192_193_194_195_196_197_198_199_200_201_202_203
      have LB1_2_4_5_10_15_16_21_26_27_117_122_123_165_170_175_180_181_186_187_192_193_194_195_196_197_198_199_200_201_202_203_204 := hide (loc_set (i := 7) (v := .string ⟨a187.pred.toArray⟩) LB1_2_4_5_10_15_16_21_26_27_117_122_123_165_170_175_180_181_186_187_192_193_194_195_196_197_198_199_200_201_202_203.out)
      have LB4_5_10_15_16_21_26_27_117_122_123_165_170_175_180_181_186_187_192_193_194_195_196_197_198_199_200_201_202_203_204 := hide (loc_other (p := ⟨w.heap.size, 7, none⟩) (v := .string ⟨a187.pred.toArray⟩) LB4_5_10_15_16_21_26_27_117_122_123_165_170_175_180_181_186_187_192_193_194_195_196_197_198_199_200_201_202_203.out (NE_1_0.out))
      clear LB1_2_4_5_10_15_16_21_26_27_117_122_123_165_170_175_180_181_186_187_192_193_194_195_196_197_198_199_200_201_202_203 LB4_5_10_15_16_21_26_27_117_122_123_165_170_175_180_181_186_187_192_193_194_195_196_197_198_199_200_201_202_203
      have H204 := hide (H203.out.setLoc Q1.out 7 (.string ⟨a187.pred.toArray⟩))
      have F204 := hide (F203.out.setLoc G1.out 7 (.string ⟨a187.pred.toArray⟩))
      clear H203 F203
      have V175_180_181_186_187_192_193_194_195_196_197_198_199_200_201_202_203_204_205 := hide (Prems.keep V175_180_181_186_187_192_193_194_195_196_197_198_199_200_201_202_203_204.out (Kp.setLoc (T := inner) (i := 8) (v := .slice p0_187 a187.args.length r0_187) LB1_2_4_5_10_15_16_21_26_27_117_122_123_165_170_175_180_181_186_187_192_193_194_195_196_197_198_199_200_201_202_203_204.out (by decide)))
      clear V175_180_181_186_187_192_193_194_195_196_197_198_199_200_201_202_203_204
      have V0_187_192_193_194_195_196_197_198_199_200_201_202_203_204_205 := hide (Strs.keep V0_187_192_193_194_195_196_197_198_199_200_201_202_203_204.out (Kp.setLoc (T := [9]) (i := 8) (v := .slice p0_187 a187.args.length r0_187) LB1_2_4_5_10_15_16_21_26_27_117_122_123_165_170_175_180_181_186_187_192_193_194_195_196_197_198_199_200_201_202_203_204.out (by decide)) (by decide))
      clear V0_187_192_193_194_195_196_197_198_199_200_201_202_203_204
      have LB1_2_4_5_10_15_16_21_26_27_117_122_123_165_170_175_180_181_186_187_192_193_194_195_196_197_198_199_200_201_202_203_204_205 := hide (loc_set (i := 8) (v := .slice p0_187 a187.args.length r0_187) LB1_2_4_5_10_15_16_21_26_27_117_122_123_165_170_175_180_181_186_187_192_193_194_195_196_197_198_199_200_201_202_203_204.out)
      have LB4_5_10_15_16_21_26_27_117_122_123_165_170_175_180_181_186_187_192_193_194_195_196_197_198_199_200_201_202_203_204_205 := hide (loc_other (p := ⟨w.heap.size, 8, none⟩) (v := .slice p0_187 a187.args.length r0_187) LB4_5_10_15_16_21_26_27_117_122_123_165_170_175_180_181_186_187_192_193_194_195_196_197_198_199_200_201_202_203_204.out (NE_1_0.out))
      clear LB1_2_4_5_10_15_16_21_26_27_117_122_123_165_170_175_180_181_186_187_192_193_194_195_196_197_198_199_200_201_202_203_204 LB4_5_10_15_16_21_26_27_117_122_123_165_170_175_180_181_186_187_192_193_194_195_196_197_198_199_200_201_202_203_204
      have H205 := hide (H204.out.setLoc Q1.out 8 (.slice p0_187 a187.args.length r0_187))
      have F205 := hide (F204.out.setLoc G1.out 8 (.slice p0_187 a187.args.length r0_187))
      clear H204 F204
      have V175_180_181_186_187_192_193_194_195_196_197_198_199_200_201_202_203_204_205_206 := hide (Prems.keep V175_180_181_186_187_192_193_194_195_196_197_198_199_200_201_202_203_204_205.out (Kp.setLoc (T := inner) (i := 9) (v := .bool a187.hasValue) LB1_2_4_5_10_15_16_21_26_27_117_122_123_165_170_175_180_181_186_187_192_193_194_195_196_197_198_199_200_201_202_203_204_205.out (by decide)))
      clear V175_180_181_186_187_192_193_194_195_196_197_198_199_200_201_202_203_204_205
      have V0_187_192_193_194_195_196_197_198_199_200_201_202_203_204_205_206 := hide (Strs.keep V0_187_192_193_194_195_196_197_198_199_200_201_202_203_204_205.out (Kp.setLoc (T := [9]) (i := 9) (v := .bool a187.hasValue) LB1_2_4_5_10_15_16_21_26_27_117_122_123_165_170_175_180_181_186_187_192_193_194_195_196_197_198_199_200_201_202_203_204_205.out (by decide)) (by decide))
      clear V0_187_192_193_194_195_196_197_198_199_200_201_202_203_204_205
      have LB1_2_4_5_10_15_16_21_26_27_117_122_123_165_170_175_180_181_186_187_192_193_194_195_196_197_198_199_200_201_202_203_204_205_206 := hide (loc_set (i := 9) (v := .bool a187.hasValue) LB1_2_4_5_10_15_16_21_26_27_117_122_123_165_170_175_180_181_186_187_192_193_194_195_196_197_198_199_200_201_202_203_204_205.out)
      have LB4_5_10_15_16_21_26_27_117_122_123_165_170_175_180_181_186_187_192_193_194_195_196_197_198_199_200_201_202_203_204_205_206 := hide (loc_other (p := ⟨w.heap.size, 9, none⟩) (v := .bool a187.hasValue) LB4_5_10_15_16_21_26_27_117_122_123_165_170_175_180_181_186_187_192_193_194_195_196_197_198_199_200_201_202_203_204_205.out (NE_1_0.out))
      clear LB1_2_4_5_10_15_16_21_26_27_117_122_123_165_170_175_180_181_186_187_192_193_194_195_196_197_198_199_200_201_202_203_204_205 LB4_5_10_15_16_21_26_27_117_122_123_165_170_175_180_181_186_187_192_193_194_195_196_197_198_199_200_201_202_203_204_205
      have H206 := hide (H205.out.setLoc Q1.out 9 (.bool a187.hasValue))
      have F206 := hide (F205.out.setLoc G1.out 9 (.bool a187.hasValue))
      clear H205 F205
      have V175_180_181_186_187_192_193_194_195_196_197_198_199_200_201_202_203_204_205_206_207 := hide (Prems.keep V175_180_181_186_187_192_193_194_195_196_197_198_199_200_201_202_203_204_205_206.out (Kp.setLoc (T := inner) (i := 10) (v := .int .i64 a187.value) LB1_2_4_5_10_15_16_21_26_27_117_122_123_165_170_175_180_181_186_187_192_193_194_195_196_197_198_199_200_201_202_203_204_205_206.out (by decide)))
      clear V175_180_181_186_187_192_193_194_195_196_197_198_199_200_201_202_203_204_205_206
      have V0_187_192_193_194_195_196_197_198_199_200_201_202_203_204_205_206_207 := hide (Strs.keep V0_187_192_193_194_195_196_197_198_199_200_201_202_203_204_205_206.out (Kp.setLoc (T := [9]) (i := 10) (v := .int .i64 a187.value) LB1_2_4_5_10_15_16_21_26_27_117_122_123_165_170_175_180_181_186_187_192_193_194_195_196_197_198_199_200_201_202_203_204_205_206.out (by decide)) (by decide))
      clear V0_187_192_193_194_195_196_197_198_199_200_201_202_203_204_205_206
      have LB1_2_4_5_10_15_16_21_26_27_117_122_123_165_170_175_180_181_186_187_192_193_194_195_196_197_198_199_200_201_202_203_204_205_206_207 := hide (loc_set (i := 10) (v := .int .i64 a187.value) LB1_2_4_5_10_15_16_21_26_27_117_122_123_165_170_175_180_181_186_187_192_193_194_195_196_197_198_199_200_201_202_203_204_205_206.out)
      have LB4_5_10_15_16_21_26_27_117_122_123_165_170_175_180_181_186_187_192_193_194_195_196_197_198_199_200_201_202_203_204_205_206_207 := hide (loc_other (p := ⟨w.heap.size, 10, none⟩) (v := .int .i64 a187.value) LB4_5_10_15_16_21_26_27_117_122_123_165_170_175_180_181_186_187_192_193_194_195_196_197_198_199_200_201_202_203_204_205_206.out (NE_1_0.out))
      clear LB1_2_4_5_10_15_16_21_26_27_117_122_123_165_170_175_180_181_186_187_192_193_194_195_196_197_198_199_200_201_202_203_204_205_206 LB4_5_10_15_16_21_26_27_117_122_123_165_170_175_180_181_186_187_192_193_194_195_196_197_198_199_200_201_202_203_204_205_206
      have H207 := hide (H206.out.setLoc Q1.out 10 (.int .i64 a187.value))
      have F207 := hide (F206.out.setLoc G1.out 10 (.int .i64 a187.value))
      clear H206 F206
      exact .of_ok HO187.out (⟨_, _, rfl, V175_180_181_186_187_192_193_194_195_196_197_198_199_200_201_202_203_204_205_206_207.out, V0_187_192_193_194_195_196_197_198_199_200_201_202_203_204_205_206_207.out⟩) H207.out F207.out

end
end Go.Proofs.YthnjmfkiohgkkaaGreatDoor.Sy
