/- SyntaxJoined: its walk. -/
import Derived.Test.YthnjmfkiohgkkaaGreatDoorHeld5
import Derived.Test.YthnjmfkiohgkkaaGreatDoorJoined5
import Derived.Test.YthnjmfkiohgkkaaGreatDoorRefAll
namespace Go.Proofs.YthnjmfkiohgkkaaGreatDoor.Sy
open Go.RowKit

/-- Lists so short that two of them may be one. -/
def ShortS (S : StatM) : Prop := S.kinds.length ≤ 8 ∧ S.members.length ≤ 32 ∧ S.preds.length ≤ 128 ∧ S.classes.length ≤ 32 ∧ S.sources.length ≤ 32 ∧ S.rules.length ≤ 256 ∧ S.excepts.length ≤ 256 ∧ S.totals.length ≤ 32

theorem ShortS.fits {S T : StatM} (h : ShortS S) (k : ShortS T) : Fits (joinS S T) := by
  obtain ⟨h1, h2, h3, h4, h5, h6, h7, h8⟩ := h
  obtain ⟨k1, k2, k3, k4, k5, k6, k7, k8⟩ := k
  constructor <;> simp only [joinS, List.length_append] <;> omega

theorem parse_zero {l : Bytes} (h : (parseM l).2.1 = 0) : (lexT l).err = 0 ∧ ∃ t, textM FN (kt (lexT l).tk) ⟨0, false, false⟩ = .ok (parseM l).1 t := by
  unfold parseM at h ⊢
  by_cases he : (lexT l).err = 0
  · rw [if_pos he] at h ⊢
    refine ⟨he, ?_⟩
    cases ht : textM FN (kt (lexT l).tk) ⟨0, false, false⟩ with
    | ok S t => exact ⟨t, rfl⟩
    | bad c n =>
      rw [ht] at h
      exact absurd h (nz_text FN _ _ _ _ ht)
  · rw [if_neg he] at h
    exact absurd (Int.ofNat_eq_zero.1 h) he

/-- A text and another one behind it, without a title. -/
theorem parse_joined {a b : Bytes} (ha : (parseM a).2.1 = 0) (hb : (parseM b).2.1 = 0) (hw : wordAt (kt (lexT b).tk) 0 [115, 116, 97, 116, 117, 116, 101] = false) (hf : Fits (joinS (parseM a).1 (parseM b).1)) (hl : a.length + b.length ≤ 65000) :
    (parseM (a ++ 10 :: b)).1 = joinS (parseM a).1 (parseM b).1 ∧ (parseM (a ++ 10 :: b)).2.1 = 0 := by
  obtain ⟨a1, s, a2⟩ := parse_zero ha
  obtain ⟨b1, t, b2⟩ := parse_zero hb
  obtain ⟨_, ea⟩ := lex_zero a1
  obtain ⟨_, eb⟩ := lex_zero b1
  have a1' := a1
  have b1' := b1
  rw [ea] at a1'
  rw [eb] at b1'
  obtain ⟨h1, h2⟩ := W_two a b a1' b1'
  have e2 := lex_of (l := a ++ 10 :: b) (by simp; omega)
  obtain ⟨m, hm⟩ := text_joined FN hw a2 b2 hf
  generalize (parseM a).1 = S at *
  generalize (parseM b).1 = T at *
  have hk : kt (lexT (a ++ 10 :: b)).tk = kt (lexT a).tk ++ kt (lexT b).tk := by rw [kt_bare, kt_bare, kt_bare, e2, ea, eb, h2]
  unfold parseM
  rw [if_pos (by rw [e2]; exact h1), hk, hm]
  exact ⟨rfl, rfl⟩

set_option maxRecDepth 100000 in
set_option maxHeartbeats 3200000 in
theorem short_any {R : Nat} {st : St9} {S : StatM} (w : World) (hS : SRep R w st S) :
    Calls Tryz.prog 15 #[St9.agg st] w fun e w' => (e = .returned (.bool false) ∨ (e = .returned (.bool true) ∧ ShortS S)) ∧ Below w.heap.size w w' := by
  obtain ⟨a1, c1, a2, c2, a3, c3, a4, c4, a5, c5, a6, c6, a7, c7, a8, c8, rfl⟩ := hS.form
  have BA := hide ((Below.refl w.heap.size w).alloc (Nat.le_refl _) (.cells #[.string ⟨S.title.toArray⟩, .slice a1 S.kinds.length c1, .slice a2 S.members.length c2, .slice a3 S.preds.length c3, .slice a4 S.classes.length c4, .slice a5 S.sources.length c5, .slice a6 S.rules.length c6, .slice a7 S.excepts.length c7, .slice a8 S.totals.length c8] 31))
  clear hS
  simp only [St9.agg]
  go_enter Tryz.func15, Tryz.ntmps15
  by_cases h8 : (S.totals.length : Int) ≤ 32
  · go_wp2_with fail
    all_goals go_ret
    all_goals first | exact ⟨.inl rfl, BA.out⟩ | exact ⟨.inr ⟨rfl, by unfold ShortS; omega⟩, BA.out⟩
  · go_wp2_with fail
    all_goals go_ret
    all_goals exact ⟨.inl rfl, BA.out⟩

/-- The three boxes and their statutes, at a world. -/
abbrev JI (w : World) (qs qt qx : Nat) (s0 s1 s2 s3 s4 s5 s6 s7 s8 t0 t1 t2 t3 t4 t5 t6 t7 t8 x0 x1 x2 x3 x4 x5 x6 x7 x8 : Value) (R1 R2 R3 : Nat) (S T U : StatM) (X : World) : Prop :=
  (X.cell? ⟨qs, 0, none⟩ = some s0 ∧ X.cell? ⟨qs, 1, none⟩ = some s1 ∧ X.cell? ⟨qs, 2, none⟩ = some s2 ∧ X.cell? ⟨qs, 3, none⟩ = some s3 ∧ X.cell? ⟨qs, 4, none⟩ = some s4 ∧ X.cell? ⟨qs, 5, none⟩ = some s5 ∧ X.cell? ⟨qs, 6, none⟩ = some s6 ∧ X.cell? ⟨qs, 7, none⟩ = some s7 ∧ X.cell? ⟨qs, 8, none⟩ = some s8) ∧
  (X.cell? ⟨qt, 0, none⟩ = some t0 ∧ X.cell? ⟨qt, 1, none⟩ = some t1 ∧ X.cell? ⟨qt, 2, none⟩ = some t2 ∧ X.cell? ⟨qt, 3, none⟩ = some t3 ∧ X.cell? ⟨qt, 4, none⟩ = some t4 ∧ X.cell? ⟨qt, 5, none⟩ = some t5 ∧ X.cell? ⟨qt, 6, none⟩ = some t6 ∧ X.cell? ⟨qt, 7, none⟩ = some t7 ∧ X.cell? ⟨qt, 8, none⟩ = some t8) ∧
  (X.cell? ⟨qx, 0, none⟩ = some x0 ∧ X.cell? ⟨qx, 1, none⟩ = some x1 ∧ X.cell? ⟨qx, 2, none⟩ = some x2 ∧ X.cell? ⟨qx, 3, none⟩ = some x3 ∧ X.cell? ⟨qx, 4, none⟩ = some x4 ∧ X.cell? ⟨qx, 5, none⟩ = some x5 ∧ X.cell? ⟨qx, 6, none⟩ = some x6 ∧ X.cell? ⟨qx, 7, none⟩ = some x7 ∧ X.cell? ⟨qx, 8, none⟩ = some x8) ∧
  (SRep R1 X ⟨s0, s1, s2, s3, s4, s5, s6, s7, s8⟩ S ∧ SRep R2 X ⟨t0, t1, t2, t3, t4, t5, t6, t7, t8⟩ T ∧ SRep R3 X ⟨x0, x1, x2, x3, x4, x5, x6, x7, x8⟩ U ∧ qs < X.heap.size ∧ qt < X.heap.size ∧ qx < X.heap.size ∧ Below w.heap.size w X)
theorem JI.last {w : World} {qs qt qx : Nat} {s0 s1 s2 s3 s4 s5 s6 s7 s8 t0 t1 t2 t3 t4 t5 t6 t7 t8 x0 x1 x2 x3 x4 x5 x6 x7 x8 : Value} {R1 R2 R3 : Nat} {S T U : StatM} {X : World} (h : JI w qs qt qx s0 s1 s2 s3 s4 s5 s6 s7 s8 t0 t1 t2 t3 t4 t5 t6 t7 t8 x0 x1 x2 x3 x4 x5 x6 x7 x8 R1 R2 R3 S T U X) : SRep R1 X ⟨s0, s1, s2, s3, s4, s5, s6, s7, s8⟩ S ∧ SRep R2 X ⟨t0, t1, t2, t3, t4, t5, t6, t7, t8⟩ T ∧ SRep R3 X ⟨x0, x1, x2, x3, x4, x5, x6, x7, x8⟩ U ∧ qs < X.heap.size ∧ qt < X.heap.size ∧ qx < X.heap.size ∧ Below w.heap.size w X := h.2.2.2
set_option maxRecDepth 100000 in
theorem JI.below {w : World} {qs qt qx : Nat} {s0 s1 s2 s3 s4 s5 s6 s7 s8 t0 t1 t2 t3 t4 t5 t6 t7 t8 x0 x1 x2 x3 x4 x5 x6 x7 x8 : Value} {R1 R2 R3 : Nat} {S T U : StatM} {X Y : World} (h : JI w qs qt qx s0 s1 s2 s3 s4 s5 s6 s7 s8 t0 t1 t2 t3 t4 t5 t6 t7 t8 x0 x1 x2 x3 x4 x5 x6 x7 x8 R1 R2 R3 S T U X) (hb : Below X.heap.size X Y) : JI w qs qt qx s0 s1 s2 s3 s4 s5 s6 s7 s8 t0 t1 t2 t3 t4 t5 t6 t7 t8 x0 x1 x2 x3 x4 x5 x6 x7 x8 R1 R2 R3 S T U Y := by
  obtain ⟨⟨a0, a1, a2, a3, a4, a5, a6, a7, a8⟩, ⟨b0, b1, b2, b3, b4, b5, b6, b7, b8⟩, ⟨c0, c1, c2, c3, c4, c5, c6, c7, c8⟩, k1, k2, k3, k4, k5, k6, k7⟩ := h
  exact ⟨⟨(hb.cell (p := ⟨qs, 0, none⟩) k4).trans a0, (hb.cell (p := ⟨qs, 1, none⟩) k4).trans a1, (hb.cell (p := ⟨qs, 2, none⟩) k4).trans a2, (hb.cell (p := ⟨qs, 3, none⟩) k4).trans a3, (hb.cell (p := ⟨qs, 4, none⟩) k4).trans a4, (hb.cell (p := ⟨qs, 5, none⟩) k4).trans a5, (hb.cell (p := ⟨qs, 6, none⟩) k4).trans a6, (hb.cell (p := ⟨qs, 7, none⟩) k4).trans a7, (hb.cell (p := ⟨qs, 8, none⟩) k4).trans a8⟩, ⟨(hb.cell (p := ⟨qt, 0, none⟩) k5).trans b0, (hb.cell (p := ⟨qt, 1, none⟩) k5).trans b1, (hb.cell (p := ⟨qt, 2, none⟩) k5).trans b2, (hb.cell (p := ⟨qt, 3, none⟩) k5).trans b3, (hb.cell (p := ⟨qt, 4, none⟩) k5).trans b4, (hb.cell (p := ⟨qt, 5, none⟩) k5).trans b5, (hb.cell (p := ⟨qt, 6, none⟩) k5).trans b6, (hb.cell (p := ⟨qt, 7, none⟩) k5).trans b7, (hb.cell (p := ⟨qt, 8, none⟩) k5).trans b8⟩, ⟨(hb.cell (p := ⟨qx, 0, none⟩) k6).trans c0, (hb.cell (p := ⟨qx, 1, none⟩) k6).trans c1, (hb.cell (p := ⟨qx, 2, none⟩) k6).trans c2, (hb.cell (p := ⟨qx, 3, none⟩) k6).trans c3, (hb.cell (p := ⟨qx, 4, none⟩) k6).trans c4, (hb.cell (p := ⟨qx, 5, none⟩) k6).trans c5, (hb.cell (p := ⟨qx, 6, none⟩) k6).trans c6, (hb.cell (p := ⟨qx, 7, none⟩) k6).trans c7, (hb.cell (p := ⟨qx, 8, none⟩) k6).trans c8⟩, k1.keep (Kp.of_below hb), k2.keep (Kp.of_below hb), k3.keep (Kp.of_below hb), Nat.lt_of_lt_of_le k4 hb.size, Nat.lt_of_lt_of_le k5 hb.size, Nat.lt_of_lt_of_le k6 hb.size, k7.trans (hb.mono k7.size)⟩
theorem JI.drew {w : World} {qs qt qx : Nat} {s0 s1 s2 s3 s4 s5 s6 s7 s8 t0 t1 t2 t3 t4 t5 t6 t7 t8 x0 x1 x2 x3 x4 x5 x6 x7 x8 : Value} {R1 R2 R3 : Nat} {S T U : StatM} {X : World} (h : JI w qs qt qx s0 s1 s2 s3 s4 s5 s6 s7 s8 t0 t1 t2 t3 t4 t5 t6 t7 t8 x0 x1 x2 x3 x4 x5 x6 x7 x8 R1 R2 R3 S T U X) : JI w qs qt qx s0 s1 s2 s3 s4 s5 s6 s7 s8 t0 t1 t2 t3 t4 t5 t6 t7 t8 x0 x1 x2 x3 x4 x5 x6 x7 x8 R1 R2 R3 S T U X.drew := h.below (Below.refl _ X).drew
theorem JI.joined {w : World} {qs qt qx : Nat} {s0 s1 s2 s3 s4 s5 s6 s7 s8 t0 t1 t2 t3 t4 t5 t6 t7 t8 x0 x1 x2 x3 x4 x5 x6 x7 x8 : Value} {R1 R2 R3 : Nat} {S T U : StatM} {X : World} (h : JI w qs qt qx s0 s1 s2 s3 s4 s5 s6 s7 s8 t0 t1 t2 t3 t4 t5 t6 t7 t8 x0 x1 x2 x3 x4 x5 x6 x7 x8 R1 R2 R3 S T U X) (hs : SmallS S) (hf : Fits (joinS S T)) :
    Calls Tryz.prog 16 #[.agg #[s0, s1, s2, s3, s4, s5, s6, s7, s8], .agg #[t0, t1, t2, t3, t4, t5, t6, t7, t8]] X fun e w' => ∃ g0 g1 g2 g3 g4 g5 g6 g7 g8, e = .returned (.agg #[g0, g1, g2, g3, g4, g5, g6, g7, g8]) ∧ SZ (fun _ => True) w' ⟨g0, g1, g2, g3, g4, g5, g6, g7, g8⟩ (joinS S T) ∧ Below X.heap.size X w' :=
  (joined_any X h.last.1 h.last.2.1 hs hf).mono fun _ _ ⟨⟨_, _, _, _, _, _, _, _, _⟩, he, hZ, hb⟩ => ⟨_, _, _, _, _, _, _, _, _, he, hZ, hb⟩
set_option maxRecDepth 100000 in
theorem JI.same {w : World} {qs qt qx : Nat} {s0 s1 s2 s3 s4 s5 s6 s7 s8 t0 t1 t2 t3 t4 t5 t6 t7 t8 x0 x1 x2 x3 x4 x5 x6 x7 x8 : Value} {R1 R2 R3 : Nat} {S T U : StatM} {X : World} (h : JI w qs qt qx s0 s1 s2 s3 s4 s5 s6 s7 s8 t0 t1 t2 t3 t4 t5 t6 t7 t8 x0 x1 x2 x3 x4 x5 x6 x7 x8 R1 R2 R3 S T U X) (hs : SmallS U) {g0 g1 g2 g3 g4 g5 g6 g7 g8 : Value} (hZ : SZ (fun _ => True) X ⟨g0, g1, g2, g3, g4, g5, g6, g7, g8⟩ U) :
    Calls Tryz.prog 10 #[.agg #[x0, x1, x2, x3, x4, x5, x6, x7, x8], .agg #[g0, g1, g2, g3, g4, g5, g6, g7, g8]] X fun e w' => e = .returned (.bool true) ∧ Below X.heap.size X w' := by
  have h' := yes_sameZ X h.last.2.2.1.sz hZ hs
  simp only [St9.agg] at h'
  exact h'
theorem SZ.drew {Z : Nat → Prop} {X : World} {st : St9} {S : StatM} (h : SZ Z X st S) : SZ Z X.drew st S := h.keep (Kp.of_below (Below.refl _ X).drew)

set_option maxRecDepth 100000 in
set_option maxHeartbeats 6400000 in
theorem joined_walk (a b : ByteArray) (w : World) (hV : Vars w.heap.size w) (ha : a.size ≤ 140737488355328) (hb : b.size ≤ 140737488355328) :
    Calls Tryz.prog 6 #[.string a, .string b] w fun e w' => e = .returned (.bool true) ∧ Below w.heap.size w w' := by
  have CA := hide (alive_any w hV)
  have CN := hide num_any
  have CT := hide (fun w => refTokens_any b w)
  have CP1 := hide (fun w h => parse_any a w h)
  have CP2 := hide (fun w h => parse_any b w h)
  have CP3 := hide (fun w h => parse_any (a ++ ⟨#[10]⟩ ++ b) w h)
  have hab : (a ++ ⟨#[10]⟩ ++ b : ByteArray).data.toList = a.data.toList ++ 10 :: b.data.toList := by simp
  rw [hab] at CP3
  have hal : a.data.toList.length = a.size := by simp
  have hbl : b.data.toList.length = b.size := by simp
  have HJ := hide (fun h1 h2 h3 h4 h5 => parse_joined (a := a.data.toList) (b := b.data.toList) h1 h2 h3 h4 h5)
  rw [hal, hbl] at HJ
  have HH1 := hide (parse_held a.data.toList)
  have HH3 := hide (parse_held (a.data.toList ++ 10 :: b.data.toList))
  have HV := hide hV
  clear hV hab hal hbl
  generalize lexT b.data.toList = Z at *
  generalize parseM (a.data.toList ++ 10 :: b.data.toList) = P3 at *
  generalize parseM a.data.toList = P1 at *
  generalize parseM b.data.toList = P2 at *
  obtain ⟨S, e1, p1⟩ := P1
  obtain ⟨T, e2, p2⟩ := P2
  obtain ⟨U, e3, p3⟩ := P3
  simp only at CP1 CP2 CP3 HJ HH1 HH3
  go_enter Tryz.func6, Tryz.ntmps6
  go_wp2_with fail
  refine CA.out.mono ?_
  rintro _ w1 ⟨rfl, hb1⟩
  have HB1 := hide hb1
  clear CA hb1
  go_wp2_with fail
  refine (CP1.out w1 (HV.out.up HB1.out.size fun k hk => HB1.out.block k hk)).mono ?_
  rintro _ w2 ⟨R1, st1, rfl, _, hS1, hb2⟩
  obtain ⟨xa1, xc1, xa2, xc2, xa3, xc3, xa4, xc4, xa5, xc5, xa6, xc6, xa7, xc7, xa8, xc8, rfl⟩ := hS1.form
  have BA := (Below.refl w2.heap.size w2).alloc (Nat.le_refl _) (.cells #[.string ⟨S.title.toArray⟩, .slice xa1 S.kinds.length xc1, .slice xa2 S.members.length xc2, .slice xa3 S.preds.length xc3, .slice xa4 S.classes.length xc4, .slice xa5 S.sources.length xc5, .slice xa6 S.rules.length xc6, .slice xa7 S.excepts.length xc7, .slice xa8 S.totals.length xc8] 31)
  have HB2 := hide ((HB1.out.trans (hb2.mono HB1.out.size)).trans (BA.mono (Nat.le_trans HB1.out.size hb2.size)))
  have HS1 := hide (hS1.keep (Kp.of_below BA))
  have LS := hide (heap_alloc_new w2 (.cells #[.string ⟨S.title.toArray⟩, .slice xa1 S.kinds.length xc1, .slice xa2 S.members.length xc2, .slice xa3 S.preds.length xc3, .slice xa4 S.classes.length xc4, .slice xa5 S.sources.length xc5, .slice xa6 S.rules.length xc6, .slice xa7 S.excepts.length xc7, .slice xa8 S.totals.length xc8] 31))
  clear hb2 hS1 HB1 BA CP1
  simp only [St9.agg]
  go_wp2_with fail
  refine (CP2.out _ (HV.out.up HB2.out.size fun k hk => HB2.out.block k hk)).mono ?_
  rintro _ w3 ⟨R2, st2, rfl, _, hS2, hb3⟩
  obtain ⟨ya1, yc1, ya2, yc2, ya3, yc3, ya4, yc4, ya5, yc5, ya6, yc6, ya7, yc7, ya8, yc8, rfl⟩ := hS2.form
  generalize (⟨T.title.toArray⟩ : ByteArray) = tt at hS2 ⊢
  have BA := (Below.refl w3.heap.size w3).alloc (Nat.le_refl _) (.cells #[.string tt, .slice ya1 T.kinds.length yc1, .slice ya2 T.members.length yc2, .slice ya3 T.preds.length yc3, .slice ya4 T.classes.length yc4, .slice ya5 T.sources.length yc5, .slice ya6 T.rules.length yc6, .slice ya7 T.excepts.length yc7, .slice ya8 T.totals.length yc8] 31)
  have HB3 := hide ((HB2.out.trans (hb3.mono HB2.out.size)).trans (BA.mono (Nat.le_trans HB2.out.size hb3.size)))
  have HS1b := hide ((HS1.out.keep (Kp.of_below hb3)).keep (Kp.of_below BA))
  have HS2 := hide (hS2.keep (Kp.of_below BA))
  have LS1 := hide ((hb3.block _ (loc_lt LS.out)).trans LS.out)
  have n1 := Nat.ne_of_lt (loc_lt LS1.out)
  have n2 := Nat.ne_of_gt (loc_lt LS1.out)
  have LS2 := hide ((BA.block _ (loc_lt LS1.out)).trans LS1.out)
  have LT := hide (heap_alloc_new w3 (.cells #[.string tt, .slice ya1 T.kinds.length yc1, .slice ya2 T.members.length yc2, .slice ya3 T.preds.length yc3, .slice ya4 T.classes.length yc4, .slice ya5 T.sources.length yc5, .slice ya6 T.rules.length yc6, .slice ya7 T.excepts.length yc7, .slice ya8 T.totals.length yc8] 31))
  clear hb3 hS2 HB2 BA CP2 HS1 LS LS1
  obtain ⟨k0, k1, k2, k3, k4, k5, k6, k7, k8, kf⟩ := row9 LS2.out
  simp only [St9.agg]
  have C4 := hide (short_any _ HS1b.out)
  simp only [St9.agg] at C4
  by_cases h1 : e1 = 0
  · subst h1
    by_cases h2 : e2 = 0
    · subst h2
      go_wp2_with (go_at_call 11; refine (CN.out _ _).mono ?_; rintro _ w9 ⟨rfl, hw9⟩; subst w9)
      · refine C4.out.mono ?_
        rintro _ w4 ⟨he4, hb4⟩
        have HB4 := hide (HB3.out.trans (hb4.mono HB3.out.size))
        have HS1c := hide (HS1b.out.keep (Kp.of_below hb4))
        have HS2c := hide (HS2.out.keep (Kp.of_below hb4))
        have LS4 := hide ((hb4.block _ (loc_lt LS2.out)).trans LS2.out)
        have LT4 := hide ((hb4.block _ (loc_lt LT.out)).trans LT.out)
        clear C4 hb4 HB3 HS1b HS2 LS2 LT k0 k1 k2 k3 k4 k5 k6 k7 k8 kf n1 n2
        rcases he4 with rfl | ⟨rfl, hsh1⟩
        · go_wp2_with fail
          go_ret
          exact ⟨rfl, HB4.out⟩
        · obtain ⟨l0, l1, l2, l3, l4, l5, l6, l7, l8, lf⟩ := row9 LT4.out
          have C5 := hide (short_any _ HS2c.out)
          simp only [St9.agg] at C5
          go_wp2_with fail
          refine C5.out.mono ?_
          rintro _ w5 ⟨he5, hb5⟩
          have HB5 := hide (HB4.out.trans (hb5.mono HB4.out.size))
          have HS1d := hide (HS1c.out.keep (Kp.of_below hb5))
          have HS2d := hide (HS2c.out.keep (Kp.of_below hb5))
          have LS5 := hide ((hb5.block _ (loc_lt LS4.out)).trans LS4.out)
          have LT5 := hide ((hb5.block _ (loc_lt LT4.out)).trans LT4.out)
          clear C5 hb5 HB4 HS1c HS2c LS4 LT4 l0 l1 l2 l3 l4 l5 l6 l7 l8 lf
          rcases he5 with rfl | ⟨rfl, hsh2⟩
          · go_wp2_with fail
            go_ret
            exact ⟨rfl, HB5.out⟩
          · by_cases hl : 65000 < a.size + b.size
            · have hl' : 65000 < (a.size : Int) + (b.size : Int) := by omega
              go_wp2_with fail
              go_ret
              exact ⟨rfl, HB5.out⟩
            · have hl' : ¬ 65000 < (a.size : Int) + (b.size : Int) := by omega
              go_wp2_with fail
              refine (CT.out w5).mono ?_
              rintro _ w6 ⟨v, rfl, ho, hb6⟩
              obtain ⟨ta, tc, rfl, hr⟩ := own_rowT ho
              have HB6 := hide (HB5.out.trans (hb6.mono HB5.out.size))
              have HS1e := hide (HS1d.out.keep (Kp.of_below hb6))
              have HS2e := hide (HS2d.out.keep (Kp.of_below hb6))
              have LS6 := hide ((hb6.block _ (loc_lt LS5.out)).trans LS5.out)
              have LT6 := hide ((hb6.block _ (loc_lt LT5.out)).trans LT5.out)
              clear CT ho hb6 HB5 HS1d HS2d LS5 LT5
              cases htk : Z.tk with
              | nil =>
                rw [htk] at HJ
                have hw : wordAt (kt []) 0 [115, 116, 97, 116, 117, 116, 101] = false := rfl
                rw [List.length_nil]
                clear hr
                obtain ⟨hU, he3⟩ := HJ.out (by trivial) (by trivial) hw (hsh1.fits hsh2) (by omega)
                subst hU
                subst he3
                clear HJ
                go_wp2_with fail
                refine (CP3.out _ (HV.out.up HB6.out.size fun k hk => HB6.out.block k hk)).mono ?_
                rintro _ w7 ⟨R3, st3, rfl, _, hS3, hb7⟩
                obtain ⟨za1, zc1, za2, zc2, za3, zc3, za4, zc4, za5, zc5, za6, zc6, za7, zc7, za8, zc8, rfl⟩ := hS3.form
                have BA := (Below.refl w7.heap.size w7).alloc (Nat.le_refl _) (.cells #[.string ⟨(joinS S T).title.toArray⟩, .slice za1 (joinS S T).kinds.length zc1, .slice za2 (joinS S T).members.length zc2, .slice za3 (joinS S T).preds.length zc3, .slice za4 (joinS S T).classes.length zc4, .slice za5 (joinS S T).sources.length zc5, .slice za6 (joinS S T).rules.length zc6, .slice za7 (joinS S T).excepts.length zc7, .slice za8 (joinS S T).totals.length zc8] 31)
                have HB7 := hide ((HB6.out.trans (hb7.mono HB6.out.size)).trans (BA.mono (Nat.le_trans HB6.out.size hb7.size)))
                have G1 := hide ((HS1e.out.keep (Kp.of_below hb7)).keep (Kp.of_below BA))
                have G2 := hide ((HS2e.out.keep (Kp.of_below hb7)).keep (Kp.of_below BA))
                have G3 := hide (hS3.keep (Kp.of_below BA))
                have LS7 := hide ((hb7.block _ (loc_lt LS6.out)).trans LS6.out)
                have LT7 := hide ((hb7.block _ (loc_lt LT6.out)).trans LT6.out)
                have n1 := Nat.ne_of_lt (loc_lt LS7.out)
                have n2 := Nat.ne_of_gt (loc_lt LS7.out)
                have n3 := Nat.ne_of_lt (loc_lt LT7.out)
                have n4 := Nat.ne_of_gt (loc_lt LT7.out)
                have LS8 := hide ((BA.block _ (loc_lt LS7.out)).trans LS7.out)
                have LT8 := hide ((BA.block _ (loc_lt LT7.out)).trans LT7.out)
                have LX := hide (heap_alloc_new w7 (.cells #[.string ⟨(joinS S T).title.toArray⟩, .slice za1 (joinS S T).kinds.length zc1, .slice za2 (joinS S T).members.length zc2, .slice za3 (joinS S T).preds.length zc3, .slice za4 (joinS S T).classes.length zc4, .slice za5 (joinS S T).sources.length zc5, .slice za6 (joinS S T).rules.length zc6, .slice za7 (joinS S T).excepts.length zc7, .slice za8 (joinS S T).totals.length zc8] 31))
                obtain ⟨k0, k1, k2, k3, k4, k5, k6, k7, k8, kf⟩ := row9 LS8.out
                obtain ⟨l0, l1, l2, l3, l4, l5, l6, l7, l8, lf⟩ := row9 LT8.out
                obtain ⟨m0, m1, m2, m3, m4, m5, m6, m7, m8, mf⟩ := row9 LX.out
                have HI : JI w w2.heap.size w3.heap.size w7.heap.size (.string ⟨S.title.toArray⟩) (.slice xa1 S.kinds.length xc1) (.slice xa2 S.members.length xc2) (.slice xa3 S.preds.length xc3) (.slice xa4 S.classes.length xc4) (.slice xa5 S.sources.length xc5) (.slice xa6 S.rules.length xc6) (.slice xa7 S.excepts.length xc7) (.slice xa8 S.totals.length xc8) (.string tt) (.slice ya1 T.kinds.length yc1) (.slice ya2 T.members.length yc2) (.slice ya3 T.preds.length yc3) (.slice ya4 T.classes.length yc4) (.slice ya5 T.sources.length yc5) (.slice ya6 T.rules.length yc6) (.slice ya7 T.excepts.length yc7) (.slice ya8 T.totals.length yc8) (.string ⟨(joinS S T).title.toArray⟩) (.slice za1 (joinS S T).kinds.length zc1) (.slice za2 (joinS S T).members.length zc2) (.slice za3 (joinS S T).preds.length zc3) (.slice za4 (joinS S T).classes.length zc4) (.slice za5 (joinS S T).sources.length zc5) (.slice za6 (joinS S T).rules.length zc6) (.slice za7 (joinS S T).excepts.length zc7) (.slice za8 (joinS S T).totals.length zc8) R1 R2 R3 S T (joinS S T) _ := ⟨⟨k0, k1, k2, k3, k4, k5, k6, k7, k8⟩, ⟨l0, l1, l2, l3, l4, l5, l6, l7, l8⟩, ⟨m0, m1, m2, m3, m4, m5, m6, m7, m8⟩, G1.out, G2.out, G3.out, loc_lt LS8.out, loc_lt LT8.out, loc_lt LX.out, HB7.out⟩
                have hss := HH1.out.small
                have hsu := HH3.out.small
                have hff := hsh1.fits hsh2
                clear hb7 hS3 HB6 BA CP3 HS1e HS2e LS6 LT6 LS7 LT7 G1 G2 G3 HB7 LX LS8 LT8 kf lf mf n1 n2 n3 n4
                simp only [St9.agg]
                go_wp2_with fail
                go_region_held3 (fun X : World => JI w w2.heap.size w3.heap.size w7.heap.size (.string ⟨S.title.toArray⟩) (.slice xa1 S.kinds.length xc1) (.slice xa2 S.members.length xc2) (.slice xa3 S.preds.length xc3) (.slice xa4 S.classes.length xc4) (.slice xa5 S.sources.length xc5) (.slice xa6 S.rules.length xc6) (.slice xa7 S.excepts.length xc7) (.slice xa8 S.totals.length xc8) (.string tt) (.slice ya1 T.kinds.length yc1) (.slice ya2 T.members.length yc2) (.slice ya3 T.preds.length yc3) (.slice ya4 T.classes.length yc4) (.slice ya5 T.sources.length yc5) (.slice ya6 T.rules.length yc6) (.slice ya7 T.excepts.length yc7) (.slice ya8 T.totals.length yc8) (.string ⟨(joinS S T).title.toArray⟩) (.slice za1 (joinS S T).kinds.length zc1) (.slice za2 (joinS S T).members.length zc2) (.slice za3 (joinS S T).preds.length zc3) (.slice za4 (joinS S T).classes.length zc4) (.slice za5 (joinS S T).sources.length zc5) (.slice za6 (joinS S T).rules.length zc6) (.slice za7 (joinS S T).excepts.length zc7) (.slice za8 (joinS S T).totals.length zc8) R1 R2 R3 S T (joinS S T) X) (first | assumption | exact JI.drew ‹_› | exact JI.below ‹_› ‹_›) (first | (go_at_call 11; refine (CN.out _ _).mono ?_; rintro e w' ⟨rfl, hw⟩; subst hw) | (go_at_call 16; refine (JI.joined ‹_› hss hff).mono ?_; rintro e w' ⟨g0, g1, g2, g3, g4, g5, g6, g7, g8, rfl, hZ, hb⟩) | (go_at_call 10; (first | refine (JI.same ‹_› hsu ‹_›).mono ?_ | refine (JI.same ‹_› hsu (SZ.drew ‹_›)).mono ?_); rintro e w' ⟨rfl, hb⟩))
                rename_i hI
                go_wp2_with fail
                go_ret
                exact ⟨rfl, hI.last.2.2.2.2.2.2⟩
              | cons t r =>
                obtain ⟨tb, tof, rfl, r0, r1, _⟩ := hr 0 t (by rw [htk]; rfl)
                simp only [strV, Nat.zero_mul, Nat.add_zero] at r0 r1
                rw [htk] at HJ
                have hpos : 0 < (t :: r).length := by simp
                generalize (t :: r).length = tn at *
                clear hr htk
                by_cases hk : t.kind = 1
                · by_cases hx : t.text = [115, 116, 97, 116, 117, 116, 101]
                  · rw [hk] at r0
                    rw [hx] at r1
                    go_wp2_with fail
                    go_ret
                    exact ⟨rfl, HB6.out⟩
                  · have hw : wordAt (kt (t :: r)) 0 [115, 116, 97, 116, 117, 116, 101] = false := by
                      unfold wordAt
                      exact Bool.and_eq_false_iff.2 (.inr (decide_eq_false hx))
                    rw [hk] at r0
                    obtain ⟨hU, he3⟩ := HJ.out (by trivial) (by trivial) hw (hsh1.fits hsh2) (by omega)
                    subst hU
                    subst he3
                    clear HJ
                    go_wp2_with fail
                    · go_ret
                      exact ⟨rfl, HB6.out⟩
                    · refine (CP3.out _ (HV.out.up HB6.out.size fun k hk => HB6.out.block k hk)).mono ?_
                      rintro _ w7 ⟨R3, st3, rfl, _, hS3, hb7⟩
                      obtain ⟨za1, zc1, za2, zc2, za3, zc3, za4, zc4, za5, zc5, za6, zc6, za7, zc7, za8, zc8, rfl⟩ := hS3.form
                      have BA := (Below.refl w7.heap.size w7).alloc (Nat.le_refl _) (.cells #[.string ⟨(joinS S T).title.toArray⟩, .slice za1 (joinS S T).kinds.length zc1, .slice za2 (joinS S T).members.length zc2, .slice za3 (joinS S T).preds.length zc3, .slice za4 (joinS S T).classes.length zc4, .slice za5 (joinS S T).sources.length zc5, .slice za6 (joinS S T).rules.length zc6, .slice za7 (joinS S T).excepts.length zc7, .slice za8 (joinS S T).totals.length zc8] 31)
                      have HB7 := hide ((HB6.out.trans (hb7.mono HB6.out.size)).trans (BA.mono (Nat.le_trans HB6.out.size hb7.size)))
                      have G1 := hide ((HS1e.out.keep (Kp.of_below hb7)).keep (Kp.of_below BA))
                      have G2 := hide ((HS2e.out.keep (Kp.of_below hb7)).keep (Kp.of_below BA))
                      have G3 := hide (hS3.keep (Kp.of_below BA))
                      have LS7 := hide ((hb7.block _ (loc_lt LS6.out)).trans LS6.out)
                      have LT7 := hide ((hb7.block _ (loc_lt LT6.out)).trans LT6.out)
                      have n1 := Nat.ne_of_lt (loc_lt LS7.out)
                      have n2 := Nat.ne_of_gt (loc_lt LS7.out)
                      have n3 := Nat.ne_of_lt (loc_lt LT7.out)
                      have n4 := Nat.ne_of_gt (loc_lt LT7.out)
                      have LS8 := hide ((BA.block _ (loc_lt LS7.out)).trans LS7.out)
                      have LT8 := hide ((BA.block _ (loc_lt LT7.out)).trans LT7.out)
                      have LX := hide (heap_alloc_new w7 (.cells #[.string ⟨(joinS S T).title.toArray⟩, .slice za1 (joinS S T).kinds.length zc1, .slice za2 (joinS S T).members.length zc2, .slice za3 (joinS S T).preds.length zc3, .slice za4 (joinS S T).classes.length zc4, .slice za5 (joinS S T).sources.length zc5, .slice za6 (joinS S T).rules.length zc6, .slice za7 (joinS S T).excepts.length zc7, .slice za8 (joinS S T).totals.length zc8] 31))
                      obtain ⟨k0, k1, k2, k3, k4, k5, k6, k7, k8, kf⟩ := row9 LS8.out
                      obtain ⟨l0, l1, l2, l3, l4, l5, l6, l7, l8, lf⟩ := row9 LT8.out
                      obtain ⟨m0, m1, m2, m3, m4, m5, m6, m7, m8, mf⟩ := row9 LX.out
                      have HI : JI w w2.heap.size w3.heap.size w7.heap.size (.string ⟨S.title.toArray⟩) (.slice xa1 S.kinds.length xc1) (.slice xa2 S.members.length xc2) (.slice xa3 S.preds.length xc3) (.slice xa4 S.classes.length xc4) (.slice xa5 S.sources.length xc5) (.slice xa6 S.rules.length xc6) (.slice xa7 S.excepts.length xc7) (.slice xa8 S.totals.length xc8) (.string tt) (.slice ya1 T.kinds.length yc1) (.slice ya2 T.members.length yc2) (.slice ya3 T.preds.length yc3) (.slice ya4 T.classes.length yc4) (.slice ya5 T.sources.length yc5) (.slice ya6 T.rules.length yc6) (.slice ya7 T.excepts.length yc7) (.slice ya8 T.totals.length yc8) (.string ⟨(joinS S T).title.toArray⟩) (.slice za1 (joinS S T).kinds.length zc1) (.slice za2 (joinS S T).members.length zc2) (.slice za3 (joinS S T).preds.length zc3) (.slice za4 (joinS S T).classes.length zc4) (.slice za5 (joinS S T).sources.length zc5) (.slice za6 (joinS S T).rules.length zc6) (.slice za7 (joinS S T).excepts.length zc7) (.slice za8 (joinS S T).totals.length zc8) R1 R2 R3 S T (joinS S T) _ := ⟨⟨k0, k1, k2, k3, k4, k5, k6, k7, k8⟩, ⟨l0, l1, l2, l3, l4, l5, l6, l7, l8⟩, ⟨m0, m1, m2, m3, m4, m5, m6, m7, m8⟩, G1.out, G2.out, G3.out, loc_lt LS8.out, loc_lt LT8.out, loc_lt LX.out, HB7.out⟩
                      have hss := HH1.out.small
                      have hsu := HH3.out.small
                      have hff := hsh1.fits hsh2
                      clear hb7 hS3 HB6 BA CP3 HS1e HS2e LS6 LT6 LS7 LT7 G1 G2 G3 HB7 LX LS8 LT8 kf lf mf n1 n2 n3 n4
                      simp only [St9.agg]
                      go_wp2_with fail
                      go_region_held3 (fun X : World => JI w w2.heap.size w3.heap.size w7.heap.size (.string ⟨S.title.toArray⟩) (.slice xa1 S.kinds.length xc1) (.slice xa2 S.members.length xc2) (.slice xa3 S.preds.length xc3) (.slice xa4 S.classes.length xc4) (.slice xa5 S.sources.length xc5) (.slice xa6 S.rules.length xc6) (.slice xa7 S.excepts.length xc7) (.slice xa8 S.totals.length xc8) (.string tt) (.slice ya1 T.kinds.length yc1) (.slice ya2 T.members.length yc2) (.slice ya3 T.preds.length yc3) (.slice ya4 T.classes.length yc4) (.slice ya5 T.sources.length yc5) (.slice ya6 T.rules.length yc6) (.slice ya7 T.excepts.length yc7) (.slice ya8 T.totals.length yc8) (.string ⟨(joinS S T).title.toArray⟩) (.slice za1 (joinS S T).kinds.length zc1) (.slice za2 (joinS S T).members.length zc2) (.slice za3 (joinS S T).preds.length zc3) (.slice za4 (joinS S T).classes.length zc4) (.slice za5 (joinS S T).sources.length zc5) (.slice za6 (joinS S T).rules.length zc6) (.slice za7 (joinS S T).excepts.length zc7) (.slice za8 (joinS S T).totals.length zc8) R1 R2 R3 S T (joinS S T) X) (first | assumption | exact JI.drew ‹_› | exact JI.below ‹_› ‹_›) (first | (go_at_call 11; refine (CN.out _ _).mono ?_; rintro e w' ⟨rfl, hw⟩; subst hw) | (go_at_call 16; refine (JI.joined ‹_› hss hff).mono ?_; rintro e w' ⟨g0, g1, g2, g3, g4, g5, g6, g7, g8, rfl, hZ, hb⟩) | (go_at_call 10; (first | refine (JI.same ‹_› hsu ‹_›).mono ?_ | refine (JI.same ‹_› hsu (SZ.drew ‹_›)).mono ?_); rintro e w' ⟨rfl, hb⟩))
                      rename_i hI
                      go_wp2_with fail
                      go_ret
                      exact ⟨rfl, hI.last.2.2.2.2.2.2⟩
                · have hw : wordAt (kt (t :: r)) 0 [115, 116, 97, 116, 117, 116, 101] = false := by
                    unfold wordAt
                    exact Bool.and_eq_false_iff.2 (.inl (decide_eq_false hk))
                  have hk' : ¬ (t.kind : Int) = 1 := by omega
                  obtain ⟨hU, he3⟩ := HJ.out (by trivial) (by trivial) hw (hsh1.fits hsh2) (by omega)
                  subst hU
                  subst he3
                  clear HJ
                  go_wp2_with fail
                  refine (CP3.out _ (HV.out.up HB6.out.size fun k hk => HB6.out.block k hk)).mono ?_
                  rintro _ w7 ⟨R3, st3, rfl, _, hS3, hb7⟩
                  obtain ⟨za1, zc1, za2, zc2, za3, zc3, za4, zc4, za5, zc5, za6, zc6, za7, zc7, za8, zc8, rfl⟩ := hS3.form
                  have BA := (Below.refl w7.heap.size w7).alloc (Nat.le_refl _) (.cells #[.string ⟨(joinS S T).title.toArray⟩, .slice za1 (joinS S T).kinds.length zc1, .slice za2 (joinS S T).members.length zc2, .slice za3 (joinS S T).preds.length zc3, .slice za4 (joinS S T).classes.length zc4, .slice za5 (joinS S T).sources.length zc5, .slice za6 (joinS S T).rules.length zc6, .slice za7 (joinS S T).excepts.length zc7, .slice za8 (joinS S T).totals.length zc8] 31)
                  have HB7 := hide ((HB6.out.trans (hb7.mono HB6.out.size)).trans (BA.mono (Nat.le_trans HB6.out.size hb7.size)))
                  have G1 := hide ((HS1e.out.keep (Kp.of_below hb7)).keep (Kp.of_below BA))
                  have G2 := hide ((HS2e.out.keep (Kp.of_below hb7)).keep (Kp.of_below BA))
                  have G3 := hide (hS3.keep (Kp.of_below BA))
                  have LS7 := hide ((hb7.block _ (loc_lt LS6.out)).trans LS6.out)
                  have LT7 := hide ((hb7.block _ (loc_lt LT6.out)).trans LT6.out)
                  have n1 := Nat.ne_of_lt (loc_lt LS7.out)
                  have n2 := Nat.ne_of_gt (loc_lt LS7.out)
                  have n3 := Nat.ne_of_lt (loc_lt LT7.out)
                  have n4 := Nat.ne_of_gt (loc_lt LT7.out)
                  have LS8 := hide ((BA.block _ (loc_lt LS7.out)).trans LS7.out)
                  have LT8 := hide ((BA.block _ (loc_lt LT7.out)).trans LT7.out)
                  have LX := hide (heap_alloc_new w7 (.cells #[.string ⟨(joinS S T).title.toArray⟩, .slice za1 (joinS S T).kinds.length zc1, .slice za2 (joinS S T).members.length zc2, .slice za3 (joinS S T).preds.length zc3, .slice za4 (joinS S T).classes.length zc4, .slice za5 (joinS S T).sources.length zc5, .slice za6 (joinS S T).rules.length zc6, .slice za7 (joinS S T).excepts.length zc7, .slice za8 (joinS S T).totals.length zc8] 31))
                  obtain ⟨k0, k1, k2, k3, k4, k5, k6, k7, k8, kf⟩ := row9 LS8.out
                  obtain ⟨l0, l1, l2, l3, l4, l5, l6, l7, l8, lf⟩ := row9 LT8.out
                  obtain ⟨m0, m1, m2, m3, m4, m5, m6, m7, m8, mf⟩ := row9 LX.out
                  have HI : JI w w2.heap.size w3.heap.size w7.heap.size (.string ⟨S.title.toArray⟩) (.slice xa1 S.kinds.length xc1) (.slice xa2 S.members.length xc2) (.slice xa3 S.preds.length xc3) (.slice xa4 S.classes.length xc4) (.slice xa5 S.sources.length xc5) (.slice xa6 S.rules.length xc6) (.slice xa7 S.excepts.length xc7) (.slice xa8 S.totals.length xc8) (.string tt) (.slice ya1 T.kinds.length yc1) (.slice ya2 T.members.length yc2) (.slice ya3 T.preds.length yc3) (.slice ya4 T.classes.length yc4) (.slice ya5 T.sources.length yc5) (.slice ya6 T.rules.length yc6) (.slice ya7 T.excepts.length yc7) (.slice ya8 T.totals.length yc8) (.string ⟨(joinS S T).title.toArray⟩) (.slice za1 (joinS S T).kinds.length zc1) (.slice za2 (joinS S T).members.length zc2) (.slice za3 (joinS S T).preds.length zc3) (.slice za4 (joinS S T).classes.length zc4) (.slice za5 (joinS S T).sources.length zc5) (.slice za6 (joinS S T).rules.length zc6) (.slice za7 (joinS S T).excepts.length zc7) (.slice za8 (joinS S T).totals.length zc8) R1 R2 R3 S T (joinS S T) _ := ⟨⟨k0, k1, k2, k3, k4, k5, k6, k7, k8⟩, ⟨l0, l1, l2, l3, l4, l5, l6, l7, l8⟩, ⟨m0, m1, m2, m3, m4, m5, m6, m7, m8⟩, G1.out, G2.out, G3.out, loc_lt LS8.out, loc_lt LT8.out, loc_lt LX.out, HB7.out⟩
                  have hss := HH1.out.small
                  have hsu := HH3.out.small
                  have hff := hsh1.fits hsh2
                  clear hb7 hS3 HB6 BA CP3 HS1e HS2e LS6 LT6 LS7 LT7 G1 G2 G3 HB7 LX LS8 LT8 kf lf mf n1 n2 n3 n4
                  simp only [St9.agg]
                  go_wp2_with fail
                  go_region_held3 (fun X : World => JI w w2.heap.size w3.heap.size w7.heap.size (.string ⟨S.title.toArray⟩) (.slice xa1 S.kinds.length xc1) (.slice xa2 S.members.length xc2) (.slice xa3 S.preds.length xc3) (.slice xa4 S.classes.length xc4) (.slice xa5 S.sources.length xc5) (.slice xa6 S.rules.length xc6) (.slice xa7 S.excepts.length xc7) (.slice xa8 S.totals.length xc8) (.string tt) (.slice ya1 T.kinds.length yc1) (.slice ya2 T.members.length yc2) (.slice ya3 T.preds.length yc3) (.slice ya4 T.classes.length yc4) (.slice ya5 T.sources.length yc5) (.slice ya6 T.rules.length yc6) (.slice ya7 T.excepts.length yc7) (.slice ya8 T.totals.length yc8) (.string ⟨(joinS S T).title.toArray⟩) (.slice za1 (joinS S T).kinds.length zc1) (.slice za2 (joinS S T).members.length zc2) (.slice za3 (joinS S T).preds.length zc3) (.slice za4 (joinS S T).classes.length zc4) (.slice za5 (joinS S T).sources.length zc5) (.slice za6 (joinS S T).rules.length zc6) (.slice za7 (joinS S T).excepts.length zc7) (.slice za8 (joinS S T).totals.length zc8) R1 R2 R3 S T (joinS S T) X) (first | assumption | exact JI.drew ‹_› | exact JI.below ‹_› ‹_›) (first | (go_at_call 11; refine (CN.out _ _).mono ?_; rintro e w' ⟨rfl, hw⟩; subst hw) | (go_at_call 16; refine (JI.joined ‹_› hss hff).mono ?_; rintro e w' ⟨g0, g1, g2, g3, g4, g5, g6, g7, g8, rfl, hZ, hb⟩) | (go_at_call 10; (first | refine (JI.same ‹_› hsu ‹_›).mono ?_ | refine (JI.same ‹_› hsu (SZ.drew ‹_›)).mono ?_); rintro e w' ⟨rfl, hb⟩))
                  rename_i hI
                  go_wp2_with fail
                  go_ret
                  exact ⟨rfl, hI.last.2.2.2.2.2.2⟩
      · go_ret
        exact ⟨rfl, HB3.out⟩
    · go_wp2_with (go_at_call 11; refine (CN.out _ _).mono ?_; rintro _ w9 ⟨rfl, hw9⟩; subst w9)
      go_ret
      exact ⟨rfl, HB3.out⟩
  · go_wp2_with (go_at_call 11; refine (CN.out _ _).mono ?_; rintro _ w9 ⟨rfl, hw9⟩; subst w9)
    go_ret
    exact ⟨rfl, HB3.out⟩
end Go.Proofs.YthnjmfkiohgkkaaGreatDoor.Sy
