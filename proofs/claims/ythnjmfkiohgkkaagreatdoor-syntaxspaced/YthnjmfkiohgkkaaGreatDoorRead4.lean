/- The methods of a reader that read numbers and amounts, arrows and comparisons. By program (tools/gen5.py). -/
import Derived.Test.YthnjmfkiohgkkaaGreatDoorRead3
namespace Go.Proofs.YthnjmfkiohgkkaaGreatDoor.Sy
open Go.RowKit

section
variable (R : Nat) (L : List Tok) (N : Nat) (s : RS) (st : St9) (w : World)

set_option maxRecDepth 100000 in
set_option maxHeartbeats 1600000 in
theorem wantMark_any (t : Bytes) (h : Rd R L N s st w) (o : Out Unit) (ho : wantMark (kt L) t s = o) :
    Calls Tryz.prog 48 #[.pointer (some ⟨R, 0, none⟩), .string ⟨t.toArray⟩] w (Ends R L N st w repU o) := by
  have HO := hide ho
  have H := hide h
  have F := hide (Fq.refl R w)
  clear h ho
  go_enter Tryz.func48, Tryz.ntmps48
  have C11 := hide (hasMark_any R L N s st _ t H.out _ rfl)
  go_wp2_with fail
  refine C11.out.mono ?_
  intro e w11 he
  rcases he.split with ⟨a11, s11, v11, ho, rfl, hv11, hR, hF⟩ | ⟨c, m, ho, rfl, hF⟩
  rotate_left 1
  · exact on_panic rfl (.of_bad (bind_no HO.out ho) (F.out.trans hF))
  have HO11 := hide (bind_go HO.out ho)
  have H11 := hide hR
  have F11 := hide (F.out.trans hF)
  clear he ho hR hF C11 H F HO
  cases hv11
  cases a11 with
  | false =>
    have HO := hide (ite_f HO11.out rfl)
    have CF := hide (fail_any R L N s11 st _ H11.out 51)
    go_wp2_with fail
    refine CF.out.mono ?_
    rintro _ w9 ⟨rfl, hF⟩
    exact on_panic rfl (.of_bad HO.out (F11.out.trans hF))
  | true =>
    have HO := hide (ite_t HO11.out rfl)
    go_wp2_with fail
    go_end0
    exact .of_ok HO.out rfl H11.out F11.out

set_option maxRecDepth 100000 in
set_option maxHeartbeats 1600000 in
theorem wantWord_any (t : Bytes) (h : Rd R L N s st w) (o : Out Unit) (ho : wantWord (kt L) t s = o) :
    Calls Tryz.prog 127 #[.pointer (some ⟨R, 0, none⟩), .string ⟨t.toArray⟩] w (Ends R L N st w repU o) := by
  have HO := hide ho
  have H := hide h
  have F := hide (Fq.refl R w)
  clear h ho
  go_enter Tryz.func127, Tryz.ntmps127
  have C12 := hide (hasWord_any R L N s st _ t H.out _ rfl)
  go_wp2_with fail
  refine C12.out.mono ?_
  intro e w12 he
  rcases he.split with ⟨a12, s12, v12, ho, rfl, hv12, hR, hF⟩ | ⟨c, m, ho, rfl, hF⟩
  rotate_left 1
  · exact on_panic rfl (.of_bad (bind_no HO.out ho) (F.out.trans hF))
  have HO12 := hide (bind_go HO.out ho)
  have H12 := hide hR
  have F12 := hide (F.out.trans hF)
  clear he ho hR hF C12 H F HO
  cases hv12
  cases a12 with
  | false =>
    have HO := hide (ite_f HO12.out rfl)
    have CF := hide (fail_any R L N s12 st _ H12.out 51)
    go_wp2_with fail
    refine CF.out.mono ?_
    rintro _ w9 ⟨rfl, hF⟩
    exact on_panic rfl (.of_bad HO.out (F12.out.trans hF))
  | true =>
    have HO := hide (ite_t HO12.out rfl)
    go_wp2_with fail
    go_end0
    exact .of_ok HO.out rfl H12.out F12.out

set_option maxRecDepth 100000 in
set_option maxHeartbeats 1600000 in
theorem comma_any (h : Rd R L N s st w) (o : Out Bool) (ho : commaM (kt L) s = o) :
    Calls Tryz.prog 123 #[.pointer (some ⟨R, 0, none⟩)] w (Ends R L N st w repB o) := by
  have HO := hide ho
  have H := hide h
  have F := hide (Fq.refl R w)
  clear h ho
  go_enter Tryz.func123, Tryz.ntmps123
  have C13 := hide (hasMark_any R L N s st _ [44] H.out _ rfl)
  go_wp2_with fail
  refine C13.out.mono ?_
  intro e w13 he
  rcases he.split with ⟨a13, s13, v13, ho, rfl, hv13, hR, hF⟩ | ⟨c, m, ho, rfl, hF⟩
  rotate_left 1
  · exact on_panic rfl (.of_bad (ho.symm.trans HO.out) (F.out.trans hF))
  have HO13 := hide (ho.symm.trans HO.out)
  have H13 := hide hR
  have F13 := hide (F.out.trans hF)
  clear he ho hR hF C13 H F HO
  cases hv13
  go_wp2_with fail
  go_ret
  exact .of_ok HO13.out rfl H13.out F13.out

set_option maxRecDepth 100000 in
set_option maxHeartbeats 1600000 in
theorem int_any (lo hi : Int) (h : Rd R L N s st w) (o : Out Int) (ho : intM FN (kt L) lo hi s = o) :
    Calls Tryz.prog 128 #[.pointer (some ⟨R, 0, none⟩), .int .i64 lo, .int .i64 hi] w (Ends R L N st w repI o) := by
  have HO := hide ho
  have H := hide h
  have F := hide (Fq.refl R w)
  clear h ho
  have hle := tx_le H.out.tle s.n
  have CA := hide (ahead_any R L N s st w H.out 0 (by omega))
  rw [show s.n + 0 = s.n from rfl] at CA
  have ho := ask_go HO.out
  obtain ⟨pt, hp⟩ : ∃ b, FN.point (tx (kt L) s.n) = b := ⟨_, rfl⟩
  have CP := hide (Tryz.strings_Contains_one ⟨(tx (kt L) s.n).toArray⟩ 46)
  rw [show (decide (0 ≤ Lib.indexByte (⟨(tx (kt L) s.n).toArray⟩ : ByteArray).data.toList 46)) = pt from hp] at CP
  clear HO
  by_cases hk : kd (kt L) s.n = 3
  · have hlt : s.n < L.length := kd_lt (L := L) hk (by omega)
    rw [hk] at CA
    cases pt with
    | true =>
      have HO := hide (ite_f ho (by simp [hp]))
      clear ho hk hp
      go_enter Tryz.func128, Tryz.ntmps128
      go_wp2_with fail
      refine CA.out.mono ?_
      rintro _ w1 ⟨rfl, hb⟩
      have HB := hide (hb.alloc hb.size (.cells #[.int .i64 3, .string ⟨(tx (kt L) s.n).toArray⟩, .int .i64 (placeAt L N s.n)] 50))
      clear hb CA
      have H1 := hide (H.out.below HB.out)
      have F1 := hide (F.out.trans (Fq.of_below HB.out))
      clear H F HB
      go_wp2_with fail
      refine (CP.out _).mono ?_
      rintro _ w2 ⟨rfl, hw2⟩
      subst w2
      have CF := hide (fail_any R L N s st _ H1.out 51)
      go_wp2_with fail
      refine CF.out.mono ?_
      rintro _ w9 ⟨rfl, hF⟩
      exact on_panic rfl (.of_bad HO.out (F1.out.trans hF))
    | false =>
      have HO := hide (ask_go (ite_t ho (by simp [hk, hp])))
      clear ho hk hp
      cases hi' : Lib.atoiAll (tx (kt L) s.n) with
      | ok v =>
        obtain ⟨hv0, hv1⟩ := Lib.atoiAll_bounds hi'
        have HI : Hid (FN.int (tx (kt L) s.n) = some v) := by unfold Hid FN; simp only [hi']
        have CI := hide (Tryz.strconv_Atoi_ok ⟨(tx (kt L) s.n).toArray⟩ (by show (tx (kt L) s.n).length ≤ _; omega) v hi')
        clear hi'
        have hok : okInt FN lo hi (tx (kt L) s.n) = (decide (lo ≤ v) && decide (v ≤ hi)) := by unfold okInt; rw [HI.out]
        by_cases h1 : lo ≤ v
        · by_cases h2 : v ≤ hi
          · have HO := hide (ask_go (ite_t HO.out (by rw [hok]; simp [h1, h2])))
            simp only [HI.out, Option.getD] at HO
            have h1' : ¬ v < lo := by omega
            have h2' : ¬ hi < v := by omega
            clear h1 h2 hok HI
            go_enter Tryz.func128, Tryz.ntmps128
            go_wp2_with fail
            refine CA.out.mono ?_
            rintro _ w1 ⟨rfl, hb⟩
            have HB := hide (hb.alloc hb.size (.cells #[.int .i64 3, .string ⟨(tx (kt L) s.n).toArray⟩, .int .i64 (placeAt L N s.n)] 50))
            clear hb CA
            have H1 := hide (H.out.below HB.out)
            have F1 := hide (F.out.trans (Fq.of_below HB.out))
            clear H F HB
            go_wp2_with fail
            refine (CP.out _).mono ?_
            rintro _ w2 ⟨rfl, hw2⟩
            subst w2
            go_wp2_with fail
            refine (CI.out _).mono ?_
            rintro _ w3 ⟨rfl, hw3⟩
            have HB3 : Hid (Below _ _ w3) := hide (by
              rcases hw3 with rfl | ⟨t, rfl⟩
              · exact Below.refl _ _
              · exact Lib.bytesWorld_below _ _ _)
            have H2 := hide (H1.out.below HB3.out)
            have F2 := hide (F1.out.trans (Fq.of_below HB3.out))
            clear hw3 CI H1 F1 HB3
            have C14 := hide (take_any R L N s st _ H2.out hlt _ rfl)
            go_wp2_with fail
            refine C14.out.mono ?_
            intro e w14 he
            rcases he.split with ⟨a14, s14, v14, ho, rfl, hv14, hR, hF⟩ | ⟨c, m, ho, rfl, hF⟩
            rotate_left 1
            · exact on_panic rfl (.of_bad (bind_no HO.out ho) (F2.out.trans hF))
            have HO14 := hide (bind_go HO.out ho)
            have H14 := hide hR
            have F14 := hide (F2.out.trans hF)
            clear he ho hR hF C14 H2 F2 HO
            cases hv14
            go_wp2_with fail
            go_ret
            exact .of_ok HO14.out rfl H14.out F14.out
          · have HO := hide (ite_f HO.out (by rw [hok]; simp [h2]))
            have h1' : ¬ v < lo := by omega
            have h2' : hi < v := by omega
            clear h1 h2 hok HI
            go_enter Tryz.func128, Tryz.ntmps128
            go_wp2_with fail
            refine CA.out.mono ?_
            rintro _ w1 ⟨rfl, hb⟩
            have HB := hide (hb.alloc hb.size (.cells #[.int .i64 3, .string ⟨(tx (kt L) s.n).toArray⟩, .int .i64 (placeAt L N s.n)] 50))
            clear hb CA
            have H1 := hide (H.out.below HB.out)
            have F1 := hide (F.out.trans (Fq.of_below HB.out))
            clear H F HB
            go_wp2_with fail
            refine (CP.out _).mono ?_
            rintro _ w2 ⟨rfl, hw2⟩
            subst w2
            go_wp2_with fail
            refine (CI.out _).mono ?_
            rintro _ w3 ⟨rfl, hw3⟩
            have HB3 : Hid (Below _ _ w3) := hide (by
              rcases hw3 with rfl | ⟨t, rfl⟩
              · exact Below.refl _ _
              · exact Lib.bytesWorld_below _ _ _)
            have H2 := hide (H1.out.below HB3.out)
            have F2 := hide (F1.out.trans (Fq.of_below HB3.out))
            clear hw3 CI H1 F1 HB3
            have CF := hide (fail_any R L N s st _ H2.out 4)
            go_wp2_with fail
            refine CF.out.mono ?_
            rintro _ w9 ⟨rfl, hF⟩
            exact on_panic rfl (.of_bad HO.out (F2.out.trans hF))
        · have HO := hide (ite_f HO.out (by rw [hok]; simp [h1]))
          have h1' : v < lo := by omega
          clear h1 hok HI
          go_enter Tryz.func128, Tryz.ntmps128
          go_wp2_with fail
          refine CA.out.mono ?_
          rintro _ w1 ⟨rfl, hb⟩
          have HB := hide (hb.alloc hb.size (.cells #[.int .i64 3, .string ⟨(tx (kt L) s.n).toArray⟩, .int .i64 (placeAt L N s.n)] 50))
          clear hb CA
          have H1 := hide (H.out.below HB.out)
          have F1 := hide (F.out.trans (Fq.of_below HB.out))
          clear H F HB
          go_wp2_with fail
          refine (CP.out _).mono ?_
          rintro _ w2 ⟨rfl, hw2⟩
          subst w2
          go_wp2_with fail
          refine (CI.out _).mono ?_
          rintro _ w3 ⟨rfl, hw3⟩
          have HB3 : Hid (Below _ _ w3) := hide (by
            rcases hw3 with rfl | ⟨t, rfl⟩
            · exact Below.refl _ _
            · exact Lib.bytesWorld_below _ _ _)
          have H2 := hide (H1.out.below HB3.out)
          have F2 := hide (F1.out.trans (Fq.of_below HB3.out))
          clear hw3 CI H1 F1 HB3
          have CF := hide (fail_any R L N s st _ H2.out 4)
          go_wp2_with fail
          refine CF.out.mono ?_
          rintro _ w9 ⟨rfl, hF⟩
          exact on_panic rfl (.of_bad HO.out (F2.out.trans hF))
      | «syntax» =>
        have HI : Hid (FN.int (tx (kt L) s.n) = none) := by unfold Hid FN; simp only [hi']
        have hok : okInt FN lo hi (tx (kt L) s.n) = false := by unfold okInt; rw [HI.out]
        have HO := hide (ite_f HO.out hok)
        obtain ⟨e1, e2, v1, v2, v3, v4, v5⟩ := H.out.vars
        have HV := hide v1
        have HE := hide v4
        have CI := hide (fun w => Tryz.strconv_Atoi_syntax ⟨(tx (kt L) s.n).toArray⟩ (by show (tx (kt L) s.n).length ≤ _; omega) hi' e1 w)
        clear hi' hok HI v1 v2 v3 v4 v5
        go_enter Tryz.func128, Tryz.ntmps128
        go_wp2_with fail
        refine CA.out.mono ?_
        rintro _ w1 ⟨rfl, hb⟩
        have HB := hide (hb.alloc hb.size (.cells #[.int .i64 3, .string ⟨(tx (kt L) s.n).toArray⟩, .int .i64 (placeAt L N s.n)] 50))
        clear hb CA
        have HV1 := hide ((HB.out.cell (p := ⟨1, 0, none⟩) (by have := World.block_lt_of_cell? _ _ HV.out; exact this)).trans HV.out)
        have H1 := hide (H.out.below HB.out)
        have F1 := hide (F.out.trans (Fq.of_below HB.out))
        clear H F HB
        go_wp2_with fail
        refine (CP.out _).mono ?_
        rintro _ w2 ⟨rfl, hw2⟩
        subst w2
        go_wp2_with fail
        refine (CI.out _ HV1.out HE.out).mono ?_
        rintro _ w3 ⟨nb, rfl, _, _, hb⟩
        have H2 := hide (H1.out.below hb)
        have F2 := hide (F1.out.trans (Fq.of_below hb))
        clear hb CI H1 F1
        have CF := hide (fail_any R L N s st _ H2.out 4)
        go_wp2_with fail
        refine CF.out.mono ?_
        rintro _ w9 ⟨rfl, hF⟩
        exact on_panic rfl (.of_bad HO.out (F2.out.trans hF))
      | range =>
        have HI : Hid (FN.int (tx (kt L) s.n) = none) := by unfold Hid FN; simp only [hi']
        have hok : okInt FN lo hi (tx (kt L) s.n) = false := by unfold okInt; rw [HI.out]
        have HO := hide (ite_f HO.out hok)
        obtain ⟨e1, e2, v1, v2, v3, v4, v5⟩ := H.out.vars
        have HV := hide v2
        have HE := hide v5
        have CI := hide (fun w => Tryz.strconv_Atoi_range ⟨(tx (kt L) s.n).toArray⟩ (by show (tx (kt L) s.n).length ≤ _; omega) hi' e2 w)
        clear hi' hok HI v1 v2 v3 v4 v5
        go_enter Tryz.func128, Tryz.ntmps128
        go_wp2_with fail
        refine CA.out.mono ?_
        rintro _ w1 ⟨rfl, hb⟩
        have HB := hide (hb.alloc hb.size (.cells #[.int .i64 3, .string ⟨(tx (kt L) s.n).toArray⟩, .int .i64 (placeAt L N s.n)] 50))
        clear hb CA
        have HV1 := hide ((HB.out.cell (p := ⟨2, 0, none⟩) (by have := World.block_lt_of_cell? _ _ HV.out; exact this)).trans HV.out)
        have H1 := hide (H.out.below HB.out)
        have F1 := hide (F.out.trans (Fq.of_below HB.out))
        clear H F HB
        go_wp2_with fail
        refine (CP.out _).mono ?_
        rintro _ w2 ⟨rfl, hw2⟩
        subst w2
        go_wp2_with fail
        refine (CI.out _ HV1.out HE.out).mono ?_
        rintro _ w3 ⟨nb, rfl, _, _, hb⟩
        have H2 := hide (H1.out.below hb)
        have F2 := hide (F1.out.trans (Fq.of_below hb))
        clear hb CI H1 F1
        have CF := hide (fail_any R L N s st _ H2.out 4)
        go_wp2_with fail
        refine CF.out.mono ?_
        rintro _ w9 ⟨rfl, hF⟩
        exact on_panic rfl (.of_bad HO.out (F2.out.trans hF))
  · have HO := hide (ite_f ho (by simp [hk]))
    have hk' : ¬ ((kd (kt L) s.n : Nat) : Int) = 3 := by omega
    clear ho hk hp
    go_enter Tryz.func128, Tryz.ntmps128
    go_wp2_with fail
    refine CA.out.mono ?_
    rintro _ w1 ⟨rfl, hb⟩
    have HB := hide (hb.alloc hb.size (.cells #[.int .i64 (kd (kt L) s.n), .string ⟨(tx (kt L) s.n).toArray⟩, .int .i64 (placeAt L N s.n)] 50))
    clear hb CA
    have H1 := hide (H.out.below HB.out)
    have F1 := hide (F.out.trans (Fq.of_below HB.out))
    clear H F HB
    have CF := hide (fail_any R L N s st _ H1.out 51)
    go_wp2_with fail
    refine CF.out.mono ?_
    rintro _ w9 ⟨rfl, hF⟩
    exact on_panic rfl (.of_bad HO.out (F1.out.trans hF))

set_option maxRecDepth 100000 in
set_option maxHeartbeats 1600000 in
theorem money_any (h : Rd R L N s st w) (o : Out Int) (ho : moneyM FN (kt L) s = o) :
    Calls Tryz.prog 126 #[.pointer (some ⟨R, 0, none⟩)] w (Ends R L N st w repI o) := by
  have HO := hide ho
  have H := hide h
  have F := hide (Fq.refl R w)
  clear h ho
  go_enter Tryz.func126, Tryz.ntmps126
  have C15 := hide (hasMark_any R L N s st _ [45] H.out _ rfl)
  go_wp2_with fail
  refine C15.out.mono ?_
  intro e w15 he
  rcases he.split with ⟨a15, s15, v15, ho, rfl, hv15, hR, hF⟩ | ⟨c, m, ho, rfl, hF⟩
  rotate_left 1
  · exact on_panic rfl (.of_bad (bind_no HO.out ho) (F.out.trans hF))
  have HO15 := hide (bind_go HO.out ho)
  have H15 := hide hR
  have F15 := hide (F.out.trans hF)
  clear he ho hR hF C15 H F HO
  cases hv15
  cases a15 with
  | true =>
    have HO := hide (ite_t HO15.out rfl)
    clear HO15
    have hle := tx_le H15.out.tle s15.n
    have CA := hide (ahead_any R L N s15 st _ H15.out 0 (by omega))
    rw [show s15.n + 0 = s15.n from rfl] at CA
    have ho := ask_go HO.out
    clear HO
    by_cases hk : kd (kt L) s15.n = 3
    · have hlt : s15.n < L.length := kd_lt (L := L) hk (by omega)
      have ho := ask_go (ite_t ho (by simp [hk]))
      rw [hk] at CA
      obtain ⟨d, er, hd⟩ : ∃ d er, FN.money ([45] ++ tx (kt L) s15.n) = (d, er) := ⟨_, _, rfl⟩
      have hbs : (⟨[45].toArray⟩ ++ ⟨(tx (kt L) s15.n).toArray⟩ : ByteArray) = ⟨([45] ++ tx (kt L) s15.n).toArray⟩ := by apply ByteArray.ext; simp
      have CP := hide (fun w => Mo.parse_any (⟨[45].toArray⟩ ++ ⟨(tx (kt L) s15.n).toArray⟩) w (by rw [hbs]; show ([45] ++ tx (kt L) s15.n).length ≤ _; simp; omega))
      rw [show Mo.parseM (Mo.strB (⟨[45].toArray⟩ ++ ⟨(tx (kt L) s15.n).toArray⟩)) = (d, er) from by rw [hbs]; exact hd] at CP
      simp only [Mo.pairV] at CP
      simp only [hd] at ho
      by_cases he : er = 0
      · subst er
        have HO := hide (ite_t ho (by simp))
        clear ho hk hd hbs
        go_wp2_with fail
        refine CA.out.mono ?_
        rintro _ w1 ⟨rfl, hb⟩
        have HB := hide (hb.alloc hb.size (.cells #[.int .i64 3, .string ⟨(tx (kt L) s15.n).toArray⟩, .int .i64 (placeAt L N s15.n)] 50))
        clear hb CA
        have H1 := hide (H15.out.below HB.out)
        have F1 := hide (F15.out.trans (Fq.of_below HB.out))
        clear H15 F15 HB
        go_wp2_with fail
        refine (CP.out _).mono ?_
        rintro _ w2 ⟨rfl, hb⟩
        have H2 := hide (H1.out.below hb)
        have F2 := hide (F1.out.trans (Fq.of_below hb))
        clear hb CP H1 F1
        have C16 := hide (take_any R L N s15 st _ H2.out hlt _ rfl)
        go_wp2_with fail
        refine C16.out.mono ?_
        intro e w16 he
        rcases he.split with ⟨a16, s16, v16, ho, rfl, hv16, hR, hF⟩ | ⟨c, m, ho, rfl, hF⟩
        rotate_left 1
        · exact on_panic rfl (.of_bad (bind_no HO.out ho) (F2.out.trans hF))
        have HO16 := hide (bind_go HO.out ho)
        have H16 := hide hR
        have F16 := hide (F2.out.trans hF)
        clear he ho hR hF C16 H2 F2 HO
        cases hv16
        go_wp2_with fail
        go_ret
        exact .of_ok HO16.out rfl H16.out F16.out
      · have HO := hide (ite_f ho (by simp [he]))
        clear ho hk hd hbs
        go_wp2_with fail
        refine CA.out.mono ?_
        rintro _ w1 ⟨rfl, hb⟩
        have HB := hide (hb.alloc hb.size (.cells #[.int .i64 3, .string ⟨(tx (kt L) s15.n).toArray⟩, .int .i64 (placeAt L N s15.n)] 50))
        clear hb CA
        have H1 := hide (H15.out.below HB.out)
        have F1 := hide (F15.out.trans (Fq.of_below HB.out))
        clear H15 F15 HB
        go_wp2_with fail
        refine (CP.out _).mono ?_
        rintro _ w2 ⟨rfl, hb⟩
        have H2 := hide (H1.out.below hb)
        have F2 := hide (F1.out.trans (Fq.of_below hb))
        clear hb CP H1 F1
        have CF := hide (fail_any R L N s15 st _ H2.out er)
        go_wp2_with fail
        refine CF.out.mono ?_
        rintro _ w9 ⟨rfl, hF⟩
        exact on_panic rfl (.of_bad HO.out (F2.out.trans hF))
    · have HO := hide (ite_f ho (by simp [hk]))
      have hk' : ¬ ((kd (kt L) s15.n : Nat) : Int) = 3 := by omega
      clear ho hk
      go_wp2_with fail
      refine CA.out.mono ?_
      rintro _ w1 ⟨rfl, hb⟩
      have HB := hide (hb.alloc hb.size (.cells #[.int .i64 (kd (kt L) s15.n), .string ⟨(tx (kt L) s15.n).toArray⟩, .int .i64 (placeAt L N s15.n)] 50))
      clear hb CA
      have H1 := hide (H15.out.below HB.out)
      have F1 := hide (F15.out.trans (Fq.of_below HB.out))
      clear H15 F15 HB
      have CF := hide (fail_any R L N s15 st _ H1.out 51)
      go_wp2_with fail
      refine CF.out.mono ?_
      rintro _ w9 ⟨rfl, hF⟩
      exact on_panic rfl (.of_bad HO.out (F1.out.trans hF))
  | false =>
    have HO := hide (ite_f HO15.out rfl)
    clear HO15
    have hle := tx_le H15.out.tle s15.n
    have CA := hide (ahead_any R L N s15 st _ H15.out 0 (by omega))
    rw [show s15.n + 0 = s15.n from rfl] at CA
    have ho := ask_go HO.out
    clear HO
    by_cases hk : kd (kt L) s15.n = 3
    · have hlt : s15.n < L.length := kd_lt (L := L) hk (by omega)
      have ho := ask_go (ite_t ho (by simp [hk]))
      rw [hk] at CA
      obtain ⟨d, er, hd⟩ : ∃ d er, FN.money ([] ++ tx (kt L) s15.n) = (d, er) := ⟨_, _, rfl⟩
      have hbs : (⟨[].toArray⟩ ++ ⟨(tx (kt L) s15.n).toArray⟩ : ByteArray) = ⟨([] ++ tx (kt L) s15.n).toArray⟩ := by apply ByteArray.ext; simp
      have CP := hide (fun w => Mo.parse_any (⟨[].toArray⟩ ++ ⟨(tx (kt L) s15.n).toArray⟩) w (by rw [hbs]; show ([] ++ tx (kt L) s15.n).length ≤ _; simp; omega))
      rw [show Mo.parseM (Mo.strB (⟨[].toArray⟩ ++ ⟨(tx (kt L) s15.n).toArray⟩)) = (d, er) from by rw [hbs]; exact hd] at CP
      simp only [Mo.pairV] at CP
      simp only [hd] at ho
      by_cases he : er = 0
      · subst er
        have HO := hide (ite_t ho (by simp))
        clear ho hk hd hbs
        go_wp2_with fail
        refine CA.out.mono ?_
        rintro _ w1 ⟨rfl, hb⟩
        have HB := hide (hb.alloc hb.size (.cells #[.int .i64 3, .string ⟨(tx (kt L) s15.n).toArray⟩, .int .i64 (placeAt L N s15.n)] 50))
        clear hb CA
        have H1 := hide (H15.out.below HB.out)
        have F1 := hide (F15.out.trans (Fq.of_below HB.out))
        clear H15 F15 HB
        go_wp2_with fail
        refine (CP.out _).mono ?_
        rintro _ w2 ⟨rfl, hb⟩
        have H2 := hide (H1.out.below hb)
        have F2 := hide (F1.out.trans (Fq.of_below hb))
        clear hb CP H1 F1
        have C17 := hide (take_any R L N s15 st _ H2.out hlt _ rfl)
        go_wp2_with fail
        refine C17.out.mono ?_
        intro e w17 he
        rcases he.split with ⟨a17, s17, v17, ho, rfl, hv17, hR, hF⟩ | ⟨c, m, ho, rfl, hF⟩
        rotate_left 1
        · exact on_panic rfl (.of_bad (bind_no HO.out ho) (F2.out.trans hF))
        have HO17 := hide (bind_go HO.out ho)
        have H17 := hide hR
        have F17 := hide (F2.out.trans hF)
        clear he ho hR hF C17 H2 F2 HO
        cases hv17
        go_wp2_with fail
        go_ret
        exact .of_ok HO17.out rfl H17.out F17.out
      · have HO := hide (ite_f ho (by simp [he]))
        clear ho hk hd hbs
        go_wp2_with fail
        refine CA.out.mono ?_
        rintro _ w1 ⟨rfl, hb⟩
        have HB := hide (hb.alloc hb.size (.cells #[.int .i64 3, .string ⟨(tx (kt L) s15.n).toArray⟩, .int .i64 (placeAt L N s15.n)] 50))
        clear hb CA
        have H1 := hide (H15.out.below HB.out)
        have F1 := hide (F15.out.trans (Fq.of_below HB.out))
        clear H15 F15 HB
        go_wp2_with fail
        refine (CP.out _).mono ?_
        rintro _ w2 ⟨rfl, hb⟩
        have H2 := hide (H1.out.below hb)
        have F2 := hide (F1.out.trans (Fq.of_below hb))
        clear hb CP H1 F1
        have CF := hide (fail_any R L N s15 st _ H2.out er)
        go_wp2_with fail
        refine CF.out.mono ?_
        rintro _ w9 ⟨rfl, hF⟩
        exact on_panic rfl (.of_bad HO.out (F2.out.trans hF))
    · have HO := hide (ite_f ho (by simp [hk]))
      have hk' : ¬ ((kd (kt L) s15.n : Nat) : Int) = 3 := by omega
      clear ho hk
      go_wp2_with fail
      refine CA.out.mono ?_
      rintro _ w1 ⟨rfl, hb⟩
      have HB := hide (hb.alloc hb.size (.cells #[.int .i64 (kd (kt L) s15.n), .string ⟨(tx (kt L) s15.n).toArray⟩, .int .i64 (placeAt L N s15.n)] 50))
      clear hb CA
      have H1 := hide (H15.out.below HB.out)
      have F1 := hide (F15.out.trans (Fq.of_below HB.out))
      clear H15 F15 HB
      have CF := hide (fail_any R L N s15 st _ H1.out 51)
      go_wp2_with fail
      refine CF.out.mono ?_
      rintro _ w9 ⟨rfl, hF⟩
      exact on_panic rfl (.of_bad HO.out (F1.out.trans hF))

end
end Go.Proofs.YthnjmfkiohgkkaaGreatDoor.Sy
