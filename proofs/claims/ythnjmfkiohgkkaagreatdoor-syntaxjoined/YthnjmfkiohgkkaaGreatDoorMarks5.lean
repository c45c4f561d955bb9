/- Arrows and comparisons; a term's sign. By program. -/
import Derived.Test.YthnjmfkiohgkkaaGreatDoorLit
namespace Go.Proofs.YthnjmfkiohgkkaaGreatDoor.Sy
open Go.RowKit

set_option maxRecDepth 100000 in
set_option maxHeartbeats 1600000 in
theorem markCall (L : List Tok) (i : Nat) (p : Int) (t : Bytes) (w : World) :
    Calls Tryz.prog 120 #[.agg #[.int .i64 (kd (kt L) i), .string ⟨(tx (kt L) i).toArray⟩, .int .i64 p], .string ⟨t.toArray⟩] w fun e w' => e = .returned (.bool (markAt (kt L) i t)) ∧ Below w.heap.size w w' := by
  have CI := isMark5_any (kd (kt L) i) p ⟨(tx (kt L) i).toArray⟩ ⟨t.toArray⟩ w
  have HM : (decide (((kd (kt L) i : Nat) : Int) = 6) && ((⟨(tx (kt L) i).toArray⟩ : ByteArray).toList == (⟨t.toArray⟩ : ByteArray).toList)) = markAt (kt L) i t := by
    unfold markAt
    rw [ByteArray.toList_mk, ByteArray.toList_mk]
    rw [show (tx (kt L) i == t) = decide (tx (kt L) i = t) from Bool.eq_iff_iff.2 (by simp), show decide (((kd (kt L) i : Nat) : Int) = 6) = decide (kd (kt L) i = 6) from decide_eq_decide.2 (by omega)]
  rw [HM] at CI
  exact CI

set_option maxRecDepth 100000 in
set_option maxHeartbeats 1600000 in
theorem arrowOf_any (L : List Tok) (i : Nat) (p : Int) (w : World) :
    Calls Tryz.prog 130 #[.agg #[.int .i64 (kd (kt L) i), .string ⟨(tx (kt L) i).toArray⟩, .int .i64 p]] w fun e w' => e = .returned (.int .i64 (arrowAt (kt L) i)) ∧ Below w.heap.size w w' := by
  have HA : Hid (arrowAt (kt L) i = if markAt (kt L) i [45, 62] = true then 1 else if markAt (kt L) i [61, 62] = true then 2 else if markAt (kt L) i [126, 62] = true then 3 else 0) := rfl
  generalize arrowAt (kt L) i = r at HA ⊢
  have CM := hide (fun t w => markCall L i p t w)
  generalize hkk : kd (kt L) i = kk at CM ⊢
  generalize htt : tx (kt L) i = tt at CM ⊢
  clear hkk htt
  go_enter Tryz.func130, Tryz.ntmps130
  have HB := hide ((Below.refl w.heap.size w).alloc (Nat.le_refl _) (.cells #[.int .i64 (kk : Nat), .string ⟨tt.toArray⟩, .int .i64 p] 50))
  have LB := hide (heap_alloc_new w (.cells #[.int .i64 (kk : Nat), .string ⟨tt.toArray⟩, .int .i64 p] 50))
  go_wp2_with fail
  refine (CM.out [45, 62] _).mono ?_
  rintro _ w1 ⟨rfl, hb⟩
  have HB0 := hide (HB.out.trans (hb.mono HB.out.size))
  have LB0 := hide ((hb.block _ (loc_lt LB.out)).trans LB.out)
  clear hb HB LB
  have HB := HB0
  have LB := LB0
  clear HB0 LB0
  obtain ⟨z0, z1, z2, z3⟩ := row3 LB.out
  cases hm : markAt (kt L) i [45, 62] with
  | true =>
    rw [if_pos hm] at HA
    clear hm
    go_wp2_with fail
    go_ret
    exact ⟨ret_int (by rw [HA.out]; rfl), HB.out⟩
  | false =>
    rw [if_neg (by simp [hm])] at HA
    clear hm
    go_wp2_with fail
    refine (CM.out [61, 62] _).mono ?_
    rintro _ w2 ⟨rfl, hb⟩
    have HB1 := hide (HB.out.trans (hb.mono HB.out.size))
    have LB1 := hide ((hb.block _ (loc_lt LB.out)).trans LB.out)
    clear hb HB LB
    have HB := HB1
    have LB := LB1
    clear HB1 LB1
    clear z0 z1 z2 z3
    obtain ⟨z0, z1, z2, z3⟩ := row3 LB.out
    cases hm : markAt (kt L) i [61, 62] with
    | true =>
      rw [if_pos hm] at HA
      clear hm
      go_wp2_with fail
      go_ret
      exact ⟨ret_int (by rw [HA.out]; rfl), HB.out⟩
    | false =>
      rw [if_neg (by simp [hm])] at HA
      clear hm
      go_wp2_with fail
      refine (CM.out [126, 62] _).mono ?_
      rintro _ w3 ⟨rfl, hb⟩
      have HB2 := hide (HB.out.trans (hb.mono HB.out.size))
      have LB2 := hide ((hb.block _ (loc_lt LB.out)).trans LB.out)
      clear hb HB LB
      have HB := HB2
      have LB := LB2
      clear HB2 LB2
      clear z0 z1 z2 z3
      obtain ⟨z0, z1, z2, z3⟩ := row3 LB.out
      cases hm : markAt (kt L) i [126, 62] with
      | true =>
        rw [if_pos hm] at HA
        clear hm
        go_wp2_with fail
        go_ret
        exact ⟨ret_int (by rw [HA.out]; rfl), HB.out⟩
      | false =>
        rw [if_neg (by simp [hm])] at HA
        clear hm
        go_wp2_with fail
        go_ret
        exact ⟨ret_int (by rw [HA.out]; rfl), HB.out⟩

set_option maxRecDepth 100000 in
set_option maxHeartbeats 1600000 in
theorem opOf_any (L : List Tok) (i : Nat) (p : Int) (w : World) :
    Calls Tryz.prog 198 #[.agg #[.int .i64 (kd (kt L) i), .string ⟨(tx (kt L) i).toArray⟩, .int .i64 p]] w fun e w' => e = .returned (.int .i64 (opAt (kt L) i)) ∧ Below w.heap.size w w' := by
  have HA : Hid (opAt (kt L) i = if markAt (kt L) i [60] = true then 1 else if markAt (kt L) i [60, 61] = true then 2 else if markAt (kt L) i [61, 61] = true then 3 else if markAt (kt L) i [60, 62] = true then 4 else if markAt (kt L) i [62, 61] = true then 5 else if markAt (kt L) i [62] = true then 6 else 0) := rfl
  generalize opAt (kt L) i = r at HA ⊢
  have CM := hide (fun t w => markCall L i p t w)
  generalize hkk : kd (kt L) i = kk at CM ⊢
  generalize htt : tx (kt L) i = tt at CM ⊢
  clear hkk htt
  go_enter Tryz.func198, Tryz.ntmps198
  have HB := hide ((Below.refl w.heap.size w).alloc (Nat.le_refl _) (.cells #[.int .i64 (kk : Nat), .string ⟨tt.toArray⟩, .int .i64 p] 50))
  have LB := hide (heap_alloc_new w (.cells #[.int .i64 (kk : Nat), .string ⟨tt.toArray⟩, .int .i64 p] 50))
  go_wp2_with fail
  refine (CM.out [60] _).mono ?_
  rintro _ w1 ⟨rfl, hb⟩
  have HB0 := hide (HB.out.trans (hb.mono HB.out.size))
  have LB0 := hide ((hb.block _ (loc_lt LB.out)).trans LB.out)
  clear hb HB LB
  have HB := HB0
  have LB := LB0
  clear HB0 LB0
  obtain ⟨z0, z1, z2, z3⟩ := row3 LB.out
  cases hm : markAt (kt L) i [60] with
  | true =>
    rw [if_pos hm] at HA
    clear hm
    go_wp2_with fail
    go_ret
    exact ⟨ret_int (by rw [HA.out]; rfl), HB.out⟩
  | false =>
    rw [if_neg (by simp [hm])] at HA
    clear hm
    go_wp2_with fail
    refine (CM.out [60, 61] _).mono ?_
    rintro _ w2 ⟨rfl, hb⟩
    have HB1 := hide (HB.out.trans (hb.mono HB.out.size))
    have LB1 := hide ((hb.block _ (loc_lt LB.out)).trans LB.out)
    clear hb HB LB
    have HB := HB1
    have LB := LB1
    clear HB1 LB1
    clear z0 z1 z2 z3
    obtain ⟨z0, z1, z2, z3⟩ := row3 LB.out
    cases hm : markAt (kt L) i [60, 61] with
    | true =>
      rw [if_pos hm] at HA
      clear hm
      go_wp2_with fail
      go_ret
      exact ⟨ret_int (by rw [HA.out]; rfl), HB.out⟩
    | false =>
      rw [if_neg (by simp [hm])] at HA
      clear hm
      go_wp2_with fail
      refine (CM.out [61, 61] _).mono ?_
      rintro _ w3 ⟨rfl, hb⟩
      have HB2 := hide (HB.out.trans (hb.mono HB.out.size))
      have LB2 := hide ((hb.block _ (loc_lt LB.out)).trans LB.out)
      clear hb HB LB
      have HB := HB2
      have LB := LB2
      clear HB2 LB2
      clear z0 z1 z2 z3
      obtain ⟨z0, z1, z2, z3⟩ := row3 LB.out
      cases hm : markAt (kt L) i [61, 61] with
      | true =>
        rw [if_pos hm] at HA
        clear hm
        go_wp2_with fail
        go_ret
        exact ⟨ret_int (by rw [HA.out]; rfl), HB.out⟩
      | false =>
        rw [if_neg (by simp [hm])] at HA
        clear hm
        go_wp2_with fail
        refine (CM.out [60, 62] _).mono ?_
        rintro _ w4 ⟨rfl, hb⟩
        have HB3 := hide (HB.out.trans (hb.mono HB.out.size))
        have LB3 := hide ((hb.block _ (loc_lt LB.out)).trans LB.out)
        clear hb HB LB
        have HB := HB3
        have LB := LB3
        clear HB3 LB3
        clear z0 z1 z2 z3
        obtain ⟨z0, z1, z2, z3⟩ := row3 LB.out
        cases hm : markAt (kt L) i [60, 62] with
        | true =>
          rw [if_pos hm] at HA
          clear hm
          go_wp2_with fail
          go_ret
          exact ⟨ret_int (by rw [HA.out]; rfl), HB.out⟩
        | false =>
          rw [if_neg (by simp [hm])] at HA
          clear hm
          go_wp2_with fail
          refine (CM.out [62, 61] _).mono ?_
          rintro _ w5 ⟨rfl, hb⟩
          have HB4 := hide (HB.out.trans (hb.mono HB.out.size))
          have LB4 := hide ((hb.block _ (loc_lt LB.out)).trans LB.out)
          clear hb HB LB
          have HB := HB4
          have LB := LB4
          clear HB4 LB4
          clear z0 z1 z2 z3
          obtain ⟨z0, z1, z2, z3⟩ := row3 LB.out
          cases hm : markAt (kt L) i [62, 61] with
          | true =>
            rw [if_pos hm] at HA
            clear hm
            go_wp2_with fail
            go_ret
            exact ⟨ret_int (by rw [HA.out]; rfl), HB.out⟩
          | false =>
            rw [if_neg (by simp [hm])] at HA
            clear hm
            go_wp2_with fail
            refine (CM.out [62] _).mono ?_
            rintro _ w6 ⟨rfl, hb⟩
            have HB5 := hide (HB.out.trans (hb.mono HB.out.size))
            have LB5 := hide ((hb.block _ (loc_lt LB.out)).trans LB.out)
            clear hb HB LB
            have HB := HB5
            have LB := LB5
            clear HB5 LB5
            clear z0 z1 z2 z3
            obtain ⟨z0, z1, z2, z3⟩ := row3 LB.out
            cases hm : markAt (kt L) i [62] with
            | true =>
              rw [if_pos hm] at HA
              clear hm
              go_wp2_with fail
              go_ret
              exact ⟨ret_int (by rw [HA.out]; rfl), HB.out⟩
            | false =>
              rw [if_neg (by simp [hm])] at HA
              clear hm
              go_wp2_with fail
              go_ret
              exact ⟨ret_int (by rw [HA.out]; rfl), HB.out⟩

section
variable (R : Nat) (L : List Tok) (N : Nat) (s : RS) (st : St9) (w : World)

set_option maxRecDepth 100000 in
set_option maxHeartbeats 1600000 in
theorem arrow_any (h : Rd R L N s st w) (o : Out Nat) (ho : arrowM (kt L) s = o) :
    Calls Tryz.prog 133 #[.pointer (some ⟨R, 0, none⟩)] w (Ends R L N st w repN o) := by
  have HO := hide ho
  have H := hide h
  have F := hide (Fq.refl R w)
  clear h ho
  have CA := hide (ahead_any R L N s st w H.out 0 (by omega))
  rw [show s.n + 0 = s.n from rfl] at CA
  have ho := ask_go HO.out
  have CO := hide (arrowOf_any L s.n (placeAt L N s.n))
  have HL : Hid (arrowAt (kt L) s.n ≠ 0 → s.n < L.length) := hide (fun h => by
    unfold arrowAt at h
    have hm : ∀ t, markAt (kt L) s.n t = true → s.n < L.length := fun t ht => kd_lt (L := L) (k := 6) (by unfold markAt at ht; simp at ht; exact ht.1) (by omega)
    repeat' split at h
    all_goals first | (rename_i hh; exact hm _ hh) | exact absurd rfl h)
  generalize arrowAt (kt L) s.n = r at CO ho HL
  clear HO
  by_cases hr : r = 0
  · subst r
    have HO := hide (ite_t ho rfl)
    clear ho HL
    go_enter Tryz.func133, Tryz.ntmps133
    go_wp2_with fail
    refine CA.out.mono ?_
    rintro _ w1 ⟨rfl, hb⟩
    have HB := hide hb
    clear hb CA
    have H1 := hide (H.out.below HB.out)
    have F1 := hide (F.out.trans (Fq.of_below HB.out))
    clear H F HB
    go_wp2_with fail
    refine (CO.out _).mono ?_
    rintro _ w2 ⟨rfl, hb⟩
    have H2 := hide (H1.out.below hb)
    have F2 := hide (F1.out.trans (Fq.of_below hb))
    clear hb CO H1 F1
    have CF := hide (fail_any R L N s st _ H2.out 51)
    go_wp2_with fail
    refine CF.out.mono ?_
    rintro _ w9 ⟨rfl, hF⟩
    exact on_panic rfl (.of_bad HO.out (F2.out.trans hF))
  · have HO := hide (ite_f ho (by simp [hr]))
    have hlt := HL.out hr
    have hr' : ¬ ((r : Nat) : Int) = 0 := by omega
    clear ho hr HL
    go_enter Tryz.func133, Tryz.ntmps133
    go_wp2_with fail
    refine CA.out.mono ?_
    rintro _ w1 ⟨rfl, hb⟩
    have HB := hide hb
    clear hb CA
    have H1 := hide (H.out.below HB.out)
    have F1 := hide (F.out.trans (Fq.of_below HB.out))
    clear H F HB
    go_wp2_with fail
    refine (CO.out _).mono ?_
    rintro _ w2 ⟨rfl, hb⟩
    have H2 := hide (H1.out.below hb)
    have F2 := hide (F1.out.trans (Fq.of_below hb))
    clear hb CO H1 F1
    have C11 := hide (take_any R L N s st _ H2.out hlt _ rfl)
    go_wp2_with fail
    refine C11.out.mono ?_
    intro e w11 he
    rcases he.split with ⟨a11, s11, v11, ho, rfl, hv11, hR, hF⟩ | ⟨c, m, ho, rfl, hF⟩
    rotate_left 1
    · exact on_panic rfl (.of_bad (bind_no HO.out ho) (F2.out.trans hF))
    have HO11 := hide (bind_go HO.out ho)
    have H11 := hide hR
    have F11 := hide (F2.out.trans hF)
    clear he ho hR hF C11 H2 F2 HO
    cases hv11
    go_wp2_with fail
    go_ret
    exact .of_ok HO11.out rfl H11.out F11.out

set_option maxRecDepth 100000 in
set_option maxHeartbeats 1600000 in
theorem op_any (h : Rd R L N s st w) (o : Out Nat) (ho : opM (kt L) s = o) :
    Calls Tryz.prog 178 #[.pointer (some ⟨R, 0, none⟩)] w (Ends R L N st w repN o) := by
  have HO := hide ho
  have H := hide h
  have F := hide (Fq.refl R w)
  clear h ho
  have CA := hide (ahead_any R L N s st w H.out 0 (by omega))
  rw [show s.n + 0 = s.n from rfl] at CA
  have ho := ask_go HO.out
  have CO := hide (opOf_any L s.n (placeAt L N s.n))
  have HL : Hid (opAt (kt L) s.n ≠ 0 → s.n < L.length) := hide (fun h => by
    unfold opAt at h
    have hm : ∀ t, markAt (kt L) s.n t = true → s.n < L.length := fun t ht => kd_lt (L := L) (k := 6) (by unfold markAt at ht; simp at ht; exact ht.1) (by omega)
    repeat' split at h
    all_goals first | (rename_i hh; exact hm _ hh) | exact absurd rfl h)
  generalize opAt (kt L) s.n = r at CO ho HL
  clear HO
  by_cases hr : r = 0
  · subst r
    have HO := hide (ite_t ho rfl)
    clear ho HL
    go_enter Tryz.func178, Tryz.ntmps178
    go_wp2_with fail
    refine CA.out.mono ?_
    rintro _ w1 ⟨rfl, hb⟩
    have HB := hide hb
    clear hb CA
    have H1 := hide (H.out.below HB.out)
    have F1 := hide (F.out.trans (Fq.of_below HB.out))
    clear H F HB
    go_wp2_with fail
    refine (CO.out _).mono ?_
    rintro _ w2 ⟨rfl, hb⟩
    have H2 := hide (H1.out.below hb)
    have F2 := hide (F1.out.trans (Fq.of_below hb))
    clear hb CO H1 F1
    have CF := hide (fail_any R L N s st _ H2.out 51)
    go_wp2_with fail
    refine CF.out.mono ?_
    rintro _ w9 ⟨rfl, hF⟩
    exact on_panic rfl (.of_bad HO.out (F2.out.trans hF))
  · have HO := hide (ite_f ho (by simp [hr]))
    have hlt := HL.out hr
    have hr' : ¬ ((r : Nat) : Int) = 0 := by omega
    clear ho hr HL
    go_enter Tryz.func178, Tryz.ntmps178
    go_wp2_with fail
    refine CA.out.mono ?_
    rintro _ w1 ⟨rfl, hb⟩
    have HB := hide hb
    clear hb CA
    have H1 := hide (H.out.below HB.out)
    have F1 := hide (F.out.trans (Fq.of_below HB.out))
    clear H F HB
    go_wp2_with fail
    refine (CO.out _).mono ?_
    rintro _ w2 ⟨rfl, hb⟩
    have H2 := hide (H1.out.below hb)
    have F2 := hide (F1.out.trans (Fq.of_below hb))
    clear hb CO H1 F1
    have C12 := hide (take_any R L N s st _ H2.out hlt _ rfl)
    go_wp2_with fail
    refine C12.out.mono ?_
    intro e w12 he
    rcases he.split with ⟨a12, s12, v12, ho, rfl, hv12, hR, hF⟩ | ⟨c, m, ho, rfl, hF⟩
    rotate_left 1
    · exact on_panic rfl (.of_bad (bind_no HO.out ho) (F2.out.trans hF))
    have HO12 := hide (bind_go HO.out ho)
    have H12 := hide hR
    have F12 := hide (F2.out.trans hF)
    clear he ho hR hF C12 H2 F2 HO
    cases hv12
    go_wp2_with fail
    go_ret
    exact .of_ok HO12.out rfl H12.out F12.out

set_option maxRecDepth 100000 in
set_option maxHeartbeats 1600000 in
theorem sign_any (h : Rd R L N s st w) (o : Out Bool) (ho : signM (kt L) s = o) :
    Calls Tryz.prog 197 #[.pointer (some ⟨R, 0, none⟩)] w (Ends R L N st w repB o) := by
  have HO := hide ho
  have H := hide h
  have F := hide (Fq.refl R w)
  clear h ho
  go_enter Tryz.func197, Tryz.ntmps197
  have C1 := hide (hasMark_any R L N s st _ [45] H.out _ rfl)
  go_wp2_with fail
  refine C1.out.mono ?_
  intro e w1 he
  rcases he.split with ⟨a1, s1, v1, ho, rfl, hv, hR, hF⟩ | ⟨c, m, ho, rfl, hF⟩
  rotate_left 1
  · exact on_panic rfl (.of_bad (bind_no HO.out ho) (F.out.trans hF))
  have HO1 := hide (bind_go HO.out ho)
  have H1 := hide hR
  have F1 := hide (F.out.trans hF)
  cases hv
  clear he ho hR hF C1 H F HO
  have c4 := H1.out.c4
  have f4 := H1.out.frz 4
  have HOs := hide (set_go HO1.out)
  have HS := hide (H1.out.setMinus a1)
  have FS := hide (F1.out.set 4 (.bool a1))
  clear H1 F1 HO1
  cases a1 with
  | true =>
    have HO := hide (ite_t HOs.out rfl)
    go_wp2_with fail
    go_ret
    exact .of_ok HO.out rfl HS.out FS.out
  | false =>
    have HO := hide (ite_f HOs.out rfl)
    have C2 := hide (hasMark_any R L N { s1 with minus := false } st _ [43] HS.out _ rfl)
    go_wp2_with fail
    refine C2.out.mono ?_
    intro e w2 he
    rcases he.split with ⟨a2, s2, v2, ho, rfl, hv, hR, hF⟩ | ⟨c, m, ho, rfl, hF⟩
    rotate_left 1
    · exact on_panic rfl (.of_bad (ho.symm.trans HO.out) (FS.out.trans hF))
    have HO2 := hide (ho.symm.trans HO.out)
    have H2 := hide hR
    have F2 := hide (FS.out.trans hF)
    cases hv
    clear he ho hR hF C2 HS FS HO
    go_wp2_with fail
    go_ret
    exact .of_ok HO2.out rfl H2.out F2.out

end
end Go.Proofs.YthnjmfkiohgkkaaGreatDoor.Sy
