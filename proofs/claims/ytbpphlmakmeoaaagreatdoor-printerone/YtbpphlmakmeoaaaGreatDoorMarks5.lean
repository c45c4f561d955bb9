import Derived.Test.YtbpphlmakmeoaaaGreatDoorLit
set_option maxRecDepth 100000
set_option maxHeartbeats 1600000
namespace Go.Proofs.YtbpphlmakmeoaaaGreatDoor.Sy
open Go.RowKit
theorem ib (L : List fw) (i : Nat) (p : Int) (t : ee) (w : World) :
    Calls Tryz.prog 240 #[.agg #[.int .i64 (kd (kt L) i), .string ⟨(tx (kt L) i).toArray⟩, .int .i64 p], .string ⟨t.toArray⟩] w fun e w' => e = .returned (.bool (eT (kt L) i t)) ∧ Below w.heap.size w w' := by
 have CI := oj (kd (kt L) i) p ⟨(tx (kt L) i).toArray⟩ ⟨t.toArray⟩ w
 have HM : (decide (((kd (kt L) i : Nat) : Int) = 6) && ((⟨(tx (kt L) i).toArray⟩ : ByteArray).toList == (⟨t.toArray⟩ : ByteArray).toList)) = eT (kt L) i t := by
  unfold eT
  rw [ByteArray.toList_mk, ByteArray.toList_mk]
  rw [show (tx (kt L) i == t) = decide (tx (kt L) i = t) from Bool.eq_iff_iff.2 (by simp), show decide (((kd (kt L) i : Nat) : Int) = 6) = decide (kd (kt L) i = 6) from decide_eq_decide.2 (by omega)]
 rw [HM] at CI
 exact CI
theorem lZ (L : List fw) (i : Nat) (p : Int) (w : World) :
    Calls Tryz.prog 250 #[.agg #[.int .i64 (kd (kt L) i), .string ⟨(tx (kt L) i).toArray⟩, .int .i64 p]] w fun e w' => e = .returned (.int .i64 (arrowAt (kt L) i)) ∧ Below w.heap.size w w' := by
 have HA : Hid (arrowAt (kt L) i = if eT (kt L) i [45, 62] = true then 1 else if eT (kt L) i [61, 62] = true then 2 else if eT (kt L) i [126, 62] = true then 3 else 0) := rfl
 generalize arrowAt (kt L) i = r at HA ⊢
 have CM := ec (fun t w => ib L i p t w)
 generalize hkk : kd (kt L) i = kk at CM ⊢
 generalize htt : tx (kt L) i = tt at CM ⊢
 clear hkk htt
 go_enter Tryz.func250, Tryz.ntmps250
 have HB := ec ((Below.refl w.heap.size w).alloc (Nat.le_refl _) (.cells #[.int .i64 (kk : Nat), .string ⟨tt.toArray⟩, .int .i64 p] 188))
 have LB := ec (heap_alloc_new w (.cells #[.int .i64 (kk : Nat), .string ⟨tt.toArray⟩, .int .i64 p] 188))
 go_wp2_with fail
 refine (CM.out [45, 62] _).mono ?_
 rintro _ w1 ⟨rfl, hb⟩
 have Af := ec (HB.out.trans (hb.mono HB.out.size))
 have Aa := eK hb LB
 clear hb HB LB
 have HB := Af
 have LB := Aa
 clear Af Aa
 obtain ⟨z0, z1, z2, z3⟩ := fj LB.out
 cases hm : eT (kt L) i [45, 62] with
 | true =>
  rw [if_pos hm] at HA
  clear hm
  go_wp2_with fail
  go_ret
  exact ⟨gl (by rw [HA.out]; rfl), HB.out⟩
 | false =>
  rw [if_neg (by simp [hm])] at HA
  clear hm
  go_wp2_with fail
  refine (CM.out [61, 62] _).mono ?_
  rintro _ w2 ⟨rfl, hb⟩
  have Ac := ec (HB.out.trans (hb.mono HB.out.size))
  have Ae := eK hb LB
  clear hb HB LB
  have HB := Ac
  have LB := Ae
  clear Ac Ae
  clear z0 z1 z2 z3
  obtain ⟨z0, z1, z2, z3⟩ := fj LB.out
  cases hm : eT (kt L) i [61, 62] with
  | true =>
   rw [if_pos hm] at HA
   clear hm
   go_wp2_with fail
   go_ret
   exact ⟨gl (by rw [HA.out]; rfl), HB.out⟩
  | false =>
   rw [if_neg (by simp [hm])] at HA
   clear hm
   go_wp2_with fail
   refine (CM.out [126, 62] _).mono ?_
   rintro _ w3 ⟨rfl, hb⟩
   have Ab := ec (HB.out.trans (hb.mono HB.out.size))
   have Ad := eK hb LB
   clear hb HB LB
   have HB := Ab
   have LB := Ad
   clear Ab Ad
   clear z0 z1 z2 z3
   obtain ⟨z0, z1, z2, z3⟩ := fj LB.out
   cases hm : eT (kt L) i [126, 62] with
   | true =>
    rw [if_pos hm] at HA
    clear hm
    go_wp2_with fail
    go_ret
    exact ⟨gl (by rw [HA.out]; rfl), HB.out⟩
   | false =>
    rw [if_neg (by simp [hm])] at HA
    clear hm
    go_wp2_with fail
    go_ret
    exact ⟨gl (by rw [HA.out]; rfl), HB.out⟩
theorem yZ (L : List fw) (i : Nat) (p : Int) (w : World) :
    Calls Tryz.prog 349 #[.agg #[.int .i64 (kd (kt L) i), .string ⟨(tx (kt L) i).toArray⟩, .int .i64 p]] w fun e w' => e = .returned (.int .i64 (opAt (kt L) i)) ∧ Below w.heap.size w w' := by
 have HA : Hid (opAt (kt L) i = if eT (kt L) i [60] = true then 1 else if eT (kt L) i [60, 61] = true then 2 else if eT (kt L) i [61, 61] = true then 3 else if eT (kt L) i [60, 62] = true then 4 else if eT (kt L) i [62, 61] = true then 5 else if eT (kt L) i [62] = true then 6 else 0) := rfl
 generalize opAt (kt L) i = r at HA ⊢
 have CM := ec (fun t w => ib L i p t w)
 generalize hkk : kd (kt L) i = kk at CM ⊢
 generalize htt : tx (kt L) i = tt at CM ⊢
 clear hkk htt
 go_enter Tryz.func349, Tryz.ntmps349
 have HB := ec ((Below.refl w.heap.size w).alloc (Nat.le_refl _) (.cells #[.int .i64 (kk : Nat), .string ⟨tt.toArray⟩, .int .i64 p] 188))
 have LB := ec (heap_alloc_new w (.cells #[.int .i64 (kk : Nat), .string ⟨tt.toArray⟩, .int .i64 p] 188))
 go_wp2_with fail
 refine (CM.out [60] _).mono ?_
 rintro _ w1 ⟨rfl, hb⟩
 have Al := ec (HB.out.trans (hb.mono HB.out.size))
 have Ad := eK hb LB
 clear hb HB LB
 have HB := Al
 have LB := Ad
 clear Al Ad
 obtain ⟨z0, z1, z2, z3⟩ := fj LB.out
 cases hm : eT (kt L) i [60] with
 | true =>
  rw [if_pos hm] at HA
  clear hm
  go_wp2_with fail
  go_ret
  exact ⟨gl (by rw [HA.out]; rfl), HB.out⟩
 | false =>
  rw [if_neg (by simp [hm])] at HA
  clear hm
  go_wp2_with fail
  refine (CM.out [60, 61] _).mono ?_
  rintro _ w2 ⟨rfl, hb⟩
  have Af := ec (HB.out.trans (hb.mono HB.out.size))
  have Aj := eK hb LB
  clear hb HB LB
  have HB := Af
  have LB := Aj
  clear Af Aj
  clear z0 z1 z2 z3
  obtain ⟨z0, z1, z2, z3⟩ := fj LB.out
  cases hm : eT (kt L) i [60, 61] with
  | true =>
   rw [if_pos hm] at HA
   clear hm
   go_wp2_with fail
   go_ret
   exact ⟨gl (by rw [HA.out]; rfl), HB.out⟩
  | false =>
   rw [if_neg (by simp [hm])] at HA
   clear hm
   go_wp2_with fail
   refine (CM.out [61, 61] _).mono ?_
   rintro _ w3 ⟨rfl, hb⟩
   have Ae := ec (HB.out.trans (hb.mono HB.out.size))
   have Ah := eK hb LB
   clear hb HB LB
   have HB := Ae
   have LB := Ah
   clear Ae Ah
   clear z0 z1 z2 z3
   obtain ⟨z0, z1, z2, z3⟩ := fj LB.out
   cases hm : eT (kt L) i [61, 61] with
   | true =>
    rw [if_pos hm] at HA
    clear hm
    go_wp2_with fail
    go_ret
    exact ⟨gl (by rw [HA.out]; rfl), HB.out⟩
   | false =>
    rw [if_neg (by simp [hm])] at HA
    clear hm
    go_wp2_with fail
    refine (CM.out [60, 62] _).mono ?_
    rintro _ w4 ⟨rfl, hb⟩
    have Ac := ec (HB.out.trans (hb.mono HB.out.size))
    have Aa := eK hb LB
    clear hb HB LB
    have HB := Ac
    have LB := Aa
    clear Ac Aa
    clear z0 z1 z2 z3
    obtain ⟨z0, z1, z2, z3⟩ := fj LB.out
    cases hm : eT (kt L) i [60, 62] with
    | true =>
     rw [if_pos hm] at HA
     clear hm
     go_wp2_with fail
     go_ret
     exact ⟨gl (by rw [HA.out]; rfl), HB.out⟩
    | false =>
     rw [if_neg (by simp [hm])] at HA
     clear hm
     go_wp2_with fail
     refine (CM.out [62, 61] _).mono ?_
     rintro _ w5 ⟨rfl, hb⟩
     have Ai := ec (HB.out.trans (hb.mono HB.out.size))
     have Ab := eK hb LB
     clear hb HB LB
     have HB := Ai
     have LB := Ab
     clear Ai Ab
     clear z0 z1 z2 z3
     obtain ⟨z0, z1, z2, z3⟩ := fj LB.out
     cases hm : eT (kt L) i [62, 61] with
     | true =>
      rw [if_pos hm] at HA
      clear hm
      go_wp2_with fail
      go_ret
      exact ⟨gl (by rw [HA.out]; rfl), HB.out⟩
     | false =>
      rw [if_neg (by simp [hm])] at HA
      clear hm
      go_wp2_with fail
      refine (CM.out [62] _).mono ?_
      rintro _ w6 ⟨rfl, hb⟩
      have Ak := ec (HB.out.trans (hb.mono HB.out.size))
      have Ag := eK hb LB
      clear hb HB LB
      have HB := Ak
      have LB := Ag
      clear Ak Ag
      clear z0 z1 z2 z3
      obtain ⟨z0, z1, z2, z3⟩ := fj LB.out
      cases hm : eT (kt L) i [62] with
      | true =>
       rw [if_pos hm] at HA
       clear hm
       go_wp2_with fail
       go_ret
       exact ⟨gl (by rw [HA.out]; rfl), HB.out⟩
      | false =>
       rw [if_neg (by simp [hm])] at HA
       clear hm
       go_wp2_with fail
       go_ret
       exact ⟨gl (by rw [HA.out]; rfl), HB.out⟩
section
variable (R : Nat) (L : List fw) (N : Nat) (s : RS) (st : St9) (w : World)
theorem lS (h : Rd R L N s st w) (o : Out Nat) (ho : nE (kt L) s = o) :
    Calls Tryz.prog 253 #[.pointer (some ⟨R, 0, none⟩)] w (Ends R L N st w I0 o) := by
 have HO := ec ho
 have H := ec h
 have F := ec (Fq.refl R w)
 clear h ho
 have CA := ec (fm R L N s st w H.out 0 (by omega))
 rw [show s.n + 0 = s.n from rfl] at CA
 have ho := gc HO.out
 have CO := ec (lZ L s.n (eI L N s.n))
 have HL : Hid (arrowAt (kt L) s.n ≠ 0 → s.n < L.length) := ec (fun h => by
  unfold arrowAt at h
  have hm : ∀ t, eT (kt L) s.n t = true → s.n < L.length := fun t ht => j9 (L := L) (k := 6) (by unfold eT at ht; simp at ht; exact ht.1) (by omega)
  repeat' split at h
  all_goals first | (rename_i hh; exact hm _ hh) | exact absurd rfl h)
 generalize arrowAt (kt L) s.n = r at CO ho HL
 clear HO
 by_cases hr : r = 0
 · subst r
   have HO := ec (fs ho rfl)
   clear ho HL
   go_enter Tryz.func253, Tryz.ntmps253
   go_wp2_with fail
   refine CA.out.mono ?_
   rintro _ w1 ⟨rfl, hb⟩
   have HB := ec hb
   clear hb CA
   have H1 := ec (H.out.below HB.out)
   have F1 := ec (F.out.trans (Fq.of_below HB.out))
   clear H F HB
   go_wp2_with fail
   refine (CO.out _).mono ?_
   rintro _ w2 ⟨rfl, hb⟩
   have H2 := ec (H1.out.below hb)
   have F2 := ec (F1.out.trans (Fq.of_below hb))
   clear hb CO H1 F1
   have CF := ec (fS R L N s st _ H2.out 51)
   go_wp2_with fail
   refine CF.out.mono ?_
   rintro _ w9 ⟨rfl, hF⟩
   exact eg rfl (.of_bad HO.out (F2.out.trans hF))
 · have HO := ec (fc ho (by simp [hr]))
   have Ae := HL.out hr
   have hr' : ¬ ((r : Nat) : Int) = 0 := by omega
   clear ho hr HL
   go_enter Tryz.func253, Tryz.ntmps253
   go_wp2_with fail
   refine CA.out.mono ?_
   rintro _ w1 ⟨rfl, hb⟩
   have HB := ec hb
   clear hb CA
   have H1 := ec (H.out.below HB.out)
   have F1 := ec (F.out.trans (Fq.of_below HB.out))
   clear H F HB
   go_wp2_with fail
   refine (CO.out _).mono ?_
   rintro _ w2 ⟨rfl, hb⟩
   have H2 := ec (H1.out.below hb)
   have F2 := ec (F1.out.trans (Fq.of_below hb))
   clear hb CO H1 F1
   have Aa := ec (iK R L N s st _ H2.out Ae _ rfl)
   go_wp2_with fail
   refine Aa.out.mono ?_
   intro e Ag he
   rcases he.split with ⟨Ai, s11, Ah, ho, rfl, Ab, hR, hF⟩ | ⟨c, m, ho, rfl, hF⟩
   rotate_left 1
   · exact eg rfl (.of_bad (el HO.out ho) (F2.out.trans hF))
   have Ac := ec (ej HO.out ho)
   have Ad := ec hR
   have Af := ec (F2.out.trans hF)
   clear he ho hR hF Aa H2 F2 HO
   cases Ab
   go_wp2_with fail
   go_ret
   exact .of_ok Ac.out rfl Ad.out Af.out
theorem D8 (h : Rd R L N s st w) (o : Out Nat) (ho : xI (kt L) s = o) :
    Calls Tryz.prog 326 #[.pointer (some ⟨R, 0, none⟩)] w (Ends R L N st w I0 o) := by
 have HO := ec ho
 have H := ec h
 have F := ec (Fq.refl R w)
 clear h ho
 have CA := ec (fm R L N s st w H.out 0 (by omega))
 rw [show s.n + 0 = s.n from rfl] at CA
 have ho := gc HO.out
 have CO := ec (yZ L s.n (eI L N s.n))
 have HL : Hid (opAt (kt L) s.n ≠ 0 → s.n < L.length) := ec (fun h => by
  unfold opAt at h
  have hm : ∀ t, eT (kt L) s.n t = true → s.n < L.length := fun t ht => j9 (L := L) (k := 6) (by unfold eT at ht; simp at ht; exact ht.1) (by omega)
  repeat' split at h
  all_goals first | (rename_i hh; exact hm _ hh) | exact absurd rfl h)
 generalize opAt (kt L) s.n = r at CO ho HL
 clear HO
 by_cases hr : r = 0
 · subst r
   have HO := ec (fs ho rfl)
   clear ho HL
   go_enter Tryz.func326, Tryz.ntmps326
   go_wp2_with fail
   refine CA.out.mono ?_
   rintro _ w1 ⟨rfl, hb⟩
   have HB := ec hb
   clear hb CA
   have H1 := ec (H.out.below HB.out)
   have F1 := ec (F.out.trans (Fq.of_below HB.out))
   clear H F HB
   go_wp2_with fail
   refine (CO.out _).mono ?_
   rintro _ w2 ⟨rfl, hb⟩
   have H2 := ec (H1.out.below hb)
   have F2 := ec (F1.out.trans (Fq.of_below hb))
   clear hb CO H1 F1
   have CF := ec (fS R L N s st _ H2.out 51)
   go_wp2_with fail
   refine CF.out.mono ?_
   rintro _ w9 ⟨rfl, hF⟩
   exact eg rfl (.of_bad HO.out (F2.out.trans hF))
 · have HO := ec (fc ho (by simp [hr]))
   have Ae := HL.out hr
   have hr' : ¬ ((r : Nat) : Int) = 0 := by omega
   clear ho hr HL
   go_enter Tryz.func326, Tryz.ntmps326
   go_wp2_with fail
   refine CA.out.mono ?_
   rintro _ w1 ⟨rfl, hb⟩
   have HB := ec hb
   clear hb CA
   have H1 := ec (H.out.below HB.out)
   have F1 := ec (F.out.trans (Fq.of_below HB.out))
   clear H F HB
   go_wp2_with fail
   refine (CO.out _).mono ?_
   rintro _ w2 ⟨rfl, hb⟩
   have H2 := ec (H1.out.below hb)
   have F2 := ec (F1.out.trans (Fq.of_below hb))
   clear hb CO H1 F1
   have Aa := ec (iK R L N s st _ H2.out Ae _ rfl)
   go_wp2_with fail
   refine Aa.out.mono ?_
   intro e Ah he
   rcases he.split with ⟨Ai, s12, Ag, ho, rfl, Ac, hR, hF⟩ | ⟨c, m, ho, rfl, hF⟩
   rotate_left 1
   · exact eg rfl (.of_bad (el HO.out ho) (F2.out.trans hF))
   have Ab := ec (ej HO.out ho)
   have Af := ec hR
   have Ad := ec (F2.out.trans hF)
   clear he ho hR hF Aa H2 F2 HO
   cases Ac
   go_wp2_with fail
   go_ret
   exact .of_ok Ab.out rfl Af.out Ad.out
theorem zk (h : Rd R L N s st w) (o : Out Bool) (ho : oZ (kt L) s = o) :
    Calls Tryz.prog 348 #[.pointer (some ⟨R, 0, none⟩)] w (Ends R L N st w mK o) := by
 have HO := ec ho
 have H := ec h
 have F := ec (Fq.refl R w)
 clear h ho
 go_enter Tryz.func348, Tryz.ntmps348
 have C1 := ec (ig R L N s st _ [45] H.out _ rfl)
 go_wp2_with fail
 refine C1.out.mono ?_
 intro e w1 he
 rcases he.split with ⟨a1, s1, v1, ho, rfl, hv, hR, hF⟩ | ⟨c, m, ho, rfl, hF⟩
 rotate_left 1
 · exact eg rfl (.of_bad (el HO.out ho) (F.out.trans hF))
 have Aa := ec (ej HO.out ho)
 have H1 := ec hR
 have F1 := ec (F.out.trans hF)
 cases hv
 clear he ho hR hF C1 H F HO
 have c4 := H1.out.c4
 have f4 := H1.out.frz 4
 have HOs := ec (io Aa.out)
 have HS := ec (H1.out.setMinus a1)
 have FS := ec (F1.out.set 4 (.bool a1))
 clear H1 F1 Aa
 cases a1 with
 | true =>
  have HO := ec (fs HOs.out rfl)
  go_wp2_with fail
  go_ret
  exact .of_ok HO.out rfl HS.out FS.out
 | false =>
  have HO := ec (fc HOs.out rfl)
  have C2 := ec (ig R L N { s1 with minus := false } st _ [43] HS.out _ rfl)
  go_wp2_with fail
  refine C2.out.mono ?_
  intro e w2 he
  rcases he.split with ⟨a2, s2, v2, ho, rfl, hv, hR, hF⟩ | ⟨c, m, ho, rfl, hF⟩
  rotate_left 1
  · exact eg rfl (.of_bad (ho.symm.trans HO.out) (FS.out.trans hF))
  have Ab := ec (ho.symm.trans HO.out)
  have H2 := ec hR
  have F2 := ec (FS.out.trans hF)
  cases hv
  clear he ho hR hF C2 HS FS HO
  go_wp2_with fail
  go_ret
  exact .of_ok Ab.out rfl H2.out F2.out
end
end Go.Proofs.YtbpphlmakmeoaaaGreatDoor.Sy
