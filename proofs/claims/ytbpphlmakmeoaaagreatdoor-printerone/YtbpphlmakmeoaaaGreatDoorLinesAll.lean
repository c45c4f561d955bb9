import Derived.Test.YtbpphlmakmeoaaaGreatDoorMakeAll
set_option maxRecDepth 100000
set_option maxHeartbeats 3200000
namespace Go.Proofs.YtbpphlmakmeoaaaGreatDoor.Sy
open Go.RowKit
theorem jE {α : Type} {f : α → Told} {l : List α} {k : Nat} {t : α} (h : l[k]? = some t) : ((l.map f).map fu)[k]? = some (fu (f t)) := by
 rw [List.getElem?_map, List.getElem?_map, h]; rfl
theorem oM (R : Nat) (told : ee) (w : World) (h : Wr R told w) (l : List ee) (sv : Value) (b1 b2 : Nat) (h1 : w.heap[b1]? = some (.cells #[sv] 22 (0, 0))) (h2 : w.heap[b2]? = some (.cells #[.func (.func 75) #[] #[]] 152 (0, 0))) (hp : Rows Any 9 1 cS w l sv) (hll : l.length ≤ 1000000000) (hl : ∀ t ∈ l, fC t) :
    Calls Tryz.prog 135 #[.pointer (some ⟨R, 0, none⟩), .pointer (some ⟨b1, 0, none⟩), .pointer (some ⟨b2, 0, none⟩)] w (EndsW R told (eu (l.map ii)) w) := by
 have c1 := fv h1
 have HP := ec hp
 have HW := ec h
 have HL := ec hl
 have H2b := ec h2
 obtain ⟨pa, pc, rfl⟩ := ed hp
 clear h1 h2 hp h hl
 go_enter Tryz.func135, Tryz.ntmps135
 go_wp2_with fail
 go_loopw [8] (fun x wr => ∃ (k : Nat) (Aa : ee), k ≤ l.length ∧ x = .int .i64 k ∧ Hid (Wr R (told ++ Aa) wr) ∧ Hid (Kw R w wr) ∧ Hid (eu (l.map ii) = Told.app (some Aa) (ez (((l.map ii).map fu).drop k)))) (fun x _ => l.length - (intOf x).toNat)
 case atStart => exact ⟨0, [], by omega, rfl, ec (by simpa using HW.out), ec (Kw.refl R w), ec (by rw [iG]; rfl)⟩
 case round =>
  obtain ⟨k, Aa, hk, rfl, HR, HK, HO⟩ := hrel
  by_cases hlt : k < l.length
  · obtain ⟨t, ht⟩ : ∃ t, l[k]? = some t := ⟨l[k], by simp [hlt]⟩
    have HT := ec (List.mem_of_getElem? ht)
    have HD := ec (iC (jE (f := ii) ht))
    have hi := eM HK.out.keeps
    obtain ⟨ga, xa, ya, e1, _, h1, h2⟩ := Rows.at (Rows.keep (T := [9]) HP.out (Kp.of_keeps HK.out.keeps (by decide) (by decide)) (by decide) (fun _ _ h => h)) ht
    simp only [Value.slice.injEq] at e1
    obtain ⟨rfl, _, rfl⟩ := e1
    unfold cS at h1
    subst h1
    have a0 : wr.cell? ⟨ga, k, none⟩ = some (.string ⟨(t).toArray⟩) := by have := h2 0 _ rfl; simpa using this
    have Ac : Grows wr wr := Grows.refl _
    have HWq := ec (HR.out.below Ac)
    have HKq := ec (HK.out.trans (Kw.of_below Ac (Nat.le_of_lt HR.out.lt)))
    have d2 := fv (HKq.out.keep _ _ _ _ H2b.out (by decide) (by decide))
    have d2' := fv (HK.out.keep _ _ _ _ H2b.out (by decide) (by decide))
    have CT := ec (A7 wr t (HL.out t HT.out))
    clear h2 ht Ac hi
    go_wp2_with fail
    refine CT.out.mono ?_
    rintro _ w2 ⟨v, rfl, hv, hb⟩
    have CL := ec (jM w2 _ v hv)
    obtain ⟨kk, qq, rfl, _, _⟩ := hv
    have Ag := ec (HKq.out.trans (Kw.of_below hb (Nat.le_of_lt HWq.out.lt)))
    have Ad := ec (HWq.out.below hb)
    clear hb CT HKq HWq
    go_wp2_with fail
    refine CL.out.mono ?_
    rintro _ w3 ⟨v, rfl, hv, hb⟩
    have C := ec (gW R (told ++ Aa) _ ((Ad.out.below hb).below (Grows.alloc _ _)) [fu (ii t)] _ (ip w3 _ v hv) (by simp))
    rw [iJ] at C
    obtain ⟨kk, qq, rfl, _, _⟩ := hv
    have Ae := ec (Ag.out.trans (Kw.of_below (Grows.trans hb (Grows.alloc w3 (.cells #[.func (.func kk) #[] qq] 86))) (Nat.le_of_lt Ad.out.lt)))
    clear hb CL Ag Ad
    go_wp2_with fail
    refine C.out.mono ?_
    intro e w4 he
    rcases he.split with ⟨bs, hm, rfl, Af, Ab⟩ | ⟨hm, rfl, Ab⟩
    · have Ai := ec Af
      have Ah := ec (Ae.out.trans Ab)
      have Aj : Hid (eu (l.map ii) = Told.app (some (Aa ++ bs)) (ez (((l.map ii).map fu).drop (k + 1)))) := ec (by
       rw [HO.out, HD.out, hm, ← gA]
       rfl)
      clear he Af Ab hm C HR HK HO Ae d2 d2'
      go_wp2_with fail
      go_roundw
      case rel => exact ⟨k + 1, Aa ++ bs, by omega, by go_num, by rw [← List.append_assoc]; exact Ai, Ah, Aj⟩
      case measure => simp [intOf]; omega
    · exact ⟨rfl, EndsW.none (by rw [HO.out, HD.out, hm]; rfl) (Ae.out.trans Ab)⟩
  · go_wp2_with fail
    go_end0
    have e : ((l.map ii).map fu).drop k = [] := List.drop_eq_nil_iff.2 (by simp; omega)
    refine EndsW.some (bs := Aa) ?_ HR.out HK.out
    rw [HO.out, e]
    show some (Aa ++ []) = _
    simp
theorem sw (w : World) (l : List ee) (sv : Value) (hp : Rows Any 9 1 cS w l sv) (hll : l.length ≤ 1000000000) (hl : ∀ t ∈ l, fC t) : Calls Tryz.prog 74 #[sv, .func (.func 75) #[] #[]] w (fp (eu (l.map ii)) w) := by
 have HP := ec hp
 have HL := ec hl
 obtain ⟨pa, pc, rfl⟩ := ed hp
 clear hp hl
 have Ab : Hid (Below w.heap.size w ((w.alloc (.cells #[.slice pa l.length pc] 22)).alloc (.cells #[.func (.func 75) #[] #[]] 152))) := ec (((Below.refl _ _).alloc (Nat.le_refl _) _).alloc (by simp) _)
 have Aa := ec (gL w (.cells #[.slice pa l.length pc] 22) (.cells #[.func (.func 75) #[] #[]] 152))
 go_enter Tryz.func74, Tryz.ntmps74
 go_wp2_with fail
 go_ret
 refine ⟨_, rfl, ⟨_, _, rfl, fA Tryz.func135 (by kernel_rfl) (by kernel_rfl), fun R told w2 hk hW => ?_⟩, Ab.out⟩
 have Ae := hk _ _ _ _ Aa.out.1 (by decide) (by decide)
 have Ad := hk _ _ _ _ Aa.out.2 (by decide) (by decide)
 have Ac := (Keeps.of_below Ab.out).trans hk
 exact oM R told w2 hW l _ _ _ Ae Ad (Rows.keep (T := [9]) HP.out (Kp.of_keeps Ac (by decide) (by decide)) (by decide) (fun _ _ h => h)) hll HL.out
theorem nB (R : Nat) (told : ee) (w : World) (h : Wr R told w) (l : List (ee × ee)) (sv : Value) (b1 b2 : Nat) (h1 : w.heap[b1]? = some (.cells #[sv] 23 (0, 0))) (h2 : w.heap[b2]? = some (.cells #[.func (.func 77) #[] #[]] 154 (0, 0))) (hp : Rows Any 124 2 cM w l sv) (hll : l.length ≤ 1000000000) (hl : ∀ t ∈ l, (fC t.1 ∧ fC t.2)) :
    Calls Tryz.prog 136 #[.pointer (some ⟨R, 0, none⟩), .pointer (some ⟨b1, 0, none⟩), .pointer (some ⟨b2, 0, none⟩)] w (EndsW R told (eu (l.map gm)) w) := by
 have c1 := fv h1
 have HP := ec hp
 have HW := ec h
 have HL := ec hl
 have H2b := ec h2
 obtain ⟨pa, pc, rfl⟩ := ed hp
 clear h1 h2 hp h hl
 go_enter Tryz.func136, Tryz.ntmps136
 go_wp2_with fail
 go_loopw [8] (fun x wr => ∃ (k : Nat) (Aa : ee), k ≤ l.length ∧ x = .int .i64 k ∧ Hid (Wr R (told ++ Aa) wr) ∧ Hid (Kw R w wr) ∧ Hid (eu (l.map gm) = Told.app (some Aa) (ez (((l.map gm).map fu).drop k)))) (fun x _ => l.length - (intOf x).toNat)
 case atStart => exact ⟨0, [], by omega, rfl, ec (by simpa using HW.out), ec (Kw.refl R w), ec (by rw [iG]; rfl)⟩
 case round =>
  obtain ⟨k, Aa, hk, rfl, HR, HK, HO⟩ := hrel
  by_cases hlt : k < l.length
  · obtain ⟨t, ht⟩ : ∃ t, l[k]? = some t := ⟨l[k], by simp [hlt]⟩
    have HT := ec (List.mem_of_getElem? ht)
    have HD := ec (iC (jE (f := gm) ht))
    have hi := eM HK.out.keeps
    obtain ⟨ga, xa, ya, e1, _, h1, h2⟩ := Rows.at (Rows.keep (T := [124]) HP.out (Kp.of_keeps HK.out.keeps (by decide) (by decide)) (by decide) (fun _ _ h => h)) ht
    simp only [Value.slice.injEq] at e1
    obtain ⟨rfl, _, rfl⟩ := e1
    unfold cM at h1
    subst h1
    have a0 : wr.cell? ⟨ga, k * 2, none⟩ = some (.string ⟨(t.1).toArray⟩) := by have := h2 0 _ rfl; simpa using this
    have a1 : wr.cell? ⟨ga, k * 2 + 1, none⟩ = some (.string ⟨(t.2).toArray⟩) := by have := h2 1 _ rfl; simpa using this
    have Ac : Grows wr (wr.alloc (.cells #[.string ⟨(t.1).toArray⟩, .string ⟨(t.2).toArray⟩] 124)) := Grows.alloc _ _
    have HWq := ec (HR.out.below Ac)
    have HKq := ec (HK.out.trans (Kw.of_below Ac (Nat.le_of_lt HR.out.lt)))
    have d2 := fv (HKq.out.keep _ _ _ _ H2b.out (by decide) (by decide))
    have d2' := fv (HK.out.keep _ _ _ _ H2b.out (by decide) (by decide))
    have CT := ec (wl (wr.alloc (.cells #[.string ⟨(t.1).toArray⟩, .string ⟨(t.2).toArray⟩] 124)) t (HL.out t HT.out).1 (HL.out t HT.out).2)
    clear h2 ht Ac hi
    go_wp2_with fail
    refine CT.out.mono ?_
    rintro _ w2 ⟨v, rfl, hv, hb⟩
    have CL := ec (jM w2 _ v hv)
    obtain ⟨kk, qq, rfl, _, _⟩ := hv
    have Ag := ec (HKq.out.trans (Kw.of_below hb (Nat.le_of_lt HWq.out.lt)))
    have Ad := ec (HWq.out.below hb)
    clear hb CT HKq HWq
    go_wp2_with fail
    refine CL.out.mono ?_
    rintro _ w3 ⟨v, rfl, hv, hb⟩
    have C := ec (gW R (told ++ Aa) _ ((Ad.out.below hb).below (Grows.alloc _ _)) [fu (gm t)] _ (ip w3 _ v hv) (by simp))
    rw [iJ] at C
    obtain ⟨kk, qq, rfl, _, _⟩ := hv
    have Ae := ec (Ag.out.trans (Kw.of_below (Grows.trans hb (Grows.alloc w3 (.cells #[.func (.func kk) #[] qq] 86))) (Nat.le_of_lt Ad.out.lt)))
    clear hb CL Ag Ad
    go_wp2_with fail
    refine C.out.mono ?_
    intro e w4 he
    rcases he.split with ⟨bs, hm, rfl, Af, Ab⟩ | ⟨hm, rfl, Ab⟩
    · have Ai := ec Af
      have Ah := ec (Ae.out.trans Ab)
      have Aj : Hid (eu (l.map gm) = Told.app (some (Aa ++ bs)) (ez (((l.map gm).map fu).drop (k + 1)))) := ec (by
       rw [HO.out, HD.out, hm, ← gA]
       rfl)
      clear he Af Ab hm C HR HK HO Ae d2 d2'
      go_wp2_with fail
      go_roundw
      case rel => exact ⟨k + 1, Aa ++ bs, by omega, by go_num, by rw [← List.append_assoc]; exact Ai, Ah, Aj⟩
      case measure => simp [intOf]; omega
    · exact ⟨rfl, EndsW.none (by rw [HO.out, HD.out, hm]; rfl) (Ae.out.trans Ab)⟩
  · go_wp2_with fail
    go_end0
    have e : ((l.map gm).map fu).drop k = [] := List.drop_eq_nil_iff.2 (by simp; omega)
    refine EndsW.some (bs := Aa) ?_ HR.out HK.out
    rw [HO.out, e]
    show some (Aa ++ []) = _
    simp
theorem pm (w : World) (l : List (ee × ee)) (sv : Value) (hp : Rows Any 124 2 cM w l sv) (hll : l.length ≤ 1000000000) (hl : ∀ t ∈ l, (fC t.1 ∧ fC t.2)) : Calls Tryz.prog 76 #[sv, .func (.func 77) #[] #[]] w (fp (eu (l.map gm)) w) := by
 have HP := ec hp
 have HL := ec hl
 obtain ⟨pa, pc, rfl⟩ := ed hp
 clear hp hl
 have Ab : Hid (Below w.heap.size w ((w.alloc (.cells #[.slice pa l.length pc] 23)).alloc (.cells #[.func (.func 77) #[] #[]] 154))) := ec (((Below.refl _ _).alloc (Nat.le_refl _) _).alloc (by simp) _)
 have Aa := ec (gL w (.cells #[.slice pa l.length pc] 23) (.cells #[.func (.func 77) #[] #[]] 154))
 go_enter Tryz.func76, Tryz.ntmps76
 go_wp2_with fail
 go_ret
 refine ⟨_, rfl, ⟨_, _, rfl, fA Tryz.func136 (by kernel_rfl) (by kernel_rfl), fun R told w2 hk hW => ?_⟩, Ab.out⟩
 have Ae := hk _ _ _ _ Aa.out.1 (by decide) (by decide)
 have Ad := hk _ _ _ _ Aa.out.2 (by decide) (by decide)
 have Ac := (Keeps.of_below Ab.out).trans hk
 exact nB R told w2 hW l _ _ _ Ae Ad (Rows.keep (T := [124]) HP.out (Kp.of_keeps Ac (by decide) (by decide)) (by decide) (fun _ _ h => h)) hll HL.out
theorem oN (R : Nat) (told : ee) (w : World) (h : Wr R told w) (l : List fZ) (sv : Value) (b1 b2 : Nat) (h1 : w.heap[b1]? = some (.cells #[sv] 24 (0, 0))) (h2 : w.heap[b2]? = some (.cells #[.func (.func 79) #[] #[]] 156 (0, 0))) (hp : Rows Any 128 4 (cPred Any) w l sv) (hll : l.length ≤ 1000000000) (hl : ∀ t ∈ l, kB t) :
    Calls Tryz.prog 137 #[.pointer (some ⟨R, 0, none⟩), .pointer (some ⟨b1, 0, none⟩), .pointer (some ⟨b2, 0, none⟩)] w (EndsW R told (eu (l.map (iv XP))) w) := by
 have c1 := fv h1
 have HP := ec hp
 have HW := ec h
 have HL := ec hl
 have H2b := ec h2
 obtain ⟨pa, pc, rfl⟩ := ed hp
 clear h1 h2 hp h hl
 go_enter Tryz.func137, Tryz.ntmps137
 go_wp2_with fail
 go_loopw [8] (fun x wr => ∃ (k : Nat) (Aa : ee), k ≤ l.length ∧ x = .int .i64 k ∧ Hid (Wr R (told ++ Aa) wr) ∧ Hid (Kw R w wr) ∧ Hid (eu (l.map (iv XP)) = Told.app (some Aa) (ez (((l.map (iv XP)).map fu).drop k)))) (fun x _ => l.length - (intOf x).toNat)
 case atStart => exact ⟨0, [], by omega, rfl, ec (by simpa using HW.out), ec (Kw.refl R w), ec (by rw [iG]; rfl)⟩
 case round =>
  obtain ⟨k, Aa, hk, rfl, HR, HK, HO⟩ := hrel
  by_cases hlt : k < l.length
  · obtain ⟨t, ht⟩ : ∃ t, l[k]? = some t := ⟨l[k], by simp [hlt]⟩
    have HT := ec (List.mem_of_getElem? ht)
    have HD := ec (iC (jE (f := (iv XP)) ht))
    have hi := eM HK.out.keeps
    obtain ⟨ga, xa, ya, e1, _, h1, h2⟩ := Rows.at (Rows.keep (T := [128]) HP.out (Kp.of_keeps HK.out.keeps (by decide) (by decide)) (by decide) (fun _ _ h => h.keep hi)) ht
    simp only [Value.slice.injEq] at e1
    obtain ⟨rfl, _, rfl⟩ := e1
    obtain ⟨y0, y1, rfl, Ad, Ae⟩ := h1
    obtain ⟨p0, q0, rfl⟩ := ed Ad
    obtain ⟨p1, q1, rfl⟩ := ed Ae
    have a0 : wr.cell? ⟨ga, k * 4, none⟩ = some (.string ⟨(t.name).toArray⟩) := by have := h2 0 _ rfl; simpa using this
    have a1 : wr.cell? ⟨ga, k * 4 + 1, none⟩ = some (.int .i64 (t.sort)) := by have := h2 1 _ rfl; simpa using this
    have a2 : wr.cell? ⟨ga, k * 4 + 2, none⟩ = some (.slice p0 (t.kinds).length q0) := by have := h2 2 _ rfl; simpa using this
    have a3 : wr.cell? ⟨ga, k * 4 + 3, none⟩ = some (.slice p1 (t.values).length q1) := by have := h2 3 _ rfl; simpa using this
    have Ab : Grows wr (wr.alloc (.cells #[.string ⟨(t.name).toArray⟩, .int .i64 (t.sort), .slice p0 (t.kinds).length q0, .slice p1 (t.values).length q1] 128)) := Grows.alloc _ _
    have Al := ec (Strs.keep (T := ei) Ad (eM Ab.keeps) (by decide))
    have Am := ec (Moneys.keep (T := ei) Ae (eM Ab.keeps) (by decide))
    have HWq := ec (HR.out.below Ab)
    have HKq := ec (HK.out.trans (Kw.of_below Ab (Nat.le_of_lt HR.out.lt)))
    have d2 := fv (HKq.out.keep _ _ _ _ H2b.out (by decide) (by decide))
    have d2' := fv (HK.out.keep _ _ _ _ H2b.out (by decide) (by decide))
    have CT := ec (B0 (wr.alloc (.cells #[.string ⟨(t.name).toArray⟩, .int .i64 (t.sort), .slice p0 (t.kinds).length q0, .slice p1 (t.values).length q1] 128)) t _ ⟨_, _, rfl, Al.out, Am.out⟩ (HL.out t HT.out))
    clear h2 ht Ab hi Ad Ae
    go_wp2_with fail
    refine CT.out.mono ?_
    rintro _ w2 ⟨v, rfl, hv, hb⟩
    have CL := ec (jM w2 _ v hv)
    obtain ⟨kk, qq, rfl, _, _⟩ := hv
    have Ai := ec (HKq.out.trans (Kw.of_below hb (Nat.le_of_lt HWq.out.lt)))
    have Af := ec (HWq.out.below hb)
    clear hb CT HKq HWq
    go_wp2_with fail
    refine CL.out.mono ?_
    rintro _ w3 ⟨v, rfl, hv, hb⟩
    have C := ec (gW R (told ++ Aa) _ ((Af.out.below hb).below (Grows.alloc _ _)) [fu (iv XP t)] _ (ip w3 _ v hv) (by simp))
    rw [iJ] at C
    obtain ⟨kk, qq, rfl, _, _⟩ := hv
    have Ag := ec (Ai.out.trans (Kw.of_below (Grows.trans hb (Grows.alloc w3 (.cells #[.func (.func kk) #[] qq] 86))) (Nat.le_of_lt Af.out.lt)))
    clear hb CL Ai Af
    go_wp2_with fail
    refine C.out.mono ?_
    intro e w4 he
    rcases he.split with ⟨bs, hm, rfl, Ah, Ac⟩ | ⟨hm, rfl, Ac⟩
    · have Ak := ec Ah
      have Aj := ec (Ag.out.trans Ac)
      have An : Hid (eu (l.map (iv XP)) = Told.app (some (Aa ++ bs)) (ez (((l.map (iv XP)).map fu).drop (k + 1)))) := ec (by
       rw [HO.out, HD.out, hm, ← gA]
       rfl)
      clear he Ah Ac hm C HR HK HO Ag d2 d2'
      go_wp2_with fail
      go_roundw
      case rel => exact ⟨k + 1, Aa ++ bs, by omega, by go_num, by rw [← List.append_assoc]; exact Ak, Aj, An⟩
      case measure => simp [intOf]; omega
    · exact ⟨rfl, EndsW.none (by rw [HO.out, HD.out, hm]; rfl) (Ag.out.trans Ac)⟩
  · go_wp2_with fail
    go_end0
    have e : ((l.map (iv XP)).map fu).drop k = [] := List.drop_eq_nil_iff.2 (by simp; omega)
    refine EndsW.some (bs := Aa) ?_ HR.out HK.out
    rw [HO.out, e]
    show some (Aa ++ []) = _
    simp
theorem sk (w : World) (l : List fZ) (sv : Value) (hp : Rows Any 128 4 (cPred Any) w l sv) (hll : l.length ≤ 1000000000) (hl : ∀ t ∈ l, kB t) : Calls Tryz.prog 78 #[sv, .func (.func 79) #[] #[]] w (fp (eu (l.map (iv XP))) w) := by
 have HP := ec hp
 have HL := ec hl
 obtain ⟨pa, pc, rfl⟩ := ed hp
 clear hp hl
 have Ac : Hid (Below w.heap.size w ((w.alloc (.cells #[.slice pa l.length pc] 24)).alloc (.cells #[.func (.func 79) #[] #[]] 156))) := ec (((Below.refl _ _).alloc (Nat.le_refl _) _).alloc (by simp) _)
 have Ab := ec (gL w (.cells #[.slice pa l.length pc] 24) (.cells #[.func (.func 79) #[] #[]] 156))
 go_enter Tryz.func78, Tryz.ntmps78
 go_wp2_with fail
 go_ret
 refine ⟨_, rfl, ⟨_, _, rfl, fA Tryz.func137 (by kernel_rfl) (by kernel_rfl), fun R told w2 hk hW => ?_⟩, Ac.out⟩
 have Ae := hk _ _ _ _ Ab.out.1 (by decide) (by decide)
 have Ad := hk _ _ _ _ Ab.out.2 (by decide) (by decide)
 have Aa := (Keeps.of_below Ac.out).trans hk
 exact oN R told w2 hW l _ _ _ Ae Ad (Rows.keep (T := [128]) HP.out (Kp.of_keeps Aa (by decide) (by decide)) (by decide) (fun _ _ h => h.keep (eM Aa))) hll HL.out
theorem nK (R : Nat) (told : ee) (w : World) (h : Wr R told w) (l : List (List ee)) (sv : Value) (b1 b2 : Nat) (h1 : w.heap[b1]? = some (.cells #[sv] 25 (0, 0))) (h2 : w.heap[b2]? = some (.cells #[.func (.func 81) #[] #[]] 158 (0, 0))) (hp : Rows Any 22 1 (cClass Any) w l sv) (hll : l.length ≤ 1000000000) (hl : ∀ t ∈ l, jX t) :
    Calls Tryz.prog 143 #[.pointer (some ⟨R, 0, none⟩), .pointer (some ⟨b1, 0, none⟩), .pointer (some ⟨b2, 0, none⟩)] w (EndsW R told (eu (l.map gM)) w) := by
 have c1 := fv h1
 have HP := ec hp
 have HW := ec h
 have HL := ec hl
 have H2b := ec h2
 obtain ⟨pa, pc, rfl⟩ := ed hp
 clear h1 h2 hp h hl
 go_enter Tryz.func143, Tryz.ntmps143
 go_wp2_with fail
 go_loopw [8] (fun x wr => ∃ (k : Nat) (Aa : ee), k ≤ l.length ∧ x = .int .i64 k ∧ Hid (Wr R (told ++ Aa) wr) ∧ Hid (Kw R w wr) ∧ Hid (eu (l.map gM) = Told.app (some Aa) (ez (((l.map gM).map fu).drop k)))) (fun x _ => l.length - (intOf x).toNat)
 case atStart => exact ⟨0, [], by omega, rfl, ec (by simpa using HW.out), ec (Kw.refl R w), ec (by rw [iG]; rfl)⟩
 case round =>
  obtain ⟨k, Aa, hk, rfl, HR, HK, HO⟩ := hrel
  by_cases hlt : k < l.length
  · obtain ⟨t, ht⟩ : ∃ t, l[k]? = some t := ⟨l[k], by simp [hlt]⟩
    have HT := ec (List.mem_of_getElem? ht)
    have HD := ec (iC (jE (f := gM) ht))
    have hi := eM HK.out.keeps
    obtain ⟨ga, xa, ya, e1, _, h1, h2⟩ := Rows.at (Rows.keep (T := [22]) HP.out (Kp.of_keeps HK.out.keeps (by decide) (by decide)) (by decide) (fun _ _ h => h.keep hi)) ht
    simp only [Value.slice.injEq] at e1
    obtain ⟨rfl, _, rfl⟩ := e1
    obtain ⟨y0, rfl, Ad⟩ := h1
    obtain ⟨p0, q0, rfl⟩ := ed Ad
    have a0 : wr.cell? ⟨ga, k, none⟩ = some (.slice p0 (t).length q0) := by have := h2 0 _ rfl; simpa using this
    have Ab : Grows wr wr := Grows.refl _
    have Ak := ec (Strs.keep (T := ei) Ad (eM Ab.keeps) (by decide))
    have HWq := ec (HR.out.below Ab)
    have HKq := ec (HK.out.trans (Kw.of_below Ab (Nat.le_of_lt HR.out.lt)))
    have d2 := fv (HKq.out.keep _ _ _ _ H2b.out (by decide) (by decide))
    have d2' := fv (HK.out.keep _ _ _ _ H2b.out (by decide) (by decide))
    have CT := ec (zn wr t _ Ak.out (HL.out t HT.out))
    clear h2 ht Ab hi Ad
    go_wp2_with fail
    refine CT.out.mono ?_
    rintro _ w2 ⟨v, rfl, hv, hb⟩
    have CL := ec (jM w2 _ v hv)
    obtain ⟨kk, qq, rfl, _, _⟩ := hv
    have Ah := ec (HKq.out.trans (Kw.of_below hb (Nat.le_of_lt HWq.out.lt)))
    have Ae := ec (HWq.out.below hb)
    clear hb CT HKq HWq
    go_wp2_with fail
    refine CL.out.mono ?_
    rintro _ w3 ⟨v, rfl, hv, hb⟩
    have C := ec (gW R (told ++ Aa) _ ((Ae.out.below hb).below (Grows.alloc _ _)) [fu (gM t)] _ (ip w3 _ v hv) (by simp))
    rw [iJ] at C
    obtain ⟨kk, qq, rfl, _, _⟩ := hv
    have Af := ec (Ah.out.trans (Kw.of_below (Grows.trans hb (Grows.alloc w3 (.cells #[.func (.func kk) #[] qq] 86))) (Nat.le_of_lt Ae.out.lt)))
    clear hb CL Ah Ae
    go_wp2_with fail
    refine C.out.mono ?_
    intro e w4 he
    rcases he.split with ⟨bs, hm, rfl, Ag, Ac⟩ | ⟨hm, rfl, Ac⟩
    · have Aj := ec Ag
      have Ai := ec (Af.out.trans Ac)
      have Al : Hid (eu (l.map gM) = Told.app (some (Aa ++ bs)) (ez (((l.map gM).map fu).drop (k + 1)))) := ec (by
       rw [HO.out, HD.out, hm, ← gA]
       rfl)
      clear he Ag Ac hm C HR HK HO Af d2 d2'
      go_wp2_with fail
      go_roundw
      case rel => exact ⟨k + 1, Aa ++ bs, by omega, by go_num, by rw [← List.append_assoc]; exact Aj, Ai, Al⟩
      case measure => simp [intOf]; omega
    · exact ⟨rfl, EndsW.none (by rw [HO.out, HD.out, hm]; rfl) (Af.out.trans Ac)⟩
  · go_wp2_with fail
    go_end0
    have e : ((l.map gM).map fu).drop k = [] := List.drop_eq_nil_iff.2 (by simp; omega)
    refine EndsW.some (bs := Aa) ?_ HR.out HK.out
    rw [HO.out, e]
    show some (Aa ++ []) = _
    simp
theorem pF (w : World) (l : List (List ee)) (sv : Value) (hp : Rows Any 22 1 (cClass Any) w l sv) (hll : l.length ≤ 1000000000) (hl : ∀ t ∈ l, jX t) : Calls Tryz.prog 80 #[sv, .func (.func 81) #[] #[]] w (fp (eu (l.map gM)) w) := by
 have HP := ec hp
 have HL := ec hl
 obtain ⟨pa, pc, rfl⟩ := ed hp
 clear hp hl
 have Ac : Hid (Below w.heap.size w ((w.alloc (.cells #[.slice pa l.length pc] 25)).alloc (.cells #[.func (.func 81) #[] #[]] 158))) := ec (((Below.refl _ _).alloc (Nat.le_refl _) _).alloc (by simp) _)
 have Ab := ec (gL w (.cells #[.slice pa l.length pc] 25) (.cells #[.func (.func 81) #[] #[]] 158))
 go_enter Tryz.func80, Tryz.ntmps80
 go_wp2_with fail
 go_ret
 refine ⟨_, rfl, ⟨_, _, rfl, fA Tryz.func143 (by kernel_rfl) (by kernel_rfl), fun R told w2 hk hW => ?_⟩, Ac.out⟩
 have Ae := hk _ _ _ _ Ab.out.1 (by decide) (by decide)
 have Ad := hk _ _ _ _ Ab.out.2 (by decide) (by decide)
 have Aa := (Keeps.of_below Ac.out).trans hk
 exact nK R told w2 hW l _ _ _ Ae Ad (Rows.keep (T := [22]) HP.out (Kp.of_keeps Aa (by decide) (by decide)) (by decide) (fun _ _ h => h.keep (eM Aa))) hll HL.out
theorem ni (R : Nat) (told : ee) (w : World) (h : Wr R told w) (l : List (ee × Int)) (sv : Value) (b1 b2 : Nat) (h1 : w.heap[b1]? = some (.cells #[sv] 26 (0, 0))) (h2 : w.heap[b2]? = some (.cells #[.func (.func 83) #[] #[]] 160 (0, 0))) (hp : Rows Any 131 2 i8 w l sv) (hll : l.length ≤ 1000000000) (hl : ∀ t ∈ l, (fC t.1 ∧ ic t.2)) :
    Calls Tryz.prog 145 #[.pointer (some ⟨R, 0, none⟩), .pointer (some ⟨b1, 0, none⟩), .pointer (some ⟨b2, 0, none⟩)] w (EndsW R told (eu (l.map (gy XP))) w) := by
 have c1 := fv h1
 have HP := ec hp
 have HW := ec h
 have HL := ec hl
 have H2b := ec h2
 obtain ⟨pa, pc, rfl⟩ := ed hp
 clear h1 h2 hp h hl
 go_enter Tryz.func145, Tryz.ntmps145
 go_wp2_with fail
 go_loopw [8] (fun x wr => ∃ (k : Nat) (Aa : ee), k ≤ l.length ∧ x = .int .i64 k ∧ Hid (Wr R (told ++ Aa) wr) ∧ Hid (Kw R w wr) ∧ Hid (eu (l.map (gy XP)) = Told.app (some Aa) (ez (((l.map (gy XP)).map fu).drop k)))) (fun x _ => l.length - (intOf x).toNat)
 case atStart => exact ⟨0, [], by omega, rfl, ec (by simpa using HW.out), ec (Kw.refl R w), ec (by rw [iG]; rfl)⟩
 case round =>
  obtain ⟨k, Aa, hk, rfl, HR, HK, HO⟩ := hrel
  by_cases hlt : k < l.length
  · obtain ⟨t, ht⟩ : ∃ t, l[k]? = some t := ⟨l[k], by simp [hlt]⟩
    have HT := ec (List.mem_of_getElem? ht)
    have HD := ec (iC (jE (f := (gy XP)) ht))
    have hi := eM HK.out.keeps
    obtain ⟨ga, xa, ya, e1, _, h1, h2⟩ := Rows.at (Rows.keep (T := [131]) HP.out (Kp.of_keeps HK.out.keeps (by decide) (by decide)) (by decide) (fun _ _ h => h)) ht
    simp only [Value.slice.injEq] at e1
    obtain ⟨rfl, _, rfl⟩ := e1
    unfold i8 at h1
    subst h1
    have a0 : wr.cell? ⟨ga, k * 2, none⟩ = some (.string ⟨(t.1).toArray⟩) := by have := h2 0 _ rfl; simpa using this
    have a1 : wr.cell? ⟨ga, k * 2 + 1, none⟩ = some (.int .i64 (t.2)) := by have := h2 1 _ rfl; simpa using this
    have Ac : Grows wr (wr.alloc (.cells #[.string ⟨(t.1).toArray⟩, .int .i64 (t.2)] 131)) := Grows.alloc _ _
    have HWq := ec (HR.out.below Ac)
    have HKq := ec (HK.out.trans (Kw.of_below Ac (Nat.le_of_lt HR.out.lt)))
    have d2 := fv (HKq.out.keep _ _ _ _ H2b.out (by decide) (by decide))
    have d2' := fv (HK.out.keep _ _ _ _ H2b.out (by decide) (by decide))
    have CT := ec (wi (wr.alloc (.cells #[.string ⟨(t.1).toArray⟩, .int .i64 (t.2)] 131)) t (HL.out t HT.out).1 (HL.out t HT.out).2)
    clear h2 ht Ac hi
    go_wp2_with fail
    refine CT.out.mono ?_
    rintro _ w2 ⟨v, rfl, hv, hb⟩
    have CL := ec (jM w2 _ v hv)
    obtain ⟨kk, qq, rfl, _, _⟩ := hv
    have Ag := ec (HKq.out.trans (Kw.of_below hb (Nat.le_of_lt HWq.out.lt)))
    have Ad := ec (HWq.out.below hb)
    clear hb CT HKq HWq
    go_wp2_with fail
    refine CL.out.mono ?_
    rintro _ w3 ⟨v, rfl, hv, hb⟩
    have C := ec (gW R (told ++ Aa) _ ((Ad.out.below hb).below (Grows.alloc _ _)) [fu (gy XP t)] _ (ip w3 _ v hv) (by simp))
    rw [iJ] at C
    obtain ⟨kk, qq, rfl, _, _⟩ := hv
    have Ae := ec (Ag.out.trans (Kw.of_below (Grows.trans hb (Grows.alloc w3 (.cells #[.func (.func kk) #[] qq] 86))) (Nat.le_of_lt Ad.out.lt)))
    clear hb CL Ag Ad
    go_wp2_with fail
    refine C.out.mono ?_
    intro e w4 he
    rcases he.split with ⟨bs, hm, rfl, Af, Ab⟩ | ⟨hm, rfl, Ab⟩
    · have Ai := ec Af
      have Ah := ec (Ae.out.trans Ab)
      have Aj : Hid (eu (l.map (gy XP)) = Told.app (some (Aa ++ bs)) (ez (((l.map (gy XP)).map fu).drop (k + 1)))) := ec (by
       rw [HO.out, HD.out, hm, ← gA]
       rfl)
      clear he Af Ab hm C HR HK HO Ae d2 d2'
      go_wp2_with fail
      go_roundw
      case rel => exact ⟨k + 1, Aa ++ bs, by omega, by go_num, by rw [← List.append_assoc]; exact Ai, Ah, Aj⟩
      case measure => simp [intOf]; omega
    · exact ⟨rfl, EndsW.none (by rw [HO.out, HD.out, hm]; rfl) (Ae.out.trans Ab)⟩
  · go_wp2_with fail
    go_end0
    have e : ((l.map (gy XP)).map fu).drop k = [] := List.drop_eq_nil_iff.2 (by simp; omega)
    refine EndsW.some (bs := Aa) ?_ HR.out HK.out
    rw [HO.out, e]
    show some (Aa ++ []) = _
    simp
theorem o3 (w : World) (l : List (ee × Int)) (sv : Value) (hp : Rows Any 131 2 i8 w l sv) (hll : l.length ≤ 1000000000) (hl : ∀ t ∈ l, (fC t.1 ∧ ic t.2)) : Calls Tryz.prog 82 #[sv, .func (.func 83) #[] #[]] w (fp (eu (l.map (gy XP))) w) := by
 have HP := ec hp
 have HL := ec hl
 obtain ⟨pa, pc, rfl⟩ := ed hp
 clear hp hl
 have Ab : Hid (Below w.heap.size w ((w.alloc (.cells #[.slice pa l.length pc] 26)).alloc (.cells #[.func (.func 83) #[] #[]] 160))) := ec (((Below.refl _ _).alloc (Nat.le_refl _) _).alloc (by simp) _)
 have Aa := ec (gL w (.cells #[.slice pa l.length pc] 26) (.cells #[.func (.func 83) #[] #[]] 160))
 go_enter Tryz.func82, Tryz.ntmps82
 go_wp2_with fail
 go_ret
 refine ⟨_, rfl, ⟨_, _, rfl, fA Tryz.func145 (by kernel_rfl) (by kernel_rfl), fun R told w2 hk hW => ?_⟩, Ab.out⟩
 have Ae := hk _ _ _ _ Aa.out.1 (by decide) (by decide)
 have Ad := hk _ _ _ _ Aa.out.2 (by decide) (by decide)
 have Ac := (Keeps.of_below Ab.out).trans hk
 exact ni R told w2 hW l _ _ _ Ae Ad (Rows.keep (T := [131]) HP.out (Kp.of_keeps Ac (by decide) (by decide)) (by decide) (fun _ _ h => h)) hll HL.out
theorem ou (R : Nat) (told : ee) (w : World) (h : Wr R told w) (l : List gI) (sv : Value) (b1 b2 : Nat) (h1 : w.heap[b1]? = some (.cells #[sv] 27 (0, 0))) (h2 : w.heap[b2]? = some (.cells #[.func (.func 85) #[] #[]] 162 (0, 0))) (hp : Rows Any 49 11 (cRule Any) w l sv) (hll : l.length ≤ 1000000000) (hl : ∀ t ∈ l, lr t) :
    Calls Tryz.prog 147 #[.pointer (some ⟨R, 0, none⟩), .pointer (some ⟨b1, 0, none⟩), .pointer (some ⟨b2, 0, none⟩)] w (EndsW R told (eu (l.map (it XP))) w) := by
 have c1 := fv h1
 have HP := ec hp
 have HW := ec h
 have HL := ec hl
 have H2b := ec h2
 obtain ⟨pa, pc, rfl⟩ := ed hp
 clear h1 h2 hp h hl
 go_enter Tryz.func147, Tryz.ntmps147
 go_wp2_with fail
 go_loopw [8] (fun x wr => ∃ (k : Nat) (Aa : ee), k ≤ l.length ∧ x = .int .i64 k ∧ Hid (Wr R (told ++ Aa) wr) ∧ Hid (Kw R w wr) ∧ Hid (eu (l.map (it XP)) = Told.app (some Aa) (ez (((l.map (it XP)).map fu).drop k)))) (fun x _ => l.length - (intOf x).toNat)
 case atStart => exact ⟨0, [], by omega, rfl, ec (by simpa using HW.out), ec (Kw.refl R w), ec (by rw [iG]; rfl)⟩
 case round =>
  obtain ⟨k, Aa, hk, rfl, HR, HK, HO⟩ := hrel
  by_cases hlt : k < l.length
  · obtain ⟨t, ht⟩ : ∃ t, l[k]? = some t := ⟨l[k], by simp [hlt]⟩
    have HT := ec (List.mem_of_getElem? ht)
    have HD := ec (iC (jE (f := (it XP)) ht))
    have hi := eM HK.out.keeps
    obtain ⟨ga, xa, ya, e1, _, h1, h2⟩ := Rows.at (Rows.keep (T := [49]) HP.out (Kp.of_keeps HK.out.keeps (by decide) (by decide)) (by decide) (fun _ _ h => h.keep hi)) ht
    simp only [Value.slice.injEq] at e1
    obtain ⟨rfl, _, rfl⟩ := e1
    obtain ⟨y0, y1, rfl, Ad, Ae⟩ := h1
    obtain ⟨p0, q0, rfl⟩ := ed Ad
    obtain ⟨p1, q1, rfl⟩ := ed Ae
    have a0 : wr.cell? ⟨ga, k * 11, none⟩ = some (.string ⟨(t.name).toArray⟩) := by have := h2 0 _ rfl; simpa using this
    have a1 : wr.cell? ⟨ga, k * 11 + 1, none⟩ = some (.string ⟨(t.source).toArray⟩) := by have := h2 1 _ rfl; simpa using this
    have a2 : wr.cell? ⟨ga, k * 11 + 2, none⟩ = some (.int .i64 (t.day)) := by have := h2 2 _ rfl; simpa using this
    have a3 : wr.cell? ⟨ga, k * 11 + 3, none⟩ = some (.int .i64 (t.till)) := by have := h2 3 _ rfl; simpa using this
    have a4 : wr.cell? ⟨ga, k * 11 + 4, none⟩ = some (.slice p0 (t.body).length q0) := by have := h2 4 _ rfl; simpa using this
    have a5 : wr.cell? ⟨ga, k * 11 + 5, none⟩ = some (.int .i64 (t.arrow)) := by have := h2 5 _ rfl; simpa using this
    have a6 : wr.cell? ⟨ga, k * 11 + 6, none⟩ = some (.bool t.head.neg) := by have := h2 6 _ rfl; simpa using this
    have a7 : wr.cell? ⟨ga, k * 11 + 7, none⟩ = some (.string ⟨(t.head.pred).toArray⟩) := by have := h2 7 _ rfl; simpa using this
    have a8 : wr.cell? ⟨ga, k * 11 + 8, none⟩ = some (.slice p1 (t.head.args).length q1) := by have := h2 8 _ rfl; simpa using this
    have a9 : wr.cell? ⟨ga, k * 11 + 9, none⟩ = some (.bool t.head.hasValue) := by have := h2 9 _ rfl; simpa using this
    have Ao : wr.cell? ⟨ga, k * 11 + 10, none⟩ = some (.int .i64 (t.head.value)) := by have := h2 10 _ rfl; simpa using this
    have Ab : Grows wr (wr.alloc (.cells #[.string ⟨(t.name).toArray⟩, .string ⟨(t.source).toArray⟩, .int .i64 (t.day), .int .i64 (t.till), .slice p0 (t.body).length q0, .int .i64 (t.arrow), .bool t.head.neg, .string ⟨(t.head.pred).toArray⟩, .slice p1 (t.head.args).length q1, .bool t.head.hasValue, .int .i64 (t.head.value)] 49)) := Grows.alloc _ _
    have Al := ec (Prems.keep Ad (eM Ab.keeps))
    have Am := ec (Strs.keep (T := ei) Ae (eM Ab.keeps) (by decide))
    have HWq := ec (HR.out.below Ab)
    have HKq := ec (HK.out.trans (Kw.of_below Ab (Nat.le_of_lt HR.out.lt)))
    have d2 := fv (HKq.out.keep _ _ _ _ H2b.out (by decide) (by decide))
    have d2' := fv (HK.out.keep _ _ _ _ H2b.out (by decide) (by decide))
    have CT := ec (zU (wr.alloc (.cells #[.string ⟨(t.name).toArray⟩, .string ⟨(t.source).toArray⟩, .int .i64 (t.day), .int .i64 (t.till), .slice p0 (t.body).length q0, .int .i64 (t.arrow), .bool t.head.neg, .string ⟨(t.head.pred).toArray⟩, .slice p1 (t.head.args).length q1, .bool t.head.hasValue, .int .i64 (t.head.value)] 49)) t _ ⟨_, _, rfl, Al.out, Am.out⟩ (HL.out t HT.out))
    clear h2 ht Ab hi Ad Ae
    go_wp2_with fail
    refine CT.out.mono ?_
    rintro _ w2 ⟨v, rfl, hv, hb⟩
    have CL := ec (jM w2 _ v hv)
    obtain ⟨kk, qq, rfl, _, _⟩ := hv
    have Ai := ec (HKq.out.trans (Kw.of_below hb (Nat.le_of_lt HWq.out.lt)))
    have Af := ec (HWq.out.below hb)
    clear hb CT HKq HWq
    go_wp2_with fail
    refine CL.out.mono ?_
    rintro _ w3 ⟨v, rfl, hv, hb⟩
    have C := ec (gW R (told ++ Aa) _ ((Af.out.below hb).below (Grows.alloc _ _)) [fu (it XP t)] _ (ip w3 _ v hv) (by simp))
    rw [iJ] at C
    obtain ⟨kk, qq, rfl, _, _⟩ := hv
    have Ag := ec (Ai.out.trans (Kw.of_below (Grows.trans hb (Grows.alloc w3 (.cells #[.func (.func kk) #[] qq] 86))) (Nat.le_of_lt Af.out.lt)))
    clear hb CL Ai Af
    go_wp2_with fail
    refine C.out.mono ?_
    intro e w4 he
    rcases he.split with ⟨bs, hm, rfl, Ah, Ac⟩ | ⟨hm, rfl, Ac⟩
    · have Ak := ec Ah
      have Aj := ec (Ag.out.trans Ac)
      have An : Hid (eu (l.map (it XP)) = Told.app (some (Aa ++ bs)) (ez (((l.map (it XP)).map fu).drop (k + 1)))) := ec (by
       rw [HO.out, HD.out, hm, ← gA]
       rfl)
      clear he Ah Ac hm C HR HK HO Ag d2 d2'
      go_wp2_with fail
      go_roundw
      case rel => exact ⟨k + 1, Aa ++ bs, by omega, by go_num, by rw [← List.append_assoc]; exact Ak, Aj, An⟩
      case measure => simp [intOf]; omega
    · exact ⟨rfl, EndsW.none (by rw [HO.out, HD.out, hm]; rfl) (Ag.out.trans Ac)⟩
  · go_wp2_with fail
    go_end0
    have e : ((l.map (it XP)).map fu).drop k = [] := List.drop_eq_nil_iff.2 (by simp; omega)
    refine EndsW.some (bs := Aa) ?_ HR.out HK.out
    rw [HO.out, e]
    show some (Aa ++ []) = _
    simp
theorem so (w : World) (l : List gI) (sv : Value) (hp : Rows Any 49 11 (cRule Any) w l sv) (hll : l.length ≤ 1000000000) (hl : ∀ t ∈ l, lr t) : Calls Tryz.prog 84 #[sv, .func (.func 85) #[] #[]] w (fp (eu (l.map (it XP))) w) := by
 have HP := ec hp
 have HL := ec hl
 obtain ⟨pa, pc, rfl⟩ := ed hp
 clear hp hl
 have Ac : Hid (Below w.heap.size w ((w.alloc (.cells #[.slice pa l.length pc] 27)).alloc (.cells #[.func (.func 85) #[] #[]] 162))) := ec (((Below.refl _ _).alloc (Nat.le_refl _) _).alloc (by simp) _)
 have Ab := ec (gL w (.cells #[.slice pa l.length pc] 27) (.cells #[.func (.func 85) #[] #[]] 162))
 go_enter Tryz.func84, Tryz.ntmps84
 go_wp2_with fail
 go_ret
 refine ⟨_, rfl, ⟨_, _, rfl, fA Tryz.func147 (by kernel_rfl) (by kernel_rfl), fun R told w2 hk hW => ?_⟩, Ac.out⟩
 have Ae := hk _ _ _ _ Ab.out.1 (by decide) (by decide)
 have Ad := hk _ _ _ _ Ab.out.2 (by decide) (by decide)
 have Aa := (Keeps.of_below Ac.out).trans hk
 exact ou R told w2 hW l _ _ _ Ae Ad (Rows.keep (T := [49]) HP.out (Kp.of_keeps Aa (by decide) (by decide)) (by decide) (fun _ _ h => h.keep (eM Aa))) hll HL.out
theorem nz (R : Nat) (told : ee) (w : World) (h : Wr R told w) (l : List (ee × ee)) (sv : Value) (b1 b2 : Nat) (h1 : w.heap[b1]? = some (.cells #[sv] 28 (0, 0))) (h2 : w.heap[b2]? = some (.cells #[.func (.func 87) #[] #[]] 164 (0, 0))) (hp : Rows Any 133 2 cM w l sv) (hll : l.length ≤ 1000000000) (hl : ∀ t ∈ l, (fC t.1 ∧ fC t.2)) :
    Calls Tryz.prog 152 #[.pointer (some ⟨R, 0, none⟩), .pointer (some ⟨b1, 0, none⟩), .pointer (some ⟨b2, 0, none⟩)] w (EndsW R told (eu (l.map gn)) w) := by
 have c1 := fv h1
 have HP := ec hp
 have HW := ec h
 have HL := ec hl
 have H2b := ec h2
 obtain ⟨pa, pc, rfl⟩ := ed hp
 clear h1 h2 hp h hl
 go_enter Tryz.func152, Tryz.ntmps152
 go_wp2_with fail
 go_loopw [8] (fun x wr => ∃ (k : Nat) (Aa : ee), k ≤ l.length ∧ x = .int .i64 k ∧ Hid (Wr R (told ++ Aa) wr) ∧ Hid (Kw R w wr) ∧ Hid (eu (l.map gn) = Told.app (some Aa) (ez (((l.map gn).map fu).drop k)))) (fun x _ => l.length - (intOf x).toNat)
 case atStart => exact ⟨0, [], by omega, rfl, ec (by simpa using HW.out), ec (Kw.refl R w), ec (by rw [iG]; rfl)⟩
 case round =>
  obtain ⟨k, Aa, hk, rfl, HR, HK, HO⟩ := hrel
  by_cases hlt : k < l.length
  · obtain ⟨t, ht⟩ : ∃ t, l[k]? = some t := ⟨l[k], by simp [hlt]⟩
    have HT := ec (List.mem_of_getElem? ht)
    have HD := ec (iC (jE (f := gn) ht))
    have hi := eM HK.out.keeps
    obtain ⟨ga, xa, ya, e1, _, h1, h2⟩ := Rows.at (Rows.keep (T := [133]) HP.out (Kp.of_keeps HK.out.keeps (by decide) (by decide)) (by decide) (fun _ _ h => h)) ht
    simp only [Value.slice.injEq] at e1
    obtain ⟨rfl, _, rfl⟩ := e1
    unfold cM at h1
    subst h1
    have a0 : wr.cell? ⟨ga, k * 2, none⟩ = some (.string ⟨(t.1).toArray⟩) := by have := h2 0 _ rfl; simpa using this
    have a1 : wr.cell? ⟨ga, k * 2 + 1, none⟩ = some (.string ⟨(t.2).toArray⟩) := by have := h2 1 _ rfl; simpa using this
    have Ac : Grows wr (wr.alloc (.cells #[.string ⟨(t.1).toArray⟩, .string ⟨(t.2).toArray⟩] 133)) := Grows.alloc _ _
    have HWq := ec (HR.out.below Ac)
    have HKq := ec (HK.out.trans (Kw.of_below Ac (Nat.le_of_lt HR.out.lt)))
    have d2 := fv (HKq.out.keep _ _ _ _ H2b.out (by decide) (by decide))
    have d2' := fv (HK.out.keep _ _ _ _ H2b.out (by decide) (by decide))
    have CT := ec (sE (wr.alloc (.cells #[.string ⟨(t.1).toArray⟩, .string ⟨(t.2).toArray⟩] 133)) t (HL.out t HT.out).1 (HL.out t HT.out).2)
    clear h2 ht Ac hi
    go_wp2_with fail
    refine CT.out.mono ?_
    rintro _ w2 ⟨v, rfl, hv, hb⟩
    have CL := ec (jM w2 _ v hv)
    obtain ⟨kk, qq, rfl, _, _⟩ := hv
    have Ag := ec (HKq.out.trans (Kw.of_below hb (Nat.le_of_lt HWq.out.lt)))
    have Ad := ec (HWq.out.below hb)
    clear hb CT HKq HWq
    go_wp2_with fail
    refine CL.out.mono ?_
    rintro _ w3 ⟨v, rfl, hv, hb⟩
    have C := ec (gW R (told ++ Aa) _ ((Ad.out.below hb).below (Grows.alloc _ _)) [fu (gn t)] _ (ip w3 _ v hv) (by simp))
    rw [iJ] at C
    obtain ⟨kk, qq, rfl, _, _⟩ := hv
    have Ae := ec (Ag.out.trans (Kw.of_below (Grows.trans hb (Grows.alloc w3 (.cells #[.func (.func kk) #[] qq] 86))) (Nat.le_of_lt Ad.out.lt)))
    clear hb CL Ag Ad
    go_wp2_with fail
    refine C.out.mono ?_
    intro e w4 he
    rcases he.split with ⟨bs, hm, rfl, Af, Ab⟩ | ⟨hm, rfl, Ab⟩
    · have Ai := ec Af
      have Ah := ec (Ae.out.trans Ab)
      have Aj : Hid (eu (l.map gn) = Told.app (some (Aa ++ bs)) (ez (((l.map gn).map fu).drop (k + 1)))) := ec (by
       rw [HO.out, HD.out, hm, ← gA]
       rfl)
      clear he Af Ab hm C HR HK HO Ae d2 d2'
      go_wp2_with fail
      go_roundw
      case rel => exact ⟨k + 1, Aa ++ bs, by omega, by go_num, by rw [← List.append_assoc]; exact Ai, Ah, Aj⟩
      case measure => simp [intOf]; omega
    · exact ⟨rfl, EndsW.none (by rw [HO.out, HD.out, hm]; rfl) (Ae.out.trans Ab)⟩
  · go_wp2_with fail
    go_end0
    have e : ((l.map gn).map fu).drop k = [] := List.drop_eq_nil_iff.2 (by simp; omega)
    refine EndsW.some (bs := Aa) ?_ HR.out HK.out
    rw [HO.out, e]
    show some (Aa ++ []) = _
    simp
theorem pM (w : World) (l : List (ee × ee)) (sv : Value) (hp : Rows Any 133 2 cM w l sv) (hll : l.length ≤ 1000000000) (hl : ∀ t ∈ l, (fC t.1 ∧ fC t.2)) : Calls Tryz.prog 86 #[sv, .func (.func 87) #[] #[]] w (fp (eu (l.map gn)) w) := by
 have HP := ec hp
 have HL := ec hl
 obtain ⟨pa, pc, rfl⟩ := ed hp
 clear hp hl
 have Ab : Hid (Below w.heap.size w ((w.alloc (.cells #[.slice pa l.length pc] 28)).alloc (.cells #[.func (.func 87) #[] #[]] 164))) := ec (((Below.refl _ _).alloc (Nat.le_refl _) _).alloc (by simp) _)
 have Aa := ec (gL w (.cells #[.slice pa l.length pc] 28) (.cells #[.func (.func 87) #[] #[]] 164))
 go_enter Tryz.func86, Tryz.ntmps86
 go_wp2_with fail
 go_ret
 refine ⟨_, rfl, ⟨_, _, rfl, fA Tryz.func152 (by kernel_rfl) (by kernel_rfl), fun R told w2 hk hW => ?_⟩, Ab.out⟩
 have Ae := hk _ _ _ _ Aa.out.1 (by decide) (by decide)
 have Ad := hk _ _ _ _ Aa.out.2 (by decide) (by decide)
 have Ac := (Keeps.of_below Ab.out).trans hk
 exact nz R told w2 hW l _ _ _ Ae Ad (Rows.keep (T := [133]) HP.out (Kp.of_keeps Ac (by decide) (by decide)) (by decide) (fun _ _ h => h)) hll HL.out
theorem nW (R : Nat) (told : ee) (w : World) (h : Wr R told w) (l : List gx) (sv : Value) (b1 b2 : Nat) (h1 : w.heap[b1]? = some (.cells #[sv] 29 (0, 0))) (h2 : w.heap[b2]? = some (.cells #[.func (.func 89) #[] #[]] 166 (0, 0))) (hp : Rows Any 135 5 (cTotal Any) w l sv) (hll : l.length ≤ 1000000000) (hl : ∀ t ∈ l, kn t) :
    Calls Tryz.prog 153 #[.pointer (some ⟨R, 0, none⟩), .pointer (some ⟨b1, 0, none⟩), .pointer (some ⟨b2, 0, none⟩)] w (EndsW R told (eu (l.map (gV XP))) w) := by
 have c1 := fv h1
 have HP := ec hp
 have HW := ec h
 have HL := ec hl
 have H2b := ec h2
 obtain ⟨pa, pc, rfl⟩ := ed hp
 clear h1 h2 hp h hl
 go_enter Tryz.func153, Tryz.ntmps153
 go_wp2_with fail
 go_loopw [8] (fun x wr => ∃ (k : Nat) (Aa : ee), k ≤ l.length ∧ x = .int .i64 k ∧ Hid (Wr R (told ++ Aa) wr) ∧ Hid (Kw R w wr) ∧ Hid (eu (l.map (gV XP)) = Told.app (some Aa) (ez (((l.map (gV XP)).map fu).drop k)))) (fun x _ => l.length - (intOf x).toNat)
 case atStart => exact ⟨0, [], by omega, rfl, ec (by simpa using HW.out), ec (Kw.refl R w), ec (by rw [iG]; rfl)⟩
 case round =>
  obtain ⟨k, Aa, hk, rfl, HR, HK, HO⟩ := hrel
  by_cases hlt : k < l.length
  · obtain ⟨t, ht⟩ : ∃ t, l[k]? = some t := ⟨l[k], by simp [hlt]⟩
    have HT := ec (List.mem_of_getElem? ht)
    have HD := ec (iC (jE (f := (gV XP)) ht))
    have hi := eM HK.out.keeps
    obtain ⟨ga, xa, ya, e1, _, h1, h2⟩ := Rows.at (Rows.keep (T := [135]) HP.out (Kp.of_keeps HK.out.keeps (by decide) (by decide)) (by decide) (fun _ _ h => h.keep hi)) ht
    simp only [Value.slice.injEq] at e1
    obtain ⟨rfl, _, rfl⟩ := e1
    obtain ⟨y0, rfl, Ad⟩ := h1
    obtain ⟨p0, q0, rfl⟩ := ed Ad
    have a0 : wr.cell? ⟨ga, k * 5, none⟩ = some (.string ⟨(t.name).toArray⟩) := by have := h2 0 _ rfl; simpa using this
    have a1 : wr.cell? ⟨ga, k * 5 + 1, none⟩ = some (.string ⟨(t.kind).toArray⟩) := by have := h2 1 _ rfl; simpa using this
    have a2 : wr.cell? ⟨ga, k * 5 + 2, none⟩ = some (.slice p0 (t.preds).length q0) := by have := h2 2 _ rfl; simpa using this
    have a3 : wr.cell? ⟨ga, k * 5 + 3, none⟩ = some (.bool t.hasCap) := by have := h2 3 _ rfl; simpa using this
    have a4 : wr.cell? ⟨ga, k * 5 + 4, none⟩ = some (.int .i64 (t.cap)) := by have := h2 4 _ rfl; simpa using this
    have Ab : Grows wr (wr.alloc (.cells #[.string ⟨(t.name).toArray⟩, .string ⟨(t.kind).toArray⟩, .slice p0 (t.preds).length q0, .bool t.hasCap, .int .i64 (t.cap)] 135)) := Grows.alloc _ _
    have Ak := ec (Strs.keep (T := ei) Ad (eM Ab.keeps) (by decide))
    have HWq := ec (HR.out.below Ab)
    have HKq := ec (HK.out.trans (Kw.of_below Ab (Nat.le_of_lt HR.out.lt)))
    have d2 := fv (HKq.out.keep _ _ _ _ H2b.out (by decide) (by decide))
    have d2' := fv (HK.out.keep _ _ _ _ H2b.out (by decide) (by decide))
    have CT := ec (zt (wr.alloc (.cells #[.string ⟨(t.name).toArray⟩, .string ⟨(t.kind).toArray⟩, .slice p0 (t.preds).length q0, .bool t.hasCap, .int .i64 (t.cap)] 135)) t _ ⟨_, rfl, Ak.out⟩ (HL.out t HT.out))
    clear h2 ht Ab hi Ad
    go_wp2_with fail
    refine CT.out.mono ?_
    rintro _ w2 ⟨v, rfl, hv, hb⟩
    have CL := ec (jM w2 _ v hv)
    obtain ⟨kk, qq, rfl, _, _⟩ := hv
    have Ah := ec (HKq.out.trans (Kw.of_below hb (Nat.le_of_lt HWq.out.lt)))
    have Ae := ec (HWq.out.below hb)
    clear hb CT HKq HWq
    go_wp2_with fail
    refine CL.out.mono ?_
    rintro _ w3 ⟨v, rfl, hv, hb⟩
    have C := ec (gW R (told ++ Aa) _ ((Ae.out.below hb).below (Grows.alloc _ _)) [fu (gV XP t)] _ (ip w3 _ v hv) (by simp))
    rw [iJ] at C
    obtain ⟨kk, qq, rfl, _, _⟩ := hv
    have Af := ec (Ah.out.trans (Kw.of_below (Grows.trans hb (Grows.alloc w3 (.cells #[.func (.func kk) #[] qq] 86))) (Nat.le_of_lt Ae.out.lt)))
    clear hb CL Ah Ae
    go_wp2_with fail
    refine C.out.mono ?_
    intro e w4 he
    rcases he.split with ⟨bs, hm, rfl, Ag, Ac⟩ | ⟨hm, rfl, Ac⟩
    · have Aj := ec Ag
      have Ai := ec (Af.out.trans Ac)
      have Al : Hid (eu (l.map (gV XP)) = Told.app (some (Aa ++ bs)) (ez (((l.map (gV XP)).map fu).drop (k + 1)))) := ec (by
       rw [HO.out, HD.out, hm, ← gA]
       rfl)
      clear he Ag Ac hm C HR HK HO Af d2 d2'
      go_wp2_with fail
      go_roundw
      case rel => exact ⟨k + 1, Aa ++ bs, by omega, by go_num, by rw [← List.append_assoc]; exact Aj, Ai, Al⟩
      case measure => simp [intOf]; omega
    · exact ⟨rfl, EndsW.none (by rw [HO.out, HD.out, hm]; rfl) (Af.out.trans Ac)⟩
  · go_wp2_with fail
    go_end0
    have e : ((l.map (gV XP)).map fu).drop k = [] := List.drop_eq_nil_iff.2 (by simp; omega)
    refine EndsW.some (bs := Aa) ?_ HR.out HK.out
    rw [HO.out, e]
    show some (Aa ++ []) = _
    simp
theorem pY (w : World) (l : List gx) (sv : Value) (hp : Rows Any 135 5 (cTotal Any) w l sv) (hll : l.length ≤ 1000000000) (hl : ∀ t ∈ l, kn t) : Calls Tryz.prog 88 #[sv, .func (.func 89) #[] #[]] w (fp (eu (l.map (gV XP))) w) := by
 have HP := ec hp
 have HL := ec hl
 obtain ⟨pa, pc, rfl⟩ := ed hp
 clear hp hl
 have Ac : Hid (Below w.heap.size w ((w.alloc (.cells #[.slice pa l.length pc] 29)).alloc (.cells #[.func (.func 89) #[] #[]] 166))) := ec (((Below.refl _ _).alloc (Nat.le_refl _) _).alloc (by simp) _)
 have Ab := ec (gL w (.cells #[.slice pa l.length pc] 29) (.cells #[.func (.func 89) #[] #[]] 166))
 go_enter Tryz.func88, Tryz.ntmps88
 go_wp2_with fail
 go_ret
 refine ⟨_, rfl, ⟨_, _, rfl, fA Tryz.func153 (by kernel_rfl) (by kernel_rfl), fun R told w2 hk hW => ?_⟩, Ac.out⟩
 have Ae := hk _ _ _ _ Ab.out.1 (by decide) (by decide)
 have Ad := hk _ _ _ _ Ab.out.2 (by decide) (by decide)
 have Aa := (Keeps.of_below Ac.out).trans hk
 exact nW R told w2 hW l _ _ _ Ae Ad (Rows.keep (T := [135]) HP.out (Kp.of_keeps Aa (by decide) (by decide)) (by decide) (fun _ _ h => h.keep (eM Aa))) hll HL.out
end Go.Proofs.YtbpphlmakmeoaaaGreatDoor.Sy
namespace Go.Proofs.YtbpphlmakmeoaaaGreatDoor.Sy
open Go.RowKit
structure nP (S : StatM) : Prop where
 title : fC S.title
 kinds : S.kinds.length ≤ 1000000000 ∧ ∀ t ∈ S.kinds, fC t
 members : S.members.length ≤ 1000000000 ∧ ∀ t ∈ S.members, fC t.1 ∧ fC t.2
 preds : S.preds.length ≤ 1000000000 ∧ ∀ t ∈ S.preds, kB t
 classes : S.classes.length ≤ 1000000000 ∧ ∀ t ∈ S.classes, jX t
 sources : S.sources.length ≤ 1000000000 ∧ ∀ t ∈ S.sources, fC t.1 ∧ ic t.2
 rules : S.rules.length ≤ 1000000000 ∧ ∀ t ∈ S.rules, lr t
 excepts : S.excepts.length ≤ 1000000000 ∧ ∀ t ∈ S.excepts, fC t.1 ∧ fC t.2
 totals : S.totals.length ≤ 1000000000 ∧ ∀ t ∈ S.totals, kn t
structure SA (w : World) (st : St9) (S : StatM) : Prop where
 title : st.title = .string ⟨S.title.toArray⟩
 kinds : Rows Any 9 1 cS w S.kinds st.kinds
 members : Rows Any 124 2 cM w S.members st.members
 preds : Rows Any 128 4 (cPred Any) w S.preds st.preds
 classes : Rows Any 22 1 (cClass Any) w S.classes st.classes
 sources : Rows Any 131 2 i8 w S.sources st.sources
 rules : Rows Any 49 11 (cRule Any) w S.rules st.rules
 excepts : Rows Any 133 2 cM w S.excepts st.excepts
 totals : Rows Any 135 5 (cTotal Any) w S.totals st.totals
theorem SA.keep {w w' : World} {st : St9} {S : StatM} (h : SA w st S) (hk : Keeps w w') : SA w' st S := by
 have hi := eM hk
 have ha : Kp allT Any w w' := Kp.of_keeps hk (by decide) (by decide)
 exact ⟨h.title, h.kinds.keep ha (by decide) fun _ _ h => h, h.members.keep ha (by decide) fun _ _ h => h, h.preds.keep ha (by decide) fun _ _ h => h.keep hi, h.classes.keep ha (by decide) fun _ _ h => h.keep hi, h.sources.keep ha (by decide) fun _ _ h => h, h.rules.keep ha (by decide) fun _ _ h => h.keep hi, h.excepts.keep ha (by decide) fun _ _ h => h, h.totals.keep ha (by decide) fun _ _ h => h.keep hi⟩
theorem SRep.sa {R : Nat} {w : World} {st : St9} {S : StatM} (h : SRep R w st S) : SA w st S :=
 ⟨h.title, Rows.mono h.kinds (fun _ _ => trivial) (fun _ _ h => h), Rows.mono h.members (fun _ _ => trivial) (fun _ _ h => h), Rows.mono h.preds (fun _ _ => trivial) (fun _ _ h => h.mono fun _ _ => trivial), Rows.mono h.classes (fun _ _ => trivial) (fun _ _ h => h.mono fun _ _ => trivial), Rows.mono h.sources (fun _ _ => trivial) (fun _ _ h => h), Rows.mono h.rules (fun _ _ => trivial) (fun _ _ h => h.mono fun _ _ => trivial), Rows.mono h.excepts (fun _ _ => trivial) (fun _ _ h => h), Rows.mono h.totals (fun _ _ => trivial) (fun _ _ h => h.mono fun _ _ => trivial)⟩
theorem uU (w : World) (S : StatM) (st : St9) (hS : SA w st S) (hfit : nP S) : Calls Tryz.prog 39 #[St9.agg st] w (fp (je XP S) w) := by
 have HFit := ec hfit
 obtain ⟨f0, f1, f2, f3, f4, f5, f6, f7, f8⟩ := st
 have e0 := hS.title
 simp only at e0
 subst e0
 obtain ⟨a0, Ai, e⟩ := ed hS.kinds
 simp only at e
 subst e
 obtain ⟨a1, Ab, e⟩ := ed hS.members
 simp only at e
 subst e
 obtain ⟨a2, Ag, e⟩ := ed hS.preds
 simp only at e
 subst e
 obtain ⟨a3, Ad, e⟩ := ed hS.classes
 simp only at e
 subst e
 obtain ⟨a4, Ah, e⟩ := ed hS.sources
 simp only at e
 subst e
 obtain ⟨a5, Ae, e⟩ := ed hS.rules
 simp only at e
 subst e
 obtain ⟨a6, Af, e⟩ := ed hS.excepts
 simp only at e
 subst e
 obtain ⟨a7, Ac, e⟩ := ed hS.totals
 simp only at e
 subst e
 have HS := ec hS
 unfold St9.agg
 obtain ⟨wB, Aj⟩ : ∃ x, x = w.alloc (.cells #[.string ⟨S.title.toArray⟩, .slice a0 S.kinds.length Ai, .slice a1 S.members.length Ab, .slice a2 S.preds.length Ag, .slice a3 S.classes.length Ad, .slice a4 S.sources.length Ah, .slice a5 S.rules.length Ae, .slice a6 S.excepts.length Af, .slice a7 S.totals.length Ac] 31) := ⟨_, rfl⟩
 have Aa : Hid (Grows w wB) := ec (Aj ▸ Grows.alloc _ _)
 have hN : wB.heap[w.heap.size]? = some (.cells #[.string ⟨S.title.toArray⟩, .slice a0 S.kinds.length Ai, .slice a1 S.members.length Ab, .slice a2 S.preds.length Ag, .slice a3 S.classes.length Ad, .slice a4 S.sources.length Ah, .slice a5 S.rules.length Ae, .slice a6 S.excepts.length Af, .slice a7 S.totals.length Ac] 31 (0, 0)) := Aj ▸ heap_alloc_new w _
 have c0 : wB.cell? ⟨w.heap.size, 0, none⟩ = some (.string ⟨S.title.toArray⟩) := cell_of_row wB w.heap.size 0 _ 31 _ hN
 have c1 : wB.cell? ⟨w.heap.size, 1, none⟩ = some (.slice a0 S.kinds.length Ai) := cell_of_row wB w.heap.size 1 _ 31 _ hN
 have c2 : wB.cell? ⟨w.heap.size, 2, none⟩ = some (.slice a1 S.members.length Ab) := cell_of_row wB w.heap.size 2 _ 31 _ hN
 have c3 : wB.cell? ⟨w.heap.size, 3, none⟩ = some (.slice a2 S.preds.length Ag) := cell_of_row wB w.heap.size 3 _ 31 _ hN
 have c4 : wB.cell? ⟨w.heap.size, 4, none⟩ = some (.slice a3 S.classes.length Ad) := cell_of_row wB w.heap.size 4 _ 31 _ hN
 have c5 : wB.cell? ⟨w.heap.size, 5, none⟩ = some (.slice a4 S.sources.length Ah) := cell_of_row wB w.heap.size 5 _ 31 _ hN
 have c6 : wB.cell? ⟨w.heap.size, 6, none⟩ = some (.slice a5 S.rules.length Ae) := cell_of_row wB w.heap.size 6 _ 31 _ hN
 have c7 : wB.cell? ⟨w.heap.size, 7, none⟩ = some (.slice a6 S.excepts.length Af) := cell_of_row wB w.heap.size 7 _ 31 _ hN
 have c8 : wB.cell? ⟨w.heap.size, 8, none⟩ = some (.slice a7 S.totals.length Ac) := cell_of_row wB w.heap.size 8 _ 31 _ hN
 clear hN
 have AF := ec (fun W (h : Grows wB W) => (HS.out.keep (Aa.out.keeps.trans h.keeps)).kinds)
 have AD := ec (fun W (h : Grows wB W) => (HS.out.keep (Aa.out.keeps.trans h.keeps)).members)
 have AA := ec (fun W (h : Grows wB W) => (HS.out.keep (Aa.out.keeps.trans h.keeps)).preds)
 have Aw := ec (fun W (h : Grows wB W) => (HS.out.keep (Aa.out.keeps.trans h.keeps)).classes)
 have Av := ec (fun W (h : Grows wB W) => (HS.out.keep (Aa.out.keeps.trans h.keeps)).sources)
 have Ax := ec (fun W (h : Grows wB W) => (HS.out.keep (Aa.out.keeps.trans h.keeps)).rules)
 have Ay := ec (fun W (h : Grows wB W) => (HS.out.keep (Aa.out.keeps.trans h.keeps)).excepts)
 have Az := ec (fun W (h : Grows wB W) => (HS.out.keep (Aa.out.keeps.trans h.keeps)).totals)
 clear hS hfit
 go_enter Tryz.func39, Tryz.ntmps39
 go_wp2_with fail
 rename_i K hK
 rw [← Aj]
 refine gE (B := [1]) rN Grows (nj wB) (Gk [.any, .val (.pointer (some ⟨w.heap.size, 0, none⟩)), .part (ez [ey (!decide (S.title = [])) (fu (eX [[115, 116, 97, 116, 117, 116, 101, 32, 34], S.title, [34]])), eu ((S.kinds).map ii), eu ((S.members).map gm), eu ((S.preds).map (iv XP)), eu ((S.classes).map gM), eu ((S.sources).map (gy XP)), eu ((S.rules).map (it XP)), eu ((S.excepts).map gn), eu ((S.totals).map (gV XP))]), .val (.pointer (some ⟨w.heap.size, 0, none⟩)), .val (.string ⟨S.title.toArray⟩), .val (.bool (!decide (S.title = []))), .val (.pointer (some ⟨w.heap.size, 0, none⟩)), .val (.string ⟨S.title.toArray⟩), .strs ([[115, 116, 97, 116, 117, 116, 101, 32, 34], S.title, [34]]), .part (eX [[115, 116, 97, 116, 117, 116, 101, 32, 34], S.title, [34]]), .part (fu (eX [[115, 116, 97, 116, 117, 116, 101, 32, 34], S.title, [34]])), .part (ey (!decide (S.title = [])) (fu (eX [[115, 116, 97, 116, 117, 116, 101, 32, 34], S.title, [34]]))), .val (.pointer (some ⟨w.heap.size, 1, none⟩)), .val (.slice a0 S.kinds.length Ai), .part (eu ((S.kinds).map ii)), .val (.pointer (some ⟨w.heap.size, 2, none⟩)), .val (.slice a1 S.members.length Ab), .part (eu ((S.members).map gm)), .val (.pointer (some ⟨w.heap.size, 3, none⟩)), .val (.slice a2 S.preds.length Ag), .part (eu ((S.preds).map (iv XP))), .val (.pointer (some ⟨w.heap.size, 4, none⟩)), .val (.slice a3 S.classes.length Ad), .part (eu ((S.classes).map gM)), .val (.pointer (some ⟨w.heap.size, 5, none⟩)), .val (.slice a4 S.sources.length Ah), .part (eu ((S.sources).map (gy XP))), .val (.pointer (some ⟨w.heap.size, 6, none⟩)), .val (.slice a5 S.rules.length Ae), .part (eu ((S.rules).map (it XP))), .val (.pointer (some ⟨w.heap.size, 7, none⟩)), .val (.slice a6 S.excepts.length Af), .part (eu ((S.excepts).map gn)), .val (.pointer (some ⟨w.heap.size, 8, none⟩)), .val (.slice a7 S.totals.length Ac), .part (eu ((S.totals).map (gV XP))), .parts [ey (!decide (S.title = [])) (fu (eX [[115, 116, 97, 116, 117, 116, 101, 32, 34], S.title, [34]])), eu ((S.kinds).map ii), eu ((S.members).map gm), eu ((S.preds).map (iv XP)), eu ((S.classes).map gM), eu ((S.sources).map (gy XP)), eu ((S.rules).map (it XP)), eu ((S.excepts).map gn), eu ((S.totals).map (gV XP))], .part (ez [ey (!decide (S.title = [])) (fu (eX [[115, 116, 97, 116, 117, 116, 101, 32, 34], S.title, [34]])), eu ((S.kinds).map ii), eu ((S.members).map gm), eu ((S.preds).map (iv XP)), eu ((S.classes).map gM), eu ((S.sources).map (gy XP)), eu ((S.rules).map (it XP)), eu ((S.excepts).map gn), eu ((S.totals).map (gV XP))])]) 1000 (by kernel_rfl) (by kernel_rfl) (eZ (by kernel_rfl)) (jh (by kernel_rfl)) (fun s w w' v h => Gk.keep s w w' v h) (Grows.drew _) ?hb (ia ⟨?_, ?_, ?_, ?_, ?_, ?_, ?_, ?_, ?_, ?_, ?_, ?_, ?_, ?_, ?_, ?_, ?_, ?_, ?_, ?_, ?_, ?_, ?_, ?_, ?_, ?_, ?_, ?_, ?_, ?_, ?_, ?_, ?_, ?_, ?_, ?_, trivial⟩) (fun _ _ _ _ h => h.elim) ?hend
 case hb =>
  intro s hs
  simp only [List.mem_cons, List.not_mem_nil, or_false] at hs
  rcases hs with rfl <;> rfl
 case hend =>
  rintro ⟨tm, df⟩ w' _ Ar hI _ Au
  simp only at Ar
  subst Ar
  have hv := Au 35 2 rfl
  refine hK _ _ (j0 (t := 2) Tryz.results39 rfl ⟨_, rfl, ?_, Grows.trans Aa.out hI⟩)
  exact hv
 · intro ρ W b hc hf _ hI hg
   have g1 : ρ (.tmp 1) = .pointer (some ⟨w.heap.size, 0, none⟩) := hg 1 (by decide)
   refine ef (v := .pointer (some ⟨w.heap.size, 0, none⟩)) (w' := W) ?_ ⟨Grows.refl _, hI, fun d hd => by cases hd; exact rfl⟩
   clear hg hc hf
   go_simp
 · intro ρ W b hc hf _ hI hg
   have g3 : ρ (.tmp 3) = .pointer (some ⟨w.heap.size, 0, none⟩) := hg 3 (by decide)
   have d0 := Grows.cell hI c0
   refine ef (v := .string ⟨S.title.toArray⟩) (w' := W) ?_ ⟨Grows.refl _, hI, fun d hd => by cases hd; exact rfl⟩
   clear hg hc hf
   go_simp
 · intro ρ W b hc hf _ hI hg
   have g4 : ρ (.tmp 4) = .string ⟨S.title.toArray⟩ := hg 4 (by decide)
   have k0 := hc (.string ⟨#[]⟩)
   refine ef (v := .bool (!decide (S.title = []))) (w' := W) ?_ ⟨Grows.refl _, hI, fun d hd => by cases hd; exact rfl⟩
   clear hg hc hf
   go_simp
   all_goals (generalize S.title = y; cases y <;> simp)
 · intro ρ W b hc hf _ hI hg
   have g1 : ρ (.tmp 1) = .pointer (some ⟨w.heap.size, 0, none⟩) := hg 1 (by decide)
   refine ef (v := .pointer (some ⟨w.heap.size, 0, none⟩)) (w' := W) ?_ ⟨Grows.refl _, hI, fun d hd => by cases hd; exact rfl⟩
   clear hg hc hf
   go_simp
 · intro ρ W b hc hf _ hI hg
   have g6 : ρ (.tmp 6) = .pointer (some ⟨w.heap.size, 0, none⟩) := hg 6 (by decide)
   have d0 := Grows.cell hI c0
   refine ef (v := .string ⟨S.title.toArray⟩) (w' := W) ?_ ⟨Grows.refl _, hI, fun d hd => by cases hd; exact rfl⟩
   clear hg hc hf
   go_simp
 · intro ρ W b hc hf _ hI hg
   have k0 := hc (.string ⟨#[115, 116, 97, 116, 117, 116, 101, 32, 34]⟩)
   have g7 : ρ (.tmp 7) = .string ⟨S.title.toArray⟩ := hg 7 (by decide)
   have k2 := hc (.string ⟨#[34]⟩)
   refine ef (v := .slice (some ⟨W.heap.size, 0, none⟩) 3 3) (w' := W.alloc (.cells #[.string ⟨#[115, 116, 97, 116, 117, 116, 101, 32, 34]⟩, .string ⟨(S.title).toArray⟩, .string ⟨#[34]⟩] 9)) ?_ ⟨Grows.alloc _ _, Grows.trans hI (Grows.alloc _ _), fun d hd => by cases hd; exact fh W [[115, 116, 97, 116, 117, 116, 101, 32, 34], S.title, [34]] (by unfold maxLen; simp)⟩
   clear hg hc hf
   go_simp
 · intro ρ W b hc hf _ hI hg
   have g8 : Strs Any W ([[115, 116, 97, 116, 117, 116, 101, 32, 34], S.title, [34]]) (ρ (.tmp 8)) := hg 8 (by decide)
   have k0 := hf 73
   refine es (f := 73) (args := #[ρ (.tmp 8)]) (w' := W) ?_ (iV W [[115, 116, 97, 116, 117, 116, 101, 32, 34], S.title, [34]] _ g8 (by simp) (by intro x hx; simp only [List.mem_cons, List.not_mem_nil, or_false] at hx; rcases hx with rfl | rfl | rfl <;> first | decide | exact HFit.out.title)) ?_
   · clear hg hc hf
     go_simp
   · rintro e W' ⟨v, rfl, hv, hb⟩
     exact ⟨v, rfl, hb, Grows.trans hI hb, fun d hd => by cases hd; exact hv⟩
 · intro ρ W b hc hf _ hI hg
   have g9 : Tells (eX [[115, 116, 97, 116, 117, 116, 101, 32, 34], S.title, [34]]) W (ρ (.tmp 9)) := hg 9 (by decide)
   have k0 := hf 72
   refine es (f := 72) (args := #[ρ (.tmp 9)]) (w' := W) ?_ (jM W (eX [[115, 116, 97, 116, 117, 116, 101, 32, 34], S.title, [34]]) _ g9) ?_
   · clear hg hc hf
     go_simp
   · rintro e W' ⟨v, rfl, hv, hb⟩
     exact ⟨v, rfl, hb, Grows.trans hI hb, fun d hd => by cases hd; exact hv⟩
 · intro ρ W b hc hf _ hI hg
   have g5 : ρ (.tmp 5) = .bool (!decide (S.title = [])) := hg 5 (by decide)
   have AB : Tells (fu (eX [[115, 116, 97, 116, 117, 116, 101, 32, 34], S.title, [34]])) W (ρ (.tmp 10)) := hg 10 (by decide)
   have k0 := hf 71
   refine es (f := 71) (args := #[.bool (!decide (S.title = [])), ρ (.tmp 10)]) (w' := W) ?_ (iw W (!decide (S.title = [])) (fu (eX [[115, 116, 97, 116, 117, 116, 101, 32, 34], S.title, [34]])) _ AB) ?_
   · clear hg hc hf
     go_simp
   · rintro e W' ⟨v, rfl, hv, hb⟩
     exact ⟨v, rfl, hb, Grows.trans hI hb, fun d hd => by cases hd; exact hv⟩
 · intro ρ W b hc hf _ hI hg
   have g1 : ρ (.tmp 1) = .pointer (some ⟨w.heap.size, 0, none⟩) := hg 1 (by decide)
   refine ef (v := .pointer (some ⟨w.heap.size, 1, none⟩)) (w' := W) ?_ ⟨Grows.refl _, hI, fun d hd => by cases hd; exact rfl⟩
   clear hg hc hf
   go_simp
 · intro ρ W b hc hf _ hI hg
   have AK : ρ (.tmp 12) = .pointer (some ⟨w.heap.size, 1, none⟩) := hg 12 (by decide)
   have d0 := Grows.cell hI c1
   refine ef (v := .slice a0 S.kinds.length Ai) (w' := W) ?_ ⟨Grows.refl _, hI, fun d hd => by cases hd; exact rfl⟩
   clear hg hc hf
   go_simp
 · intro ρ W b hc hf _ hI hg
   have AS : ρ (.tmp 13) = .slice a0 S.kinds.length Ai := hg 13 (by decide)
   have k1 := hf 75
   have k0 := hf 74
   refine es (f := 74) (args := #[.slice a0 S.kinds.length Ai, .func (.func 75) #[] #[]]) (w' := W) ?_ (sw W (S.kinds) _ (AF.out W hI) HFit.out.kinds.1 HFit.out.kinds.2) ?_
   · clear hg hc hf
     go_simp
   · rintro e W' ⟨v, rfl, hv, hb⟩
     exact ⟨v, rfl, hb, Grows.trans hI hb, fun d hd => by cases hd; exact hv⟩
 · intro ρ W b hc hf _ hI hg
   have g1 : ρ (.tmp 1) = .pointer (some ⟨w.heap.size, 0, none⟩) := hg 1 (by decide)
   refine ef (v := .pointer (some ⟨w.heap.size, 2, none⟩)) (w' := W) ?_ ⟨Grows.refl _, hI, fun d hd => by cases hd; exact rfl⟩
   clear hg hc hf
   go_simp
 · intro ρ W b hc hf _ hI hg
   have Bk : ρ (.tmp 15) = .pointer (some ⟨w.heap.size, 2, none⟩) := hg 15 (by decide)
   have d0 := Grows.cell hI c2
   refine ef (v := .slice a1 S.members.length Ab) (w' := W) ?_ ⟨Grows.refl _, hI, fun d hd => by cases hd; exact rfl⟩
   clear hg hc hf
   go_simp
 · intro ρ W b hc hf _ hI hg
   have Bv : ρ (.tmp 16) = .slice a1 S.members.length Ab := hg 16 (by decide)
   have k1 := hf 77
   have k0 := hf 76
   refine es (f := 76) (args := #[.slice a1 S.members.length Ab, .func (.func 77) #[] #[]]) (w' := W) ?_ (pm W (S.members) _ (AD.out W hI) HFit.out.members.1 HFit.out.members.2) ?_
   · clear hg hc hf
     go_simp
   · rintro e W' ⟨v, rfl, hv, hb⟩
     exact ⟨v, rfl, hb, Grows.trans hI hb, fun d hd => by cases hd; exact hv⟩
 · intro ρ W b hc hf _ hI hg
   have g1 : ρ (.tmp 1) = .pointer (some ⟨w.heap.size, 0, none⟩) := hg 1 (by decide)
   refine ef (v := .pointer (some ⟨w.heap.size, 3, none⟩)) (w' := W) ?_ ⟨Grows.refl _, hI, fun d hd => by cases hd; exact rfl⟩
   clear hg hc hf
   go_simp
 · intro ρ W b hc hf _ hI hg
   have AM : ρ (.tmp 18) = .pointer (some ⟨w.heap.size, 3, none⟩) := hg 18 (by decide)
   have d0 := Grows.cell hI c3
   refine ef (v := .slice a2 S.preds.length Ag) (w' := W) ?_ ⟨Grows.refl _, hI, fun d hd => by cases hd; exact rfl⟩
   clear hg hc hf
   go_simp
 · intro ρ W b hc hf _ hI hg
   have Bl : ρ (.tmp 19) = .slice a2 S.preds.length Ag := hg 19 (by decide)
   have k1 := hf 79
   have k0 := hf 78
   refine es (f := 78) (args := #[.slice a2 S.preds.length Ag, .func (.func 79) #[] #[]]) (w' := W) ?_ (sk W (S.preds) _ (AA.out W hI) HFit.out.preds.1 HFit.out.preds.2) ?_
   · clear hg hc hf
     go_simp
   · rintro e W' ⟨v, rfl, hv, hb⟩
     exact ⟨v, rfl, hb, Grows.trans hI hb, fun d hd => by cases hd; exact hv⟩
 · intro ρ W b hc hf _ hI hg
   have g1 : ρ (.tmp 1) = .pointer (some ⟨w.heap.size, 0, none⟩) := hg 1 (by decide)
   refine ef (v := .pointer (some ⟨w.heap.size, 4, none⟩)) (w' := W) ?_ ⟨Grows.refl _, hI, fun d hd => by cases hd; exact rfl⟩
   clear hg hc hf
   go_simp
 · intro ρ W b hc hf _ hI hg
   have AI : ρ (.tmp 21) = .pointer (some ⟨w.heap.size, 4, none⟩) := hg 21 (by decide)
   have d0 := Grows.cell hI c4
   refine ef (v := .slice a3 S.classes.length Ad) (w' := W) ?_ ⟨Grows.refl _, hI, fun d hd => by cases hd; exact rfl⟩
   clear hg hc hf
   go_simp
 · intro ρ W b hc hf _ hI hg
   have AP : ρ (.tmp 22) = .slice a3 S.classes.length Ad := hg 22 (by decide)
   have k1 := hf 81
   have k0 := hf 80
   refine es (f := 80) (args := #[.slice a3 S.classes.length Ad, .func (.func 81) #[] #[]]) (w' := W) ?_ (pF W (S.classes) _ (Aw.out W hI) HFit.out.classes.1 HFit.out.classes.2) ?_
   · clear hg hc hf
     go_simp
   · rintro e W' ⟨v, rfl, hv, hb⟩
     exact ⟨v, rfl, hb, Grows.trans hI hb, fun d hd => by cases hd; exact hv⟩
 · intro ρ W b hc hf _ hI hg
   have g1 : ρ (.tmp 1) = .pointer (some ⟨w.heap.size, 0, none⟩) := hg 1 (by decide)
   refine ef (v := .pointer (some ⟨w.heap.size, 5, none⟩)) (w' := W) ?_ ⟨Grows.refl _, hI, fun d hd => by cases hd; exact rfl⟩
   clear hg hc hf
   go_simp
 · intro ρ W b hc hf _ hI hg
   have Bm : ρ (.tmp 24) = .pointer (some ⟨w.heap.size, 5, none⟩) := hg 24 (by decide)
   have d0 := Grows.cell hI c5
   refine ef (v := .slice a4 S.sources.length Ah) (w' := W) ?_ ⟨Grows.refl _, hI, fun d hd => by cases hd; exact rfl⟩
   clear hg hc hf
   go_simp
 · intro ρ W b hc hf _ hI hg
   have AR : ρ (.tmp 25) = .slice a4 S.sources.length Ah := hg 25 (by decide)
   have k1 := hf 83
   have k0 := hf 82
   refine es (f := 82) (args := #[.slice a4 S.sources.length Ah, .func (.func 83) #[] #[]]) (w' := W) ?_ (o3 W (S.sources) _ (Av.out W hI) HFit.out.sources.1 HFit.out.sources.2) ?_
   · clear hg hc hf
     go_simp
   · rintro e W' ⟨v, rfl, hv, hb⟩
     exact ⟨v, rfl, hb, Grows.trans hI hb, fun d hd => by cases hd; exact hv⟩
 · intro ρ W b hc hf _ hI hg
   have g1 : ρ (.tmp 1) = .pointer (some ⟨w.heap.size, 0, none⟩) := hg 1 (by decide)
   refine ef (v := .pointer (some ⟨w.heap.size, 6, none⟩)) (w' := W) ?_ ⟨Grows.refl _, hI, fun d hd => by cases hd; exact rfl⟩
   clear hg hc hf
   go_simp
 · intro ρ W b hc hf _ hI hg
   have AQ : ρ (.tmp 27) = .pointer (some ⟨w.heap.size, 6, none⟩) := hg 27 (by decide)
   have d0 := Grows.cell hI c6
   refine ef (v := .slice a5 S.rules.length Ae) (w' := W) ?_ ⟨Grows.refl _, hI, fun d hd => by cases hd; exact rfl⟩
   clear hg hc hf
   go_simp
 · intro ρ W b hc hf _ hI hg
   have AX : ρ (.tmp 28) = .slice a5 S.rules.length Ae := hg 28 (by decide)
   have k1 := hf 85
   have k0 := hf 84
   refine es (f := 84) (args := #[.slice a5 S.rules.length Ae, .func (.func 85) #[] #[]]) (w' := W) ?_ (so W (S.rules) _ (Ax.out W hI) HFit.out.rules.1 HFit.out.rules.2) ?_
   · clear hg hc hf
     go_simp
   · rintro e W' ⟨v, rfl, hv, hb⟩
     exact ⟨v, rfl, hb, Grows.trans hI hb, fun d hd => by cases hd; exact hv⟩
 · intro ρ W b hc hf _ hI hg
   have g1 : ρ (.tmp 1) = .pointer (some ⟨w.heap.size, 0, none⟩) := hg 1 (by decide)
   refine ef (v := .pointer (some ⟨w.heap.size, 7, none⟩)) (w' := W) ?_ ⟨Grows.refl _, hI, fun d hd => by cases hd; exact rfl⟩
   clear hg hc hf
   go_simp
 · intro ρ W b hc hf _ hI hg
   have Be : ρ (.tmp 30) = .pointer (some ⟨w.heap.size, 7, none⟩) := hg 30 (by decide)
   have d0 := Grows.cell hI c7
   refine ef (v := .slice a6 S.excepts.length Af) (w' := W) ?_ ⟨Grows.refl _, hI, fun d hd => by cases hd; exact rfl⟩
   clear hg hc hf
   go_simp
 · intro ρ W b hc hf _ hI hg
   have Bj : ρ (.tmp 31) = .slice a6 S.excepts.length Af := hg 31 (by decide)
   have k1 := hf 87
   have k0 := hf 86
   refine es (f := 86) (args := #[.slice a6 S.excepts.length Af, .func (.func 87) #[] #[]]) (w' := W) ?_ (pM W (S.excepts) _ (Ay.out W hI) HFit.out.excepts.1 HFit.out.excepts.2) ?_
   · clear hg hc hf
     go_simp
   · rintro e W' ⟨v, rfl, hv, hb⟩
     exact ⟨v, rfl, hb, Grows.trans hI hb, fun d hd => by cases hd; exact hv⟩
 · intro ρ W b hc hf _ hI hg
   have g1 : ρ (.tmp 1) = .pointer (some ⟨w.heap.size, 0, none⟩) := hg 1 (by decide)
   refine ef (v := .pointer (some ⟨w.heap.size, 8, none⟩)) (w' := W) ?_ ⟨Grows.refl _, hI, fun d hd => by cases hd; exact rfl⟩
   clear hg hc hf
   go_simp
 · intro ρ W b hc hf _ hI hg
   have Ba : ρ (.tmp 33) = .pointer (some ⟨w.heap.size, 8, none⟩) := hg 33 (by decide)
   have d0 := Grows.cell hI c8
   refine ef (v := .slice a7 S.totals.length Ac) (w' := W) ?_ ⟨Grows.refl _, hI, fun d hd => by cases hd; exact rfl⟩
   clear hg hc hf
   go_simp
 · intro ρ W b hc hf _ hI hg
   have AG : ρ (.tmp 34) = .slice a7 S.totals.length Ac := hg 34 (by decide)
   have k1 := hf 89
   have k0 := hf 88
   refine es (f := 88) (args := #[.slice a7 S.totals.length Ac, .func (.func 89) #[] #[]]) (w' := W) ?_ (pY W (S.totals) _ (Az.out W hI) HFit.out.totals.1 HFit.out.totals.2) ?_
   · clear hg hc hf
     go_simp
   · rintro e W' ⟨v, rfl, hv, hb⟩
     exact ⟨v, rfl, hb, Grows.trans hI hb, fun d hd => by cases hd; exact hv⟩
 · intro ρ W b hc hf _ hI hg
   have Al : Tells (ey (!decide (S.title = [])) (fu (eX [[115, 116, 97, 116, 117, 116, 101, 32, 34], S.title, [34]]))) W (ρ (.tmp 11)) := hg 11 (by decide)
   have Ak : Tells (eu ((S.kinds).map ii)) W (ρ (.tmp 14)) := hg 14 (by decide)
   have Ao : Tells (eu ((S.members).map gm)) W (ρ (.tmp 17)) := hg 17 (by decide)
   have Am : Tells (eu ((S.preds).map (iv XP))) W (ρ (.tmp 20)) := hg 20 (by decide)
   have An : Tells (eu ((S.classes).map gM)) W (ρ (.tmp 23)) := hg 23 (by decide)
   have At : Tells (eu ((S.sources).map (gy XP))) W (ρ (.tmp 26)) := hg 26 (by decide)
   have Ap : Tells (eu ((S.rules).map (it XP))) W (ρ (.tmp 29)) := hg 29 (by decide)
   have Aq : Tells (eu ((S.excepts).map gn)) W (ρ (.tmp 32)) := hg 32 (by decide)
   have As : Tells (eu ((S.totals).map (gV XP))) W (ρ (.tmp 35)) := hg 35 (by decide)
   have hP := fF W [ey (!decide (S.title = [])) (fu (eX [[115, 116, 97, 116, 117, 116, 101, 32, 34], S.title, [34]])), eu ((S.kinds).map ii), eu ((S.members).map gm), eu ((S.preds).map (iv XP)), eu ((S.classes).map gM), eu ((S.sources).map (gy XP)), eu ((S.rules).map (it XP)), eu ((S.excepts).map gn), eu ((S.totals).map (gV XP))] [ρ (.tmp 11), ρ (.tmp 14), ρ (.tmp 17), ρ (.tmp 20), ρ (.tmp 23), ρ (.tmp 26), ρ (.tmp 29), ρ (.tmp 32), ρ (.tmp 35)] rfl (by unfold maxLen; simp) ⟨Al, Ak, Ao, Am, An, At, Ap, Aq, As, trivial⟩
   obtain ⟨AU, AL, Bs, -, -⟩ := Al
   obtain ⟨AN, Bq, Bg, -, -⟩ := Ak
   obtain ⟨Bw, Bn, Bc, -, -⟩ := Ao
   obtain ⟨Bd, AT, AY, -, -⟩ := Am
   obtain ⟨Bo, AZ, AW, -, -⟩ := An
   obtain ⟨Bf, Bh, Bi, -, -⟩ := At
   obtain ⟨Bp, Bt, AO, -, -⟩ := Ap
   obtain ⟨Bu, AV, AJ, -, -⟩ := Aq
   obtain ⟨Br, AH, Bb, -, -⟩ := As
   refine ef (v := .slice (some ⟨W.heap.size, 0, none⟩) 9 9) (w' := W.alloc (.cells #[ρ (.tmp 11), ρ (.tmp 14), ρ (.tmp 17), ρ (.tmp 20), ρ (.tmp 23), ρ (.tmp 26), ρ (.tmp 29), ρ (.tmp 32), ρ (.tmp 35)] 86)) ?_ ⟨Grows.alloc _ _, Grows.trans hI (Grows.alloc _ _), fun d hd => by cases hd; exact hP⟩
   clear hg hc hf hP
   go_simp
 · intro ρ W b hc hf _ hI hg
   have AE : Parts W [ey (!decide (S.title = [])) (fu (eX [[115, 116, 97, 116, 117, 116, 101, 32, 34], S.title, [34]])), eu ((S.kinds).map ii), eu ((S.members).map gm), eu ((S.preds).map (iv XP)), eu ((S.classes).map gM), eu ((S.sources).map (gy XP)), eu ((S.rules).map (it XP)), eu ((S.excepts).map gn), eu ((S.totals).map (gV XP))] (ρ (.tmp 36)) := hg 36 (by decide)
   have k0 := hf 70
   refine es (f := 70) (args := #[ρ (.tmp 36)]) (w' := W) ?_ (hM W [ey (!decide (S.title = [])) (fu (eX [[115, 116, 97, 116, 117, 116, 101, 32, 34], S.title, [34]])), eu ((S.kinds).map ii), eu ((S.members).map gm), eu ((S.preds).map (iv XP)), eu ((S.classes).map gM), eu ((S.sources).map (gy XP)), eu ((S.rules).map (it XP)), eu ((S.excepts).map gn), eu ((S.totals).map (gV XP))] _ AE (by simp)) ?_
   · clear hg hc hf
     go_simp
   · rintro e W' ⟨v, rfl, hv, hb⟩
     exact ⟨v, rfl, hb, Grows.trans hI hb, fun d hd => by cases hd; exact hv⟩
 · intro ρ W b hc hf _ hI hg
   have AC : Tells (ez [ey (!decide (S.title = [])) (fu (eX [[115, 116, 97, 116, 117, 116, 101, 32, 34], S.title, [34]])), eu ((S.kinds).map ii), eu ((S.members).map gm), eu ((S.preds).map (iv XP)), eu ((S.classes).map gM), eu ((S.sources).map (gy XP)), eu ((S.rules).map (it XP)), eu ((S.excepts).map gn), eu ((S.totals).map (gV XP))]) W (ρ (.tmp 37)) := hg 37 (by decide)
   exact ef (v := ρ (.tmp 37)) (w' := W) rfl ⟨Grows.refl _, hI, fun d hd => by cases hd; exact AC⟩
end Go.Proofs.YtbpphlmakmeoaaaGreatDoor.Sy
namespace Go.Proofs.YtbpphlmakmeoaaaGreatDoor.Sy
open Go.RowKit
theorem vg : Tryz.prog.cellsOf 5 = 1 := by kernel_rfl
theorem vh (R : Nat) (p v : Value) (bs : ee) (lg : Bool) (w : World) (hb : w.heap[R]? = some (.cells #[p, v, .bool lg] 144 (0, 0))) (hown : w.ownsRow (R + 1) 5 1 v bs.length (Lib.byteCells bs)) (hnil : bs = [] → v = .slice none 0 0) :
    Calls Tryz.prog 69 #[.pointer (some ⟨R, 0, none⟩)] w fun e w' => e = .returned (.string ⟨bs.toArray⟩) ∧ Below (R + 1) w w' := by
 by_cases h0 : bs = []
 · have hv := hnil h0
   subst h0 hv
   have Af : ∀ (W : World) (q : Option Addr), (Builtin.unsafeString_ #[209, 3] 9 #[.pointer q, .int .i64 0]).run Tryz.prog W = .ok (.string .empty) W := fun W q => Lib.run_unsafeString_none W _ _ _ q
   have c1 : w.drew.cell? ⟨R, 1, none⟩ = some (.slice none 0 0) := (fj (w := w.drew) hb).2.1
   have Ag : (Builtin.unsafeSliceData_ #[140] 209 #[.slice none 0 0]).run Tryz.prog w.drew = .ok (.pointer none) w.drew := rfl
   clear hb hown hnil
   go_enter Tryz.func69, Tryz.ntmps69
   go_wp2
   go_region
   all_goals (go_wp2; go_ret; exact ⟨rfl, Below.drew (Below.refl _ w)⟩)
 · have Ah : bs.length ≠ 0 := by simpa using h0
   obtain ⟨g, Aa, Ab, rfl, Aj, hg, Ai, Ad, Ae, Ac⟩ : ∃ g Aa Ab, v = .slice (some ⟨g, 0, none⟩) bs.length Aa ∧ R + 1 ≤ g ∧ w.heap[g]? = some (.cells Ab 5 (0, 0)) ∧ bs.length ≤ Aa ∧ Aa ≤ maxLen ∧ Ab.size = Aa * 1 ∧ Ab.toList.take (bs.length * 1) = Lib.byteCells bs := by
    rcases hown.2 with ⟨_, hz⟩ | ⟨g, Aa, Ab, hv, r⟩
    · exact absurd hz Ah
    · exact ⟨g, Aa, Ab, hv, r⟩
   have c1 : w.drew.cell? ⟨R, 1, none⟩ = some (.slice (some ⟨g, 0, none⟩) bs.length Aa) := (fj (w := w.drew) hb).2.1
   have Ag : (Builtin.unsafeSliceData_ #[140] 209 #[.slice (some ⟨g, 0, none⟩) bs.length Aa]).run Tryz.prog w.drew = .ok (.pointer (some ⟨g, 0, none⟩)) w.drew :=
    Lib.run_unsafeSliceData_row _ _ _ _ _ _ (by omega)
   have Af : (Builtin.unsafeString_ #[209, 3] 9 #[.pointer (some ⟨g, 0, none⟩), .int .i64 bs.length]).run Tryz.prog w.drew = .ok (.string ⟨bs.toArray⟩) (w.drew.freeze ⟨g, 0, none⟩ bs.length) := by
    refine Lib.run_unsafeString_row w.drew 209 3 9 5 Tryz.underlying209 vg g Ab.size (by have hg' : w.drew.heap[g]? = some (.cells Ab 5 (0, 0)) := hg; simp [World.shape?, hg']) bs h0 (by omega) (by unfold maxLen at Ad; omega) ?_
    intro j x hx
    have := hown.cells (g := g) rfl j (.int .u8 x.toNat) (by simp [Lib.byteCells, hx])
    exact this
   clear hb hown hnil hg Ai Ad Ae Ac
   go_enter Tryz.func69, Tryz.ntmps69
   go_wp2
   go_region
   all_goals (go_wp2; go_ret; exact ⟨rfl, Lib.below_freeze (Below.drew (Below.refl _ w)) (p := ⟨g, 0, none⟩) Aj _⟩)
theorem tS (c : Int) (w : World) : Calls Tryz.prog 67 #[.iface 33 (.int .i64 c)] w fun e w' => e = .returned (.int .i64 c) ∧ w' = w := by
 have Aa : ∀ w : World, (Instr.typeAssert (.iface 33 (.int .i64 c)) 20 33 true).run Tryz.prog w = .ok (.tuple #[.int .i64 c, .bool true]) w := fun w => by kernel_rfl
 go_enter Tryz.func67, Tryz.ntmps67
 go_wp2_with fail
 go_ret
 exact ⟨rfl, rfl⟩
theorem zw (a b : Value) (w : World) : CallsD Tryz.prog 66 #[a, b] .returning w fun e u' w' => e = .returned (.tuple #[]) ∧ u' = .returning ∧ w' = w := by
 refine callsD_of_wpS Tryz.func66 rfl fun c₀ cs hu => ?_
 apply wpS_seq
 apply wpS_region
 simp [wpOpsS, go_sem, recoverD, hu, Tryz.ntmps66, Exit.thenS]
 apply wpS_of_wp
 go_wp2_with fail
 cases c₀
 simp_all [bodyPostS, results, Tryz.results66]
theorem E6 (q0 q1 : Nat) (c : Int) (older : List PanicEntry) (w : World) (x0 x1 : Value) (h0 : w.heap[q0]? = some (.cells #[x0] 9 (0, 0))) (h1 : w.heap[q1]? = some (.cells #[x1] 33 (0, 0))) (hn : q0 ≠ q1) :
    CallsD Tryz.prog 66 #[.pointer (some ⟨q0, 0, none⟩), .pointer (some ⟨q1, 0, none⟩)] (.panicking ({ v := .iface 33 (.int .i64 c), recovered := false } :: older)) w fun r u' w' =>
     r = .returned (.tuple #[]) ∧ u' = .panicking ({ v := .iface 33 (.int .i64 c), recovered := true } :: older) ∧ w'.cell? ⟨q0, 0, none⟩ = some (.string ⟨#[]⟩) ∧ w'.cell? ⟨q1, 0, none⟩ = some (.int .i64 c) ∧ w'.os = w.os ∧ w'.tape = w.tape ∧ w'.output = w.output ∧ w.heap.size ≤ w'.heap.size ∧ ∀ k, k ≠ q0 → k ≠ q1 → w'.heap[k]? = w.heap[k]? := by
 have CF := ec (tS c w)
 obtain ⟨u0, f0⟩ := im h0
 obtain ⟨u1, f1⟩ := im h1
 have Ac := ec h0
 have Ad := ec h1
 have hn' : q1 ≠ q0 := Ne.symm hn
 clear h0 h1
 refine callsD_of_wpS Tryz.func66 rfl fun c₀ cs hu => ?_
 apply wpS_seq
 apply wpS_region
 have Aa : (Array.replicate 6 undef : Array Value) = #[undef, undef, undef, undef, undef, undef] := rfl
 simp [wpOpsS, go_sem, recoverD, hu, Tryz.ntmps66, Exit.thenS, Aa]
 clear Aa
 apply wpS_of_wp
 go_wp2_with fail
 refine CF.out.mono ?_
 rintro _ w1 ⟨rfl, rfl⟩
 go_wp2_with fail
 have L0 := fD (p := ⟨q1, 0, none⟩) (v := .int .i64 c) (fN (i := 0) (v := .string ⟨#[]⟩) Ac.out) hn
 have L1 := fN (i := 0) (v := .int .i64 c) (fD (p := ⟨q0, 0, none⟩) (v := .string ⟨#[]⟩) Ad.out hn')
 have e0 := (im L0).1
 have e1 := (im L1).1
 have hk : ∀ k, k ≠ q0 → k ≠ q1 → ((w1.setCell ⟨q0, 0, none⟩ (.string ⟨#[]⟩)).setCell ⟨q1, 0, none⟩ (.int .i64 c)).heap[k]? = w1.heap[k]? := fun k h1 h2 => by
  rw [heap_setCell_other _ ⟨q1, 0, none⟩ k _ h2, heap_setCell_other _ ⟨q0, 0, none⟩ k _ h1]
 have Ab : w1.heap.size ≤ ((w1.setCell ⟨q0, 0, none⟩ (.string ⟨#[]⟩)).setCell ⟨q1, 0, none⟩ (.int .i64 c)).heap.size := by simp
 have ho : ((w1.setCell ⟨q0, 0, none⟩ (.string ⟨#[]⟩)).setCell ⟨q1, 0, none⟩ (.int .i64 c)).os = w1.os ∧ ((w1.setCell ⟨q0, 0, none⟩ (.string ⟨#[]⟩)).setCell ⟨q1, 0, none⟩ (.int .i64 c)).tape = w1.tape ∧ ((w1.setCell ⟨q0, 0, none⟩ (.string ⟨#[]⟩)).setCell ⟨q1, 0, none⟩ (.int .i64 c)).output = w1.output := ⟨rfl, rfl, rfl⟩
 generalize ((w1.setCell ⟨q0, 0, none⟩ (.string ⟨#[]⟩)).setCell ⟨q1, 0, none⟩ (.int .i64 c)) = W at *
 have HE := ec (And.intro e0 (And.intro e1 (And.intro ho.1 (And.intro ho.2.1 (And.intro ho.2.2 (And.intro Ab hk))))))
 clear u0 u1 f0 f1 Ac Ad CF L0 L1 e0 e1 hk Ab ho
 cases c₀
 simp_all [bodyPostS, results, Tryz.results66]
 exact HE.out
def writtenP (m : Told) : ee × Int := match m with
 | none => ([], 52)
 | some bs => if 65536 < bs.length then ([], 5) else (bs, 0)
theorem Wr.new (w : World) (ht : Mo.Tab w) (hp : 0 < w.heap.size) : Wr w.heap.size [] (w.alloc (.cells #[.pointer none, .slice none 0 0, .bool false] 144)) :=
 ⟨⟨_, _, [], false, heap_alloc_new w _, .inl rfl, World.ownsRow_nil _ _ _ _, fun _ => rfl, rfl, fun _ => rfl, by simp⟩, ht.below (Grows.alloc _ _) (Nat.le_refl _), hp⟩
theorem Kw.grows {R : Nat} {w0 w w' : World} (h : Kw R w w') (h0 : Below w0.heap.size w0 w) (hR : w0.heap.size ≤ R) : Below w0.heap.size w0 w' :=
 ⟨h.os.trans h0.os, h.tape.trans h0.tape, h.output.trans h0.output, Nat.le_trans h0.size h.size, fun k hk => (h.low k (by omega)).trans (h0.block k hk)⟩
theorem t8 (w : World) (m : Told) (v : Value) (hv : Tells m w v) (ht : Mo.Tab w) (hp : 0 < w.heap.size) :
    Calls Tryz.prog 38 #[v] w fun e w' => e = .returned (.tuple #[.string ⟨(writtenP m).1.toArray⟩, .int .i64 (writtenP m).2]) ∧ Below w.heap.size w w' := by
 have HV := ec hv
 obtain ⟨kf, An, rfl, _, _⟩ := hv
 have g2 : Grows w ((w.alloc (.cells #[.string ⟨#[]⟩] 9)).alloc (.cells #[.int .i64 0] 33)) := Grows.trans (Grows.alloc _ _) (Grows.alloc _ _)
 have hs : ((w.alloc (.cells #[.string ⟨#[]⟩] 9)).alloc (.cells #[.int .i64 0] 33)).heap.size = w.heap.size + 1 + 1 := by simp
 have hW := Wr.new _ (ht.below g2 (Nat.le_refl _)) (Nat.lt_of_lt_of_le hp g2.size)
 have Ak := gL w (.cells #[.string ⟨#[]⟩] 9) (.cells #[.int .i64 0] 33)
 have g3 := Grows.alloc ((w.alloc (.cells #[.string ⟨#[]⟩] 9)).alloc (.cells #[.int .i64 0] 33)) (.cells #[.pointer none, .slice none 0 0, .bool false] 144)
 have hP := ip _ m _ (HV.out.keep (Grows.trans g2 g3).keeps)
 have g4 := Grows.alloc (((w.alloc (.cells #[.string ⟨#[]⟩] 9)).alloc (.cells #[.int .i64 0] 33)).alloc (.cells #[.pointer none, .slice none 0 0, .bool false] 144)) (.cells #[.func (.func kf) #[] An] 86)
 have C := ec (gW _ [] _ (hW.below g4) [m] _ hP (by simp))
 have Aq : (((w.alloc (.cells #[.string ⟨#[]⟩] 9)).alloc (.cells #[.int .i64 0] 33)).alloc (.cells #[.pointer none, .slice none 0 0, .bool false] 144)).heap.size = w.heap.size + 1 + 1 + 1 := by simp
 rw [iJ, hs, Aq] at C
 have b0 := (Grows.trans g3 g4).block w.heap.size (by rw [hs]; omega)
 have b1 := (Grows.trans g3 g4).block (w.heap.size + 1) (by rw [hs]; omega)
 have N0 := ec (b0.trans Ak.1)
 have N1 := ec (b1.trans Ak.2)
 have G4 := ec (Grows.trans g2 (Grows.trans g3 g4))
 have m0 : w.heap.size ≠ w.heap.size + 1 := by omega
 clear ht hW hP g2 g3 g4 hs Aq Ak b0 b1 hp
 generalize hwP : ((((w.alloc (.cells #[.string ⟨#[]⟩] 9)).alloc (.cells #[.int .i64 0] 33)).alloc (.cells #[.pointer none, .slice none 0 0, .bool false] 144)).alloc (.cells #[.func (.func kf) #[] An] 86)) = wP at C N0 N1 G4
 go_enter_defers Tryz.func38, Tryz.ntmps38
 go_wp2_with fail
 refine C.out.mono ?_
 intro e w4 he
 rcases he.split with ⟨bs, hm, rfl, Al, Aa⟩ | ⟨hm, rfl, Aa⟩
 · obtain ⟨p, v, Ac, lg, hb, Ap, Ad, Ae, Aj, Ai, Am⟩ := Al.ex
   have L0 := (Aa.low w.heap.size (by omega)).trans N0.out
   have L1 := (Aa.low (w.heap.size + 1) (by omega)).trans N1.out
   obtain ⟨z0, z1, z2, z3⟩ := fj hb
   obtain ⟨u0, u1⟩ := im L0
   obtain ⟨t0, t1⟩ := im L1
   have Ab := ec (Aa.grows G4.out (by omega))
   have Af := ec L0
   have Ag := ec L1
   simp only [List.nil_append] at Aj Ai
   cases lg with
   | true =>
    have Ao : 65536 < bs.length := by simpa using Aj.symm
    have HR : Hid (writtenP m = ([], 5)) := ec (by rw [hm]; exact if_pos Ao)
    clear he Al Aa C hb Ap Ad Ae Aj Ai Am L0 L1 hm N0 N1 G4
    go_wp2_with fail
    have P0 := fD (p := ⟨w.heap.size + 1, 0, none⟩) (v := .int .i64 5) (fN (i := 0) (v := .string ⟨#[]⟩) Af.out) m0
    have P1 := fN (i := 0) (v := .int .i64 5) (fD (p := ⟨w.heap.size, 0, none⟩) (v := .string ⟨#[]⟩) Ag.out (Ne.symm m0))
    have PB := ec ((Ab.out.setCell (p := ⟨w.heap.size, 0, none⟩) (Nat.le_refl _) (.string ⟨#[]⟩)).setCell (p := ⟨w.heap.size + 1, 0, none⟩) (by show w.heap.size ≤ w.heap.size + 1; omega) (.int .i64 5))
    generalize ((w4.setCell ⟨w.heap.size, 0, none⟩ (.string ⟨#[]⟩)).setCell ⟨w.heap.size + 1, 0, none⟩ (.int .i64 5)) = W at *
    refine leaves_cons (f := 66) (args := #[.pointer (some ⟨w.heap.size, 0, none⟩), .pointer (some ⟨w.heap.size + 1, 0, none⟩)]) (by simp) (by simp [go_sem]) ?_
    refine (zw _ _ _).mono ?_
    rintro e u' w9 ⟨rfl, rfl, rfl⟩
    have hz := And.intro (im P0) (im P1)
    refine ⟨.tuple #[.string ⟨(writtenP m).1.toArray⟩, .int .i64 (writtenP m).2], ?_, rfl, PB.out⟩
    rw [HR.out]
    simp [results, Tryz.results38, go_sem, hz]
   | false =>
    have hbs' := Ai rfl
    subst hbs'
    have HR : Hid (writtenP m = (Ac, 0)) := ec (by rw [hm]; exact if_neg (by omega))
    have CS := ec (vh _ p v Ac false w4 hb Ad Ae)
    clear he Al Aa C hb Ap Ad Ae Aj Ai Am L0 L1 hm N0 N1 G4
    go_wp2_with fail
    refine CS.out.mono ?_
    rintro _ w5 ⟨rfl, Ah⟩
    have L0 := (Ah.block _ (by omega)).trans Af.out
    have L1 := (Ah.block _ (by omega)).trans Ag.out
    obtain ⟨u0, u1⟩ := im L0
    obtain ⟨t0, t1⟩ := im L1
    have Af := ec L0
    have Ag := ec L1
    have Ab := ec (Ab.out.trans (Ah.mono (by omega)))
    clear Ah CS L0 L1
    go_wp2_with fail
    have P0 := fD (p := ⟨w.heap.size + 1, 0, none⟩) (v := .int .i64 0) (fN (i := 0) (v := .string ⟨Ac.toArray⟩) Af.out) m0
    have P1 := fN (i := 0) (v := .int .i64 0) (fD (p := ⟨w.heap.size, 0, none⟩) (v := .string ⟨Ac.toArray⟩) Ag.out (Ne.symm m0))
    have PB := ec ((Ab.out.setCell (p := ⟨w.heap.size, 0, none⟩) (Nat.le_refl _) (.string ⟨Ac.toArray⟩)).setCell (p := ⟨w.heap.size + 1, 0, none⟩) (by show w.heap.size ≤ w.heap.size + 1; omega) (.int .i64 0))
    generalize ((w5.setCell ⟨w.heap.size, 0, none⟩ (.string ⟨Ac.toArray⟩)).setCell ⟨w.heap.size + 1, 0, none⟩ (.int .i64 0)) = W at *
    refine leaves_cons (f := 66) (args := #[.pointer (some ⟨w.heap.size, 0, none⟩), .pointer (some ⟨w.heap.size + 1, 0, none⟩)]) (by simp) (by simp [go_sem]) ?_
    refine (zw _ _ _).mono ?_
    rintro e u' w9 ⟨rfl, rfl, rfl⟩
    have hz := And.intro (im P0) (im P1)
    refine ⟨.tuple #[.string ⟨(writtenP m).1.toArray⟩, .int .i64 (writtenP m).2], ?_, rfl, PB.out⟩
    rw [HR.out]
    simp [results, Tryz.results38, go_sem, hz]
 · have L0 := ec ((Aa.low w.heap.size (by omega)).trans N0.out)
   have L1 := ec ((Aa.low (w.heap.size + 1) (by omega)).trans N1.out)
   have Ab := ec (Aa.grows G4.out (by omega))
   have HR : Hid (writtenP m = ([], 52)) := ec (by rw [hm]; rfl)
   clear he Aa C hm N0 N1 G4
   refine leaves_cons (f := 66) (args := #[.pointer (some ⟨w.heap.size, 0, none⟩), .pointer (some ⟨w.heap.size + 1, 0, none⟩)]) (by simp) (by simp [go_sem]) ?_
   refine (E6 _ _ _ _ _ _ _ L0.out L1.out m0).mono ?_
   rintro e u' w9 ⟨rfl, rfl, h0, h1, ho, ht, Ar, As, hk⟩
   refine ⟨.tuple #[.string ⟨(writtenP m).1.toArray⟩, .int .i64 (writtenP m).2], ?_, rfl, ⟨ho.trans Ab.out.os, ht.trans Ab.out.tape, Ar.trans Ab.out.output, Nat.le_trans Ab.out.size As, fun k hkk => (hk k (by omega) (by omega)).trans (Ab.out.block k hkk)⟩⟩
   rw [HR.out]
   simp [results, Tryz.results38, go_sem, h0, h1]
end Go.Proofs.YtbpphlmakmeoaaaGreatDoor.Sy
