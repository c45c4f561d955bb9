/- isOverruled; disprove. -/
import Derived.Test.YthifoamnmhlghaaGreatFs5
namespace Go.Proofs.YthifoamnmhlghaaGreat.Fa
open Go.RowKit

section
variable {N : Nat} {S : Nat → Prop} {A : Ad} {T : Th} {F : List Int} {n : Nat} {e : Es} {tv : Value} {w w' : World}
theorem foe_sym (h : Pf T F n) {q f : Int} (h0 : 0 ≤ q) (h1 : q < (n : Int)) (hf : f ∈ row T.foes q) : q ∈ row T.foes f := by
  obtain ⟨a, rfl⟩ := Int.eq_ofNat_of_zero_le h0
  obtain ⟨l, hl⟩ := get_at (l := T.foes) (i := a) (by have := h.ok.fl; have := h.ln; omega)
  rw [row_at (by rw [Int.toNat_natCast]; exact hl)] at hf
  exact (h.ok.foe a l hl).2.2.2 f hf
theorem rules_head {p : RuleM → Bool} {z : Int} {s : Nat} (h : (s : Int) ∈ rulesL T p z) : headOf T s = z := by
  obtain ⟨a, r, e, hr, -, hh⟩ := mem_rules.1 h
  have : s = a := by omega
  subst this
  unfold headOf
  rw [Int.toNat_natCast, hr]
  exact hh
theorem mem_rival {q p : Int} : p ∈ rivalsL T q ↔ p ∈ row T.foes q ∧ rulesL T kT p ≠ [] := by
  unfold rivalsL
  rw [List.mem_filter]
  simp
/-- A clash's cells. -/
theorem clash_at (h : En N S A T F n e tv w) {s : Nat} (hs : s < T.rules.length) {p : Int} (hp : p ∈ rivalsL T (headOf T s)) : ∃ k : Nat, (rivalsL T (headOf T s))[k]? = some p ∧ k < (rivalsL T (headOf T s)).length ∧ (rivalsL T (headOf T s)).length ≤ 64 ∧ w.cell? ⟨A.cl, s, none⟩ = some (sl (A.cr s) (rivalsL T (headOf T s)).length) ∧ w.cell? ⟨A.cr s, k * 2, none⟩ = some (.int .i64 (e.cd s p)) ∧ w.cell? ⟨A.cr s, k * 2 + 1, none⟩ = some (.bool (e.cb s p)) := by
  obtain ⟨k, hk⟩ := List.mem_iff_getElem?.1 hp
  obtain ⟨x, -, hhx, hx0, hx1⟩ := head_in h.pf hs
  obtain ⟨hm, hhm⟩ := Int.eq_ofNat_of_zero_le hx0
  refine ⟨k, hk, (List.getElem?_eq_some_iff.1 hk).1, ?_, h.ro.lx.get (by rw [List.getElem?_map, List.getElem?_range hs]; rfl), (h.cr s hs).get (clsL_at hk).1, (h.cr s hs).get (clsL_at hk).2⟩
  rw [hhx, hhm]
  exact rival_len h.pf (by omega)
set_option maxRecDepth 100000 in
set_option maxHeartbeats 6400000 in
theorem over_any {q : Nat} (h : En N S A T F n e tv w) (hq : q < n) (ht : rulesL T kT (q : Int) ≠ []) :
    Calls Tryz.prog 82 #[ptr A.K, .int .i64 q] w fun o w' => o = .returned (.bool (overB T e q)) ∧ Below w.heap.size w w' := by
  have k1 := h.bx.get (i := 1) rfl
  have k4 := h.bx.get (i := 4) rfl
  have k16 := h.bx.get (i := 16) rfl
  have hn4 := h.pf.n4
  have hrl : T.rules.length ≤ 4096 := h.pf.ok.rl
  obtain ⟨l, la, lc, er, -, hA, hll, hin, hfl, g, o, e1, cl⟩ := foes_at h hq
  rw [e1] at k1
  obtain ⟨b, hb⟩ : ∃ b, overB T e q = b := ⟨_, rfl⟩
  rw [hb]
  have HO : Hid ((l.drop 0).any (fun f => (rulesL T kA f).any fun s => used e s && decide (e.cd s q = 0)) = b) := hide (by rw [List.drop_zero, ← hb, ← er]; rfl)
  have HE := hide h
  have HA := hide hA
  have HIN := hide hin
  have HSY : Hid (∀ f ∈ l, (q : Int) ∈ rivalsL T f) := hide fun f hf => mem_rival.2 ⟨foe_sym h.pf (q := (q : Int)) (by omega) (by omega) (by rw [er]; exact hf), ht⟩
  clear h hA hb er hin e1
  go_enter Tryz.func82, Tryz.ntmps82
  go_wp2_with fail
  clear k1 cl
  go_loopw [19] (fun x wr => ∃ k : Nat, k ≤ l.length ∧ x = .int .i64 k ∧ Hid ((l.drop k).any (fun f => (rulesL T kA f).any fun s => used e s && decide (e.cd s q = 0)) = b) ∧ Hid (∃ d, wr = w.drewN d)) (fun x _ => l.length - (intOf x).toNat)
  case atStart => exact ⟨0, by omega, rfl, HO, hide ⟨0, rfl⟩⟩
  case round =>
    clear HO
    obtain ⟨k, hk, rfl, HO, HD⟩ := hrel
    by_cases hlt : k < l.length
    · obtain ⟨f, hf⟩ := get_at hlt
      obtain ⟨f0, f1⟩ := HIN.out f (List.mem_of_getElem? hf)
      obtain ⟨fm, rfl⟩ := Int.eq_ofNat_of_zero_le f0
      have hfn : fm < n := by omega
      have HEr : Hid (En N S A T F n e tv wr) := hide (by obtain ⟨d, hd⟩ := HD.out; rw [hd]; exact HE.out.drewN d)
      obtain ⟨gg, oo, rfl, cx⟩ := (show At1 wr la (ints l) from by obtain ⟨d, hd⟩ := HD.out; rw [hd]; exact HA.out).get hf
      have r4 := HEr.out.bx.get (i := 4) rfl
      obtain ⟨ra, rc, cr, hR⟩ := HEr.out.ro.lr.at hfn
      obtain ⟨rl, hrlq⟩ : ∃ rl, rulesL T kA (fm : Int) = rl := ⟨_, rfl⟩
      rw [hrlq] at cr hR
      have hrll : rl.length ≤ 4096 := by rw [← hrlq]; have := rules_len (T := T) (p := kA) (z := (fm : Int)); omega
      have HRIN : Hid (∀ s ∈ rl, ∃ sm : Nat, s = (sm : Int) ∧ sm < T.rules.length ∧ headOf T sm = (fm : Int)) := hide fun s hs => by
        rw [← hrlq] at hs
        obtain ⟨s0, s1⟩ := rules_in hs
        obtain ⟨sm, rfl⟩ := Int.eq_ofNat_of_zero_le s0
        exact ⟨sm, rfl, by omega, rules_head hs⟩
      have HRV : Hid ((q : Int) ∈ rivalsL T (fm : Int)) := hide (HSY.out _ (List.mem_of_getElem? hf))
      obtain ⟨o2, ho2⟩ : ∃ o2, rl.any (fun s => used e s && decide (e.cd s q = 0)) = o2 := ⟨_, rfl⟩
      have HO2 : Hid ((rl.drop 0).any (fun s => used e s && decide (e.cd s q = 0)) = o2) := hide (by rw [List.drop_zero]; exact ho2)
      have HY : Hid (o2 = true → b = true) := hide fun ht2 => by
        rw [← HO.out]
        exact any_yes hf (by show (rulesL T kA (fm : Int)).any _ = true; rw [hrlq, ho2]; exact ht2)
      have HNX : Hid (o2 = false → (l.drop (k + 1)).any (fun f => (rulesL T kA f).any fun s => used e s && decide (e.cd s q = 0)) = b) := hide fun ht2 => by
        rw [← HO.out]
        exact (any_no hf (by show (rulesL T kA (fm : Int)).any _ = false; rw [hrlq, ho2]; exact ht2)).symm
      have HR := hide hR
      clear hf f0 f1 hrlq ho2 HO hR
      go_wp2_with fail
      clear cx r4 cr
      have HDO := hide HD.out
      clear HD HEr
      go_loopw [32] (fun x wz => ∃ j : Nat, j ≤ rl.length ∧ x = .int .i64 j ∧ Hid ((rl.drop j).any (fun s => used e s && decide (e.cd s q = 0)) = o2) ∧ Hid (∃ d, wz = w.drewN d)) (fun x _ => rl.length - (intOf x).toNat)
      case atStart => exact ⟨0, by omega, rfl, HO2, hide HDO.out⟩
      case round =>
        clear HO2
        rename World => wz
        obtain ⟨j, hj, rfl, HO2, HD⟩ := hrel
        by_cases hjl : j < rl.length
        · obtain ⟨s, hs⟩ := get_at hjl
          obtain ⟨sm, rfl, hsm, hhs⟩ := HRIN.out s (List.mem_of_getElem? hs)
          have hEz : En N S A T F n e tv wz := by obtain ⟨d, hd⟩ := HD.out; rw [hd]; exact HE.out.drewN d
          obtain ⟨gg2, oo2, rfl, cy⟩ := (show At1 wz ra (ints rl) from by obtain ⟨d, hd⟩ := HD.out; obtain ⟨d2, hd2⟩ := HDO.out; rw [hd]; rw [hd2] at HR; exact HR.out).get hs
          obtain ⟨p, hp, hpl, hpm, c1, c2, -⟩ := clash_at hEz hsm (p := (q : Int)) (by rw [hhs]; exact HRV.out)
          have z16 := hEz.bx.get (i := 16) rfl
          have CU := hide fun d : Nat => used_any (hEz.drewN d) hsm
          have CP := hide fun d : Nat => placeOf_any (hEz.drewN d) hsm hp
          obtain ⟨rln, hrln⟩ : ∃ rln, (rivalsL T (headOf T (sm : Int))).length = rln := ⟨_, rfl⟩
          rw [hrln] at c1 hpl hpm
          obtain ⟨u, hu⟩ : ∃ u, used e (sm : Int) = u := ⟨_, rfl⟩
          rw [hu] at CU
          obtain ⟨v, hv⟩ : ∃ v, e.cd (sm : Int) q = v := ⟨_, rfl⟩
          rw [hv] at c2
          have HP2 : Hid ((used e (sm : Int) && decide (e.cd (sm : Int) q = 0)) = (u && decide (v = 0))) := hide (by rw [hu, hv])
          have HS := hide hs
          clear hs hEz hp hrln hu hv hhs
          cases u with
          | false =>
            have HN2 : Hid ((rl.drop (j + 1)).any (fun s => used e s && decide (e.cd s q = 0)) = o2) := hide (by rw [← HO2.out]; exact (any_no HS.out (by rw [HP2.out]; rfl)).symm)
            clear HO2 HP2 HS
            go_upto_region 7 with fail
            go_quiet ((go_at_call 79; exact Calls.quiet_of_same (CU.out _)))
            clear CU CP
            go_wp2_with fail
            go_roundw
            case rel => exact ⟨j + 1, by omega, by go_num, HN2, hide (by obtain ⟨d, hd⟩ := HD.out; exact ⟨_, by rw [hd, World.drewN_drewN]⟩)⟩
            case measure => simp [intOf]; omega
          | true =>
            by_cases hv0 : v = 0
            · have hvb : (v == 0) = true := by simpa using hv0
              have HT : Hid (b = true) := hide (HY.out (by rw [← HO2.out]; exact any_yes HS.out (by rw [HP2.out, decide_eq_true hv0]; rfl)))
              clear HO2 HP2 HS hv0
              go_upto_region 7 with fail
              go_quiet (first | (go_at_call 79; exact Calls.quiet_of_same (CU.out _)) | (go_at_call 52; exact Calls.quiet_of (CP.out _)))
              clear CU CP
              go_wp2_with fail
              go_ret
              exact ⟨by rw [HT.out]; rfl, by obtain ⟨d, hd⟩ := HD.out; rw [hd, World.drewN_drewN]; exact below_drewN w _⟩
            · have hvb : (v == 0) = false := by simpa using hv0
              have HN2 : Hid ((rl.drop (j + 1)).any (fun s => used e s && decide (e.cd s q = 0)) = o2) := hide (by rw [← HO2.out]; exact (any_no HS.out (by rw [HP2.out, decide_eq_false hv0]; rfl)).symm)
              clear HO2 HP2 HS hv0
              go_upto_region 7 with fail
              go_quiet (first | (go_at_call 79; exact Calls.quiet_of_same (CU.out _)) | (go_at_call 52; exact Calls.quiet_of (CP.out _)))
              clear CU CP
              go_wp2_with fail
              go_roundw
              case rel => exact ⟨j + 1, by omega, by go_num, HN2, hide (by obtain ⟨d, hd⟩ := HD.out; exact ⟨_, by rw [hd, World.drewN_drewN]⟩)⟩
              case measure => simp [intOf]; omega
        · have HN : Hid (o2 = false) := hide (by rw [← HO2.out, drop_end (by omega)]; rfl)
          have HN3 := hide (HNX.out HN.out)
          go_wp2_with fail
          go_roundw
          case rel => exact ⟨k + 1, by omega, by go_num, HN3, HD⟩
          case measure => simp [intOf]; omega
    · have HN : Hid (b = false) := hide (by rw [← HO.out, drop_end (by omega)]; rfl)
      go_wp2_with fail
      go_ret
      exact ⟨by rw [HN.out]; rfl, by obtain ⟨d, hd⟩ := HD.out; rw [hd]; exact below_drewN w _⟩
set_option maxRecDepth 100000 in
set_option maxHeartbeats 6400000 in
theorem disprove_any {q : Nat} (h : Eg N S A T F n e w) (hq : q < n) :
    Calls Tryz.prog 59 #[ptr A.K, .int .i64 q] w fun o w' => o = .returned (.tuple #[]) ∧ Eg N S A T F n (disproveE T e q) w' ∧ Fr (fun k => ¬ S k) w w' := by
  have HE := hide h
  obtain ⟨tv, h⟩ := h
  have CF := hide (fors_any h hq)
  have HEn := hide h
  cases hf : forsB T e q with
  | true =>
    have HR : Hid (disproveE T e q = loseE e q) := hide (by unfold disproveE; rw [hf]; rfl)
    rw [hf] at CF
    clear h hf
    go_enter Tryz.func59, Tryz.ntmps59
    go_wp2_with (first | (go_at_call 80; refine CF.out.mono ?_; rintro _ w2 ⟨rfl, hb⟩; have HB := hide hb; have CT := hide (lose_any (HE.out.go hb) hq); clear hb) | (go_at_call 61; refine CT.out.mono ?_; rintro _ w3 ⟨rfl, he, hf⟩; have HE3 := hide he; have HF3 := hide hf; clear he hf))
    go_end0
    exact ⟨rfl, by rw [HR.out]; exact HE3.out, (Fr.of_below HB.out).trans HF3.out⟩
  | false =>
    have ht : rulesL T kT (q : Int) ≠ [] := fun e0 => by
      unfold forsB at hf
      rw [e0] at hf
      cases hf
    have HT := hide ht
    cases hr : refuB T e q with
    | true =>
      have HR : Hid (disproveE T e q = loseE e q) := hide (by unfold disproveE; rw [hf, hr]; rfl)
      rw [hf] at CF
      have HRF := hide hr
      clear h hf ht hr
      go_enter Tryz.func59, Tryz.ntmps59
      go_wp2_with (first | (go_at_call 80; refine CF.out.mono ?_; rintro _ w2 ⟨rfl, hb⟩; have HB := hide hb; have CR := hide (refu_any (HEn.out.go hb) hq); rw [HRF.out] at CR; clear hb) | (go_at_call 81; refine CR.out.mono ?_; rintro _ w3 ⟨rfl, hb⟩; have HB3 := hide (HB.out.trans (hb.mono HB.out.size)); have CT := hide (lose_any (HE.out.go HB3.out) hq); clear hb) | (go_at_call 61; refine CT.out.mono ?_; rintro _ w4 ⟨rfl, he, hf⟩; have HE3 := hide he; have HF3 := hide hf; clear he hf))
      go_end0
      exact ⟨rfl, by rw [HR.out]; exact HE3.out, (Fr.of_below HB3.out).trans HF3.out⟩
    | false =>
      cases ho : overB T e q with
      | true =>
        have HR : Hid (disproveE T e q = loseE e q) := hide (by unfold disproveE; rw [hf, hr, ho]; rfl)
        rw [hf] at CF
        have HRF := hide hr
        have HRO := hide ho
        clear h hf ht hr ho
        go_enter Tryz.func59, Tryz.ntmps59
        go_wp2_with (first | (go_at_call 80; refine CF.out.mono ?_; rintro _ w2 ⟨rfl, hb⟩; have HB := hide hb; have CR := hide (refu_any (HEn.out.go hb) hq); rw [HRF.out] at CR; clear hb) | (go_at_call 81; refine CR.out.mono ?_; rintro _ w3 ⟨rfl, hb⟩; have HB3 := hide (HB.out.trans (hb.mono HB.out.size)); have CO := hide (over_any (HEn.out.go HB3.out) hq HT.out); rw [HRO.out] at CO; clear hb) | (go_at_call 82; refine CO.out.mono ?_; rintro _ w4 ⟨rfl, hb⟩; have HB4 := hide (HB3.out.trans (hb.mono HB3.out.size)); have CT := hide (lose_any (HE.out.go HB4.out) hq); clear hb) | (go_at_call 61; refine CT.out.mono ?_; rintro _ w5 ⟨rfl, he, hf⟩; have HE3 := hide he; have HF3 := hide hf; clear he hf))
        go_end0
        exact ⟨rfl, by rw [HR.out]; exact HE3.out, (Fr.of_below HB4.out).trans HF3.out⟩
      | false =>
        have HR : Hid (disproveE T e q = e) := hide (by unfold disproveE; rw [hf, hr, ho]; rfl)
        rw [hf] at CF
        have HRF := hide hr
        have HRO := hide ho
        clear h hf ht hr ho
        go_enter Tryz.func59, Tryz.ntmps59
        go_wp2_with (first | (go_at_call 80; refine CF.out.mono ?_; rintro _ w2 ⟨rfl, hb⟩; have HB := hide hb; have CR := hide (refu_any (HEn.out.go hb) hq); rw [HRF.out] at CR; clear hb) | (go_at_call 81; refine CR.out.mono ?_; rintro _ w3 ⟨rfl, hb⟩; have HB3 := hide (HB.out.trans (hb.mono HB.out.size)); have CO := hide (over_any (HEn.out.go HB3.out) hq HT.out); rw [HRO.out] at CO; clear hb) | (go_at_call 82; refine CO.out.mono ?_; rintro _ w4 ⟨rfl, hb⟩; have HB4 := hide (HB3.out.trans (hb.mono HB3.out.size)); clear hb))
        go_end0
        exact ⟨rfl, by rw [HR.out]; exact HE.out.go HB4.out, Fr.of_below HB4.out⟩
end
end Go.Proofs.YthifoamnmhlghaaGreat.Fa
