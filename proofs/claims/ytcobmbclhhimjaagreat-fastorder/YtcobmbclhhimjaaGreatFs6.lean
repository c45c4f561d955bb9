/- isOverruled; disprove. -/
import Derived.Test.YtcobmbclhhimjaaGreatFs4
namespace Go.Proofs.YtcobmbclhhimjaaGreat.Fa
open Go.RowKit

section
variable {N : Nat} {S : Nat → Prop} {A : Ad} {T : Th} {F : List Int} {n : Nat} {e : Es} {tv : Value} {w w' : World}
theorem foe_sym (h : Pf T F n) {q f : Int} (h0 : 0 ≤ q) (h1 : q < (n : Int)) (hf : f ∈ row T.foes q) : q ∈ row T.foes f := by
  obtain ⟨a, rfl⟩ := Int.eq_ofNat_of_zero_le h0
  obtain ⟨l, hl⟩ := get_at (l := T.foes) (i := a) (by have := h.ok.fl; have := h.ln; omega)
  rw [row_at (by rw [Int.toNat_natCast]; exact hl)] at hf
  exact (h.ok.foe a l hl).2.2.2 f hf
theorem rules_head {p : RuleM → Bool} {z : Int} {s : Nat} (h : (s : Int) ∈ rulesL T p z) : headOf T s = z := by
  obtain ⟨a, r, e, hr, -, hh⟩ := mem_rules.1 h
  have : s = a := by omega
  subst this
  unfold headOf
  rw [Int.toNat_natCast, hr]
  exact hh
theorem mem_rival {q p : Int} : p ∈ rivalsL T q ↔ p ∈ row T.foes q ∧ rulesL T kT p ≠ [] := by
  unfold rivalsL
  rw [List.mem_filter]
  simp
/-- A clash's cells. -/
theorem clash_at (h : En N S A T F n e tv w) {s : Nat} (hs : s < T.rules.length) {p : Int} (hp : p ∈ rivalsL T (headOf T s)) : ∃ k : Nat, (rivalsL T (headOf T s))[k]? = some p ∧ k < (rivalsL T (headOf T s)).length ∧ (rivalsL T (headOf T s)).length ≤ 64 ∧ w.cell? ⟨A.cl, s, none⟩ = some (sl (A.cr s) (rivalsL T (headOf T s)).length) ∧ w.cell? ⟨A.cr s, k * 2, none⟩ = some (.int .i64 (e.cd s p)) ∧ w.cell? ⟨A.cr s, k * 2 + 1, none⟩ = some (.bool (e.cb s p)) := by
  obtain ⟨k, hk⟩ := List.mem_iff_getElem?.1 hp
  obtain ⟨x, -, hhx, hx0, hx1⟩ := head_in h.pf hs
  obtain ⟨hm, hhm⟩ := Int.eq_ofNat_of_zero_le hx0
  refine ⟨k, hk, (List.getElem?_eq_some_iff.1 hk).1, ?_, h.ro.lx.get (by rw [List.getElem?_map, List.getElem?_range hs]; rfl), (h.cr s hs).get (clsL_at hk).1, (h.cr s hs).get (clsL_at hk).2⟩
  rw [hhx, hhm]
  exact rival_len h.pf (by omega)
set_option maxRecDepth 100000 in
set_option maxHeartbeats 6400000 in
theorem over_any {q : Nat} (h : En N S A T F n e tv w) (hq : q < n) (ht : rulesL T kT (q : Int) ≠ []) :
    Calls Tryz.prog 124 #[ptr A.K, .int .i64 q] w fun o w' => o = .returned (.bool (overB T e q)) ∧ Below w.heap.size w w' := by
  have k1 := h.bx.get (i := 1) rfl
  have k4 := h.bx.get (i := 4) rfl
  have k16 := h.bx.get (i := 16) rfl
  have hn4 := h.pf.n4
  have hrl : T.rules.length ≤ 4096 := h.pf.ok.rl
  obtain ⟨l, la, lc, er, -, hA, hll, hin, hfl, g, o, e1, cl⟩ := foes_at h hq
  rw [e1] at k1
  obtain ⟨b, hb⟩ : ∃ b, overB T e q = b := ⟨_, rfl⟩
  rw [hb]
  have HO : Hid ((l.drop 0).any (fun f => (rulesL T kA f).any fun s => used e s && decide (e.cd s q = 0)) = b) := hide (by rw [List.drop_zero, ← hb, ← er]; rfl)
  have HE := hide h
  have HA := hide hA
  have HIN := hide hin
  have HSY : Hid (∀ f ∈ l, (q : Int) ∈ rivalsL T f) := hide fun f hf => mem_rival.2 ⟨foe_sym h.pf (q := (q : Int)) (by omega) (by omega) (by rw [er]; exact hf), ht⟩
  clear h hA hb er hin e1
  go_enter Tryz.func124, Tryz.ntmps124
  go_wp2_with fail
  clear k1 cl
  go_loopw [19] (fun x wr => ∃ k : Nat, k ≤ l.length ∧ x = .int .i64 k ∧ Hid ((l.drop k).any (fun f => (rulesL T kA f).any fun s => used e s && decide (e.cd s q = 0)) = b) ∧ Hid (∃ d, wr = w.drewN d)) (fun x _ => l.length - (intOf x).toNat)
  case atStart => exact ⟨0, by omega, rfl, HO, hide ⟨0, rfl⟩⟩
  case round =>
    clear HO
    obtain ⟨k, hk, rfl, HO, HD⟩ := hrel
    by_cases hlt : k < l.length
    · obtain ⟨f, hf⟩ := get_at hlt
      obtain ⟨f0, f1⟩ := HIN.out f (List.mem_of_getElem? hf)
      obtain ⟨fm, rfl⟩ := Int.eq_ofNat_of_zero_le f0
      have hfn : fm < n := by omega
      have HEr : Hid (En N S A T F n e tv wr) := hide (by obtain ⟨d, hd⟩ := HD.out; rw [hd]; exact HE.out.drewN d)
      obtain ⟨gg, oo, rfl, cx⟩ := (show At1 wr la (ints l) from by obtain ⟨d, hd⟩ := HD.out; rw [hd]; exact HA.out).get hf
      have r4 := HEr.out.bx.get (i := 4) rfl
      obtain ⟨ra, rc, cr, hR⟩ := HEr.out.ro.lr.at hfn
      obtain ⟨rl, hrlq⟩ : ∃ rl, rulesL T kA (fm : Int) = rl := ⟨_, rfl⟩
      rw [hrlq] at cr hR
      have hrll : rl.length ≤ 4096 := by rw [← hrlq]; have := rules_len (T := T) (p := kA) (z := (fm : Int)); omega
      have HRIN : Hid (∀ s ∈ rl, ∃ sm : Nat, s = (sm : Int) ∧ sm < T.rules.length ∧ headOf T sm = (fm : Int)) := hide fun s hs => by
        rw [← hrlq] at hs
        obtain ⟨s0, s1⟩ := rules_in hs
        obtain ⟨sm, rfl⟩ := Int.eq_ofNat_of_zero_le s0
        exact ⟨sm, rfl, by omega, rules_head hs⟩
      have HRV : Hid ((q : Int) ∈ rivalsL T (fm : Int)) := hide (HSY.out _ (List.mem_of_getElem? hf))
      obtain ⟨o2, ho2⟩ : ∃ o2, rl.any (fun s => used e s && decide (e.cd s q = 0)) = o2 := ⟨_, rfl⟩
      have HO2 : Hid ((rl.drop 0).any (fun s => used e s && decide (e.cd s q = 0)) = o2) := hide (by rw [List.drop_zero]; exact ho2)
      have HY : Hid (o2 = true → b = true) := hide fun ht2 => by
        rw [← HO.out]
        exact any_yes hf (by show (rulesL T kA (fm : Int)).any _ = true; rw [hrlq, ho2]; exact ht2)
      have HNX : Hid (o2 = false → (l.drop (k + 1)).any (fun f => (rulesL T kA f).any fun s => used e s && decide (e.cd s q = 0)) = b) := hide fun ht2 => by
        rw [← HO.out]
        exact (any_no hf (by show (rulesL T kA (fm : Int)).any _ = false; rw [hrlq, ho2]; exact ht2)).symm
      have HR := hide hR
      clear hf f0 f1 hrlq ho2 HO hR
      go_wp2_with fail
      clear cx r4 cr
      have HDO := hide HD.out
      clear HD HEr
      go_loopw [32] (fun x wz => ∃ j : Nat, j ≤ rl.length ∧ x = .int .i64 j ∧ Hid ((rl.drop j).any (fun s => used e s && decide (e.cd s q = 0)) = o2) ∧ Hid (∃ d, wz = w.drewN d)) (fun x _ => rl.length - (intOf x).toNat)
      case atStart => exact ⟨0, by omega, rfl, HO2, hide HDO.out⟩
      case round =>
        clear HO2
        rename World => wz
        obtain ⟨j, hj, rfl, HO2, HD⟩ := hrel
        by_cases hjl : j < rl.length
        · obtain ⟨s, hs⟩ := get_at hjl
          obtain ⟨sm, rfl, hsm, hhs⟩ := HRIN.out s (List.mem_of_getElem? hs)
          have hEz : En N S A T F n e tv wz := by obtain ⟨d, hd⟩ := HD.out; rw [hd]; exact HE.out.drewN d
          obtain ⟨gg2, oo2, rfl, cy⟩ := (show At1 wz ra (ints rl) from by obtain ⟨d, hd⟩ := HD.out; obtain ⟨d2, hd2⟩ := HDO.out; rw [hd]; rw [hd2] at HR; exact HR.out).get hs
          obtain ⟨p, hp, hpl, hpm, c1, c2, -⟩ := clash_at hEz hsm (p := (q : Int)) (by rw [hhs]; exact HRV.out)
          have z16 := hEz.bx.get (i := 16) rfl
          have CU := hide fun d : Nat => used_any (hEz.drewN d) hsm
          have CP := hide fun d : Nat => placeOf_any (hEz.drewN d) hsm hp
          obtain ⟨rln, hrln⟩ : ∃ rln, (rivalsL T (headOf T (sm : Int))).length = rln := ⟨_, rfl⟩
          rw [hrln] at c1 hpl hpm
          obtain ⟨u, hu⟩ : ∃ u, used e (sm : Int) = u := ⟨_, rfl⟩
          rw [hu] at CU
          obtain ⟨v, hv⟩ : ∃ v, e.cd (sm : Int) q = v := ⟨_, rfl⟩
          rw [hv] at c2
          have HP2 : Hid ((used e (sm : Int) && decide (e.cd (sm : Int) q = 0)) = (u && decide (v = 0))) := hide (by rw [hu, hv])
          have HS := hide hs
          clear hs hEz hp hrln hu hv hhs
          cases u with
          | false =>
            have HN2 : Hid ((rl.drop (j + 1)).any (fun s => used e s && decide (e.cd s q = 0)) = o2) := hide (by rw [← HO2.out]; exact (any_no HS.out (by rw [HP2.out]; rfl)).symm)
            clear HO2 HP2 HS
            go_upto_region 7 with fail
            go_quiet ((go_at_call 121; exact Calls.quiet_of_same (CU.out _)))
            clear CU CP
            go_wp2_with fail
            go_roundw
            case rel => exact ⟨j + 1, by omega, by go_num, HN2, hide (by obtain ⟨d, hd⟩ := HD.out; exact ⟨_, by rw [hd, World.drewN_drewN]⟩)⟩
            case measure => simp [intOf]; omega
          | true =>
            by_cases hv0 : v = 0
            · have hvb : (v == 0) = true := by simpa using hv0
              have HT : Hid (b = true) := hide (HY.out (by rw [← HO2.out]; exact any_yes HS.out (by rw [HP2.out, decide_eq_true hv0]; rfl)))
              clear HO2 HP2 HS hv0
              go_upto_region 7 with fail
              go_quiet (first | (go_at_call 121; exact Calls.quiet_of_same (CU.out _)) | (go_at_call 95; exact Calls.quiet_of (CP.out _)))
              clear CU CP
              go_wp2_with fail
              go_ret
              exact ⟨by rw [HT.out]; rfl, by obtain ⟨d, hd⟩ := HD.out; rw [hd, World.drewN_drewN]; exact below_drewN w _⟩
            · have hvb : (v == 0) = false := by simpa using hv0
              have HN2 : Hid ((rl.drop (j + 1)).any (fun s => used e s && decide (e.cd s q = 0)) = o2) := hide (by rw [← HO2.out]; exact (any_no HS.out (by rw [HP2.out, decide_eq_false hv0]; rfl)).symm)
              clear HO2 HP2 HS hv0
              go_upto_region 7 with fail
              go_quiet (first | (go_at_call 121; exact Calls.quiet_of_same (CU.out _)) | (go_at_call 95; exact Calls.quiet_of (CP.out _)))
              clear CU CP
              go_wp2_with fail
              go_roundw
              case rel => exact ⟨j + 1, by omega, by go_num, HN2, hide (by obtain ⟨d, hd⟩ := HD.out; exact ⟨_, by rw [hd, World.drewN_drewN]⟩)⟩
              case measure => simp [intOf]; omega
        · have HN : Hid (o2 = false) := hide (by rw [← HO2.out, drop_end (by omega)]; rfl)
          have HN3 := hide (HNX.out HN.out)
          go_wp2_with fail
          go_roundw
          case rel => exact ⟨k + 1, by omega, by go_num, HN3, HD⟩
          case measure => simp [intOf]; omega
    · have HN : Hid (b = false) := hide (by rw [← HO.out, drop_end (by omega)]; rfl)
      go_wp2_with fail
      go_ret
      exact ⟨by rw [HN.out]; rfl, by obtain ⟨d, hd⟩ := HD.out; rw [hd]; exact below_drewN w _⟩
set_option maxRecDepth 100000 in
set_option maxHeartbeats 6400000 in
theorem disprove_any {q : Nat} (h : Eg N S A T F n e w) (hq : q < n) :
    Calls Tryz.prog 101 #[ptr A.K, .int .i64 q] w fun o w' => o = .returned (.tuple #[]) ∧ Eg N S A T F n (disproveE T e q) w' ∧ Fr (fun k => ¬ S k) w w' := by
  have HE := hide h
  obtain ⟨tv, h⟩ := h
  have CF := hide (fors_any h hq)
  have HEn := hide h
  cases hf : forsB T e q with
  | true =>
    have HR : Hid (disproveE T e q = loseE e q) := hide (by unfold disproveE; rw [hf]; rfl)
    rw [hf] at CF
    clear h hf
    go_enter Tryz.func101, Tryz.ntmps101
    go_wp2_with (first | (go_at_call 122; refine CF.out.mono ?_; rintro _ w2 ⟨rfl, hb⟩; have HB := hide hb; have CT := hide (lose_any (HE.out.go hb) hq); clear hb) | (go_at_call 103; refine CT.out.mono ?_; rintro _ w3 ⟨rfl, he, hf⟩; have HE3 := hide he; have HF3 := hide hf; clear he hf))
    go_end0
    exact ⟨rfl, by rw [HR.out]; exact HE3.out, (Fr.of_below HB.out).trans HF3.out⟩
  | false =>
    have ht : rulesL T kT (q : Int) ≠ [] := fun e0 => by
      unfold forsB at hf
      rw [e0] at hf
      cases hf
    have HT := hide ht
    cases hr : refuB T e q with
    | true =>
      have HR : Hid (disproveE T e q = loseE e q) := hide (by unfold disproveE; rw [hf, hr]; rfl)
      rw [hf] at CF
      have HRF := hide hr
      clear h hf ht hr
      go_enter Tryz.func101, Tryz.ntmps101
      go_wp2_with (first | (go_at_call 122; refine CF.out.mono ?_; rintro _ w2 ⟨rfl, hb⟩; have HB := hide hb; have CR := hide (refu_any (HEn.out.go hb) hq); rw [HRF.out] at CR; clear hb) | (go_at_call 123; refine CR.out.mono ?_; rintro _ w3 ⟨rfl, hb⟩; have HB3 := hide (HB.out.trans (hb.mono HB.out.size)); have CT := hide (lose_any (HE.out.go HB3.out) hq); clear hb) | (go_at_call 103; refine CT.out.mono ?_; rintro _ w4 ⟨rfl, he, hf⟩; have HE3 := hide he; have HF3 := hide hf; clear he hf))
      go_end0
      exact ⟨rfl, by rw [HR.out]; exact HE3.out, (Fr.of_below HB3.out).trans HF3.out⟩
    | false =>
      cases ho : overB T e q with
      | true =>
        have HR : Hid (disproveE T e q = loseE e q) := hide (by unfold disproveE; rw [hf, hr, ho]; rfl)
        rw [hf] at CF
        have HRF := hide hr
        have HRO := hide ho
        clear h hf ht hr ho
        go_enter Tryz.func101, Tryz.ntmps101
        go_wp2_with (first | (go_at_call 122; refine CF.out.mono ?_; rintro _ w2 ⟨rfl, hb⟩; have HB := hide hb; have CR := hide (refu_any (HEn.out.go hb) hq); rw [HRF.out] at CR; clear hb) | (go_at_call 123; refine CR.out.mono ?_; rintro _ w3 ⟨rfl, hb⟩; have HB3 := hide (HB.out.trans (hb.mono HB.out.size)); have CO := hide (over_any (HEn.out.go HB3.out) hq HT.out); rw [HRO.out] at CO; clear hb) | (go_at_call 124; refine CO.out.mono ?_; rintro _ w4 ⟨rfl, hb⟩; have HB4 := hide (HB3.out.trans (hb.mono HB3.out.size)); have CT := hide (lose_any (HE.out.go HB4.out) hq); clear hb) | (go_at_call 103; refine CT.out.mono ?_; rintro _ w5 ⟨rfl, he, hf⟩; have HE3 := hide he; have HF3 := hide hf; clear he hf))
        go_end0
        exact ⟨rfl, by rw [HR.out]; exact HE3.out, (Fr.of_below HB4.out).trans HF3.out⟩
      | false =>
        have HR : Hid (disproveE T e q = e) := hide (by unfold disproveE; rw [hf, hr, ho]; rfl)
        rw [hf] at CF
        have HRF := hide hr
        have HRO := hide ho
        clear h hf ht hr ho
        go_enter Tryz.func101, Tryz.ntmps101
        go_wp2_with (first | (go_at_call 122; refine CF.out.mono ?_; rintro _ w2 ⟨rfl, hb⟩; have HB := hide hb; have CR := hide (refu_any (HEn.out.go hb) hq); rw [HRF.out] at CR; clear hb) | (go_at_call 123; refine CR.out.mono ?_; rintro _ w3 ⟨rfl, hb⟩; have HB3 := hide (HB.out.trans (hb.mono HB.out.size)); have CO := hide (over_any (HEn.out.go HB3.out) hq HT.out); rw [HRO.out] at CO; clear hb) | (go_at_call 124; refine CO.out.mono ?_; rintro _ w4 ⟨rfl, hb⟩; have HB4 := hide (HB3.out.trans (hb.mono HB3.out.size)); clear hb))
        go_end0
        exact ⟨rfl, by rw [HR.out]; exact HE.out.go HB4.out, Fr.of_below HB4.out⟩
end
end Go.Proofs.YtcobmbclhhimjaaGreat.Fa
/- defend, withdraw. -/
namespace Go.Proofs.YtcobmbclhhimjaaGreat.Fa
open Go.RowKit

section
variable {N : Nat} {S : Nat → Prop} {A : Ad} {T : Th} {F : List Int} {n : Nat} {e : Es} {tv : Value} {w w' : World}
theorem LL.stay {L : Int → List Int} {b : Nat} (h : LL S L n b w) {i : Nat} (hi : i < n) : ∃ a c, w.cell? ⟨b, i, none⟩ = some (.slice a (L i).length c) ∧ ∀ w' : World, (∀ k, S k → w'.heap[k]? = w.heap[k]?) → At1 w' a (ints (L i)) := by
  obtain ⟨_, vs, hf, hl, h⟩ := h
  obtain ⟨a, c, h1, h2, h3⟩ := h i hi
  refine ⟨a, c, hf.get h1, fun w' hk j v hj => ?_⟩
  obtain ⟨g, o, e, hc⟩ := h2 j v hj
  refine ⟨g, o, e, (World.cell?_of_block (hk g (h3 g o e fun e2 => ?_))).trans hc⟩
  rw [e2] at hj
  simp [ints] at hj
theorem En.stay (h : En N S A T F n e tv w) (hf : Fr (fun k => ¬ S k) w w') : ∀ k, S k → w'.heap[k]? = w.heap[k]? := fun k hk => hf.block k (h.kp k hk).1 fun hn => hn hk
/-- A rule's head, and what it beats. -/
theorem rule_stay (h : En N S A T F n e tv w) {r : Nat} (hr : r < T.rules.length) : ∃ (hm g o : Nat), headOf T r = (hm : Int) ∧ hm < n ∧ A.ra = some ⟨g, o, none⟩ ∧ ∀ w' : World, (∀ k, S k → w'.heap[k]? = w.heap[k]?) → w'.cell? ⟨g, o + r * 3 + 1, none⟩ = some (.int .i64 hm) := by
  obtain ⟨x, hx, hhx, hx0, hx1⟩ := head_in h.pf hr
  obtain ⟨hm, hhm⟩ := Int.eq_ofNat_of_zero_le hx0
  obtain ⟨gr, go, bd, bp, er, hg, -, x1, -, -, -, -⟩ := at_R h.ro.ta.rules hx
  exact ⟨hm, gr, go, by rw [hhx, hhm], by omega, er, fun w' hk => by rw [World.cell?_of_block (hk gr (h.ro.n0 gr hg)), x1, hhm]⟩
theorem beats_stay (h : En N S A T F n e tv w) {r : Nat} (hr : r < T.rules.length) : ∃ l a c g o, row T.beats r = l ∧ A.ba = some ⟨g, o, none⟩ ∧ r < T.beats.length ∧ l.length ≤ 4096 ∧ w.cell? ⟨g, o + r, none⟩ = some (.slice a l.length c) ∧ (∀ s ∈ l, ∃ sm : Nat, s = (sm : Int) ∧ sm < T.rules.length ∧ headOf T s ∈ row T.foes (headOf T r)) ∧ l.Nodup ∧ ∀ w' : World, (∀ k, S k → w'.heap[k]? = w.heap[k]?) → At1 w' a (ints l) := by
  have hbl := h.pf.ok.bl
  obtain ⟨l, hl⟩ := get_at (l := T.beats) (i := r) (by omega)
  have er : row T.beats (r : Int) = l := row_at (by rw [Int.toNat_natCast]; exact hl)
  obtain ⟨g, o, a2, c2, e1, -, hc, -, -, hI⟩ := at_L h.ro.ta.beats hl
  obtain ⟨hb1, hb2⟩ := h.pf.ok.beat r l hl
  obtain ⟨hin, hpw⟩ := risesF_in2 (by omega) hb1
  have hrl := h.pf.ok.rl
  have hlen : l.length ≤ T.rules.length := by
    have h2 : (l.map Int.toNat).Nodup := nodup_map (pw_nodup hpw) fun x hx y hy hxy => by have := (hin x hx).1; have := (hin y hy).1; omega
    have := nodup_len (N := T.rules.length) h2 fun k hk => by
      obtain ⟨x, hx, rfl⟩ := List.mem_map.1 hk
      have := hin x hx
      omega
    simpa using this
  refine ⟨l, a2, c2, g, o, er, e1, (List.getElem?_eq_some_iff.1 hl).1, by omega, hc, fun s hs => ?_, pw_nodup hpw, fun w' hk => (Ints.keep (fun g hg => hk g (h.ro.n0 g hg)) hI).at1⟩
  obtain ⟨s0, s1⟩ := hin s hs
  obtain ⟨sm, rfl⟩ := Int.eq_ofNat_of_zero_le (show 0 ≤ s by omega)
  exact ⟨sm, rfl, by omega, hb2 _ hs⟩
theorem team_mem {r : Nat} (ht : teamB T r = true) : (r : Int) ∈ rulesL T kT (headOf T r) := by
  unfold teamB at ht
  rw [Int.toNat_natCast] at ht
  cases hR : T.rules[r]? with
  | none => rw [hR] at ht; cases ht
  | some x =>
    rw [hR] at ht
    refine mem_rules.2 ⟨r, x, rfl, hR, ht, ?_⟩
    unfold headOf
    rw [Int.toNat_natCast, hR]
    rfl
theorem beaten_rival (h : Pf T F n) {r : Nat} (hr : r < T.rules.length) (ht : teamB T r = true) {s : Int} (hs : headOf T s ∈ row T.foes (headOf T r)) : headOf T r ∈ rivalsL T (headOf T s) := by
  obtain ⟨x, hx, hhx, hx0, hx1⟩ := head_in h hr
  refine mem_rival.2 ⟨foe_sym h (by rw [hhx]; exact hx0) (by rw [hhx]; exact hx1) hs, fun e0 => ?_⟩
  have := team_mem ht
  rw [e0] at this
  cases this
theorem fold_snoc {α : Type} {f : Es → α → Es} {e : Es} {l : List α} {k : Nat} {x : α} (hx : l[k]? = some x) : (l.take (k + 1)).foldl f e = f ((l.take k).foldl f e) x := by rw [take_snoc hx, List.foldl_append]; rfl
theorem rivals_nd (h : Pf T F n) {s : Nat} (hs : s < T.rules.length) : (rivalsL T (headOf T s)).Nodup := by
  obtain ⟨x, -, hhx, hx0, hx1⟩ := head_in h hs
  obtain ⟨hm, hhm⟩ := Int.eq_ofNat_of_zero_le hx0
  rw [hhx, hhm]
  exact pw_nodup (rival_pw h (by omega))
set_option maxRecDepth 100000 in
set_option maxHeartbeats 6400000 in
theorem defend_any {r : Nat} (h : Eg N S A T F n e w) (hr : r < T.rules.length) (ht : teamB T r = true) :
    Calls Tryz.prog 71 #[ptr A.K, .int .i64 r] w fun o w' => o = .returned (.tuple #[]) ∧ Eg N S A T F n (defendE T e r) w' ∧ Fr (fun k => ¬ S k) w w' := by
  have HE0 := hide h
  obtain ⟨tv, h⟩ := h
  have HE := hide h
  have hrl : T.rules.length ≤ 4096 := h.pf.ok.rl
  obtain ⟨hm, gr, go, hh, hmn, er, hx1⟩ := rule_stay h hr
  have x1 := hx1 w fun _ _ => rfl
  obtain ⟨l, la, lc, gb, ob, el, eb, hrb, hll, cb, hin, -, hst⟩ := beats_stay h hr
  have k2 := h.bx.get (i := 2) rfl
  have k3 := h.bx.get (i := 3) rfl
  rw [er] at k2
  rw [eb] at k3
  have HIN := hide hin
  have HST := hide hst
  have HRV : Hid (∀ s : Nat, (s : Int) ∈ l → s < T.rules.length ∧ (hm : Int) ∈ rivalsL T (headOf T s)) := hide fun s hs => by
    obtain ⟨sm, e1, h1, h2⟩ := hin s hs
    have : s = sm := by omega
    subst this
    refine ⟨h1, ?_⟩
    have := beaten_rival h.pf hr ht h2
    rw [hh] at this
    exact this
  have HR : Hid (defendE T e r = l.foldl (beat1 (hm : Int)) e) := hide (by unfold defendE; rw [el, hh])
  clear h hx1 hin hst er eb el hh ht
  go_enter Tryz.func71, Tryz.ntmps71
  go_wp2_with fail
  clear k2 k3 cb x1
  go_loopw [28] (fun x wr => ∃ k : Nat, k ≤ l.length ∧ x = .int .i64 k ∧ Hid (Eg N S A T F n ((l.take k).foldl (beat1 (hm : Int)) e) wr) ∧ Hid (Fr (fun k => ¬ S k) w wr)) (fun x _ => l.length - (intOf x).toNat)
  case atStart => exact ⟨0, by omega, rfl, hide HE0.out, hide (Fr.refl _ _)⟩
  case round =>
    obtain ⟨k, hk, rfl, HEr, HFr⟩ := hrel
    by_cases hlt : k < l.length
    · obtain ⟨s0, hs⟩ := get_at hlt
      obtain ⟨s, rfl, hsR, -⟩ := HIN.out s0 (List.mem_of_getElem? hs)
      obtain ⟨-, hrv⟩ := HRV.out s (List.mem_of_getElem? hs)
      obtain ⟨gx, ox, rfl, cx⟩ := (HST.out wr (HE.out.stay HFr.out)).get hs
      have HNX : Hid ((l.take (k + 1)).foldl (beat1 (hm : Int)) e = beat1 (hm : Int) ((l.take k).foldl (beat1 (hm : Int)) e) s) := hide (fold_snoc hs)
      clear hs
      generalize (l.take k).foldl (beat1 (hm : Int)) e = e1 at HEr HNX
      obtain ⟨tv1, hE1⟩ := HEr.out
      clear HEr
      obtain ⟨p, hp, hpl, hpm, c1, -, c3⟩ := clash_at hE1 hsR hrv
      have hnd := rivals_nd hE1.pf hsR
      have z16 := hE1.bx.get (i := 16) rfl
      have CP := hide fun d : Nat => placeOf_any (hE1.drewN d) hsR hp
      obtain ⟨rln, hrln⟩ : ∃ rln, (rivalsL T (headOf T (s : Int))).length = rln := ⟨_, rfl⟩
      rw [hrln] at c1 hpl hpm
      have HE1 := hide hE1
      have HP := hide hp
      have HND := hide hnd
      cases hcb : e1.cb s hm with
      | true =>
        have HT : Hid (beat1 (hm : Int) e1 s = e1) := hide (by unfold beat1; rw [hcb]; rfl)
        rw [hcb] at c3
        clear hcb hE1 hp hnd hrv hrln
        go_upto_region 4 with fail
        go_quiet ((go_at_call 95; exact Calls.quiet_of (CP.out _)))
        go_wp2_with fail
        go_roundw
        case rel => exact ⟨k + 1, by omega, by go_num, hide (by rw [HNX.out, HT.out]; exact ⟨tv1, HE1.out.drewN _⟩), hide (HFr.out.trans (Fr.of_below (below_drewN wr _)))⟩
        case measure => simp [intOf]; omega
      | false =>
        rw [hcb] at c3
        have hs1 := fun d : Nat => (hE1.drewN d).setCb hsR hp hnd true
        have HS2 := hide fun d : Nat => (hs1 d).1.setUp (inc e1.up)
        have HF2 := hide fun d : Nat => ((Fr.of_below (Z := fun k => ¬ S k) (below_drewN wr d)).trans (hs1 d).2).trans (HS2.out d).2
        have CS := hide fun d : Nat => setB_any (w := wr.drewN d) (K := A.K) (g := A.cr s) (i := p * 2 + 1) (v := true) (x := .bool false) c3 ((hE1.drewN d |>.cr s hsR).frz _) ((hs1 d).1.bx.get (i := 21) rfl) ((hs1 d).1.bx.frz 21)
        cases hdr : dropped e1 s with
        | true =>
          have HT : Hid (beat1 (hm : Int) e1 s = { e1 with cb := upd e1.cb s (upd (e1.cb s) hm true), up := inc e1.up }) := hide (by
            unfold beat1
            rw [hcb, if_neg (by decide)]
            have : dropped { e1 with cb := upd e1.cb s (upd (e1.cb s) hm true), up := inc e1.up } s = true := hdr
            show (if dropped { e1 with cb := upd e1.cb s (upd (e1.cb s) hm true), up := inc e1.up } s then _ else _) = _
            rw [if_pos this])
          have CD := hide fun d : Nat => dropped_any (HS2.out d).1 hsR
          have HDD : Hid (dropped { e1 with cb := upd e1.cb s (upd (e1.cb s) hm true), up := inc e1.up } s = true) := hide hdr
          clear hcb hE1 hp hnd hrv hrln hs1 hdr
          go_upto_region 4 with fail
          go_quiet ((go_at_call 95; exact Calls.quiet_of (CP.out _)))
          go_wp2_with (first | (go_at_call 96; refine (CS.out _).mono ?_; rintro _ w2 ⟨rfl, rfl⟩) | (go_at_call 97; refine (CD.out _).mono ?_; rintro _ w3 ⟨hr3, rfl⟩; have hr4 := hr3.trans (by rw [HDD.out]); subst hr4; clear hr3))
          go_roundw
          case rel => exact ⟨k + 1, by omega, by go_num, hide (by rw [HNX.out, HT.out]; exact ⟨tv1, (HS2.out _).1⟩), hide (HFr.out.trans (HF2.out _))⟩
          case measure => simp [intOf]; omega
        | false =>
          have HT : Hid (beat1 (hm : Int) e1 s = clearE { e1 with cb := upd e1.cb s (upd (e1.cb s) hm true), up := inc e1.up } hm) := hide (by
            unfold beat1
            rw [hcb, if_neg (by decide)]
            have : dropped { e1 with cb := upd e1.cb s (upd (e1.cb s) hm true), up := inc e1.up } s = false := hdr
            show (if dropped { e1 with cb := upd e1.cb s (upd (e1.cb s) hm true), up := inc e1.up } s then _ else _) = _
            rw [this, if_neg (by decide)])
          have CD := hide fun d : Nat => dropped_any (HS2.out d).1 hsR
          have HDD : Hid (dropped { e1 with cb := upd e1.cb s (upd (e1.cb s) hm true), up := inc e1.up } s = false) := hide hdr
          have CC := hide fun d : Nat => clear_any (HS2.out d).1 hmn
          clear hcb hE1 hp hnd hrv hrln hs1 hdr
          go_upto_region 4 with fail
          go_quiet ((go_at_call 95; exact Calls.quiet_of (CP.out _)))
          go_wp2_with (first | (go_at_call 96; refine (CS.out _).mono ?_; rintro _ w2 ⟨rfl, rfl⟩) | (go_at_call 97; refine (CD.out _).mono ?_; rintro _ w3 ⟨hr3, rfl⟩; have hr4 := hr3.trans (by rw [HDD.out]); subst hr4; clear hr3) | (go_at_call 98; refine (CC.out _).mono ?_; rintro _ w4 ⟨rfl, he, hf⟩; have HE4 := hide he; have HF4 := hide ((HF2.out _).trans hf); clear he hf))
          go_roundw
          case rel => exact ⟨k + 1, by omega, by go_num, hide (by rw [HNX.out, HT.out]; exact ⟨tv1, HE4.out⟩), hide (HFr.out.trans HF4.out)⟩
          case measure => simp [intOf]; omega
    · have HL : Hid (l.take k = l) := hide (List.take_of_length_le (by omega))
      go_wp2_with fail
      go_end0
      exact ⟨rfl, by rw [HR.out]; have := HEr.out; rw [HL.out] at this; exact this, HFr.out⟩
end
end Go.Proofs.YtcobmbclhhimjaaGreat.Fa
/- withdraw, use, drop. -/
namespace Go.Proofs.YtcobmbclhhimjaaGreat.Fa
open Go.RowKit

section
variable {N : Nat} {S : Nat → Prop} {A : Ad} {T : Th} {F : List Int} {n : Nat} {e : Es} {tv : Value} {w w' : World}
set_option maxRecDepth 100000 in
set_option maxHeartbeats 6400000 in
theorem withdraw_any {r : Nat} (h : Eg N S A T F n e w) (hr : r < T.rules.length) (ht : teamB T r = true) :
    Calls Tryz.prog 125 #[ptr A.K, .int .i64 r] w fun o w' => o = .returned (.tuple #[]) ∧ Eg N S A T F n (withE T e r) w' ∧ Fr (fun k => ¬ S k) w w' := by
  have HE0 := hide h
  obtain ⟨tv, h⟩ := h
  have HE := hide h
  have hrl : T.rules.length ≤ 4096 := h.pf.ok.rl
  obtain ⟨hm, gr, go, hh, hmn, er, hx1⟩ := rule_stay h hr
  have x1 := hx1 w fun _ _ => rfl
  obtain ⟨l, la, lc, gb, ob, el, eb, hrb, hll, cb, hin, -, hst⟩ := beats_stay h hr
  have k2 := h.bx.get (i := 2) rfl
  have k3 := h.bx.get (i := 3) rfl
  rw [er] at k2
  rw [eb] at k3
  have HIN := hide hin
  have HST := hide hst
  have HRV : Hid (∀ s : Nat, (s : Int) ∈ l → s < T.rules.length ∧ (hm : Int) ∈ rivalsL T (headOf T s)) := hide fun s hs => by
    obtain ⟨sm, e1, h1, h2⟩ := hin s hs
    have : s = sm := by omega
    subst this
    refine ⟨h1, ?_⟩
    have := beaten_rival h.pf hr ht h2
    rw [hh] at this
    exact this
  have HR : Hid (withE T e r = l.foldl (with1 (hm : Int)) e) := hide (by unfold withE; rw [el, hh])
  clear h hx1 hin hst er eb el hh ht
  go_enter Tryz.func125, Tryz.ntmps125
  go_wp2_with fail
  clear k2 k3 cb x1
  have hfol : Tryz.prog.follows .mixedOrders = true := by kernel_rfl
  go_loopw [28] (fun x wr => ∃ k : Nat, k ≤ l.length ∧ x = .int .i64 k ∧ Hid (Eg N S A T F n ((l.take k).foldl (with1 (hm : Int)) e) wr) ∧ Hid (Fr (fun k => ¬ S k) w wr)) (fun x _ => l.length - (intOf x).toNat)
  case atStart => exact ⟨0, by omega, rfl, hide HE0.out, hide (Fr.refl _ _)⟩
  case round =>
    obtain ⟨k, hk, rfl, HEr, HFr⟩ := hrel
    by_cases hlt : k < l.length
    · obtain ⟨s0, hs⟩ := get_at hlt
      obtain ⟨s, rfl, hsR, -⟩ := HIN.out s0 (List.mem_of_getElem? hs)
      obtain ⟨-, hrv⟩ := HRV.out s (List.mem_of_getElem? hs)
      obtain ⟨gx, ox, rfl, cx⟩ := (HST.out wr (HE.out.stay HFr.out)).get hs
      have HNX : Hid ((l.take (k + 1)).foldl (with1 (hm : Int)) e = with1 (hm : Int) ((l.take k).foldl (with1 (hm : Int)) e) s) := hide (fold_snoc hs)
      clear hs
      generalize (l.take k).foldl (with1 (hm : Int)) e = e1 at HEr HNX
      obtain ⟨tv1, hE1⟩ := HEr.out
      clear HEr
      obtain ⟨p, hp, hpl, hpm, c1, c2, -⟩ := clash_at hE1 hsR hrv
      have hnd := rivals_nd hE1.pf hsR
      have z16 := hE1.bx.get (i := 16) rfl
      have CP := hide fun d : Nat => placeOf_any (hE1.drewN d) hsR hp
      obtain ⟨rln, hrln⟩ : ∃ rln, (rivalsL T (headOf T (s : Int))).length = rln := ⟨_, rfl⟩
      rw [hrln] at c1 hpl hpm
      obtain ⟨v', hv'⟩ : ∃ v', IntKind.i64.wrap (e1.cd s hm - 1) = v' := ⟨_, rfl⟩
      have HV : Hid (dec (e1.cd s hm) = v') := hide hv'
      have HE1 := hide hE1
      have HP := hide hp
      have HND := hide hnd
      obtain ⟨e2, he2⟩ : ∃ e2 : Es, e2 = { e1 with cd := upd e1.cd s (upd (e1.cd s) hm v'), up := inc e1.up } := ⟨_, rfl⟩
      have HW1 : Hid (with1 (hm : Int) e1 s = if decide (v' = 0) && used e2 s then loseE e2 hm else e2) := hide (by
        unfold with1
        rw [HV.out, he2]
        simp only [upd_at])
      have HQD := hide fun d : Nat => (hE1.drewN d).setCd hsR hp hnd v'
      have HS2 : Hid (∀ d : Nat, En N S A T F n e2 tv1 (((wr.drewN d).setCell ⟨A.cr s, p * 2, none⟩ (.int .i64 v')).setCell ⟨A.K, 21, none⟩ (.int .i64 (inc e1.up)))) := hide fun d => by
        rw [he2]
        exact ((HQD.out d).1.setUp (inc e1.up)).1
      have HF2 := hide fun d : Nat => ((Fr.of_below (Z := fun k => ¬ S k) (below_drewN wr d)).trans (HQD.out d).2).trans ((HQD.out d).1.setUp (inc e1.up)).2
      have CS := hide fun d : Nat => setI_any (w := wr.drewN d) (K := A.K) (g := A.cr s) (i := p * 2) (v := v') (x := .int .i64 (e1.cd s hm)) c2 ((hE1.drewN d |>.cr s hsR).frz _) ((HQD.out d).1.bx.get (i := 21) rfl) ((HQD.out d).1.bx.frz 21)
      have HC9 : Hid (∀ d : Nat, (((wr.drewN d).setCell ⟨A.cr s, p * 2, none⟩ (.int .i64 v')).setCell ⟨A.K, 21, none⟩ (.int .i64 (inc e1.up))).cell? ⟨A.cr s, p * 2, none⟩ = some (.int .i64 v')) := hide fun d => by
        have := ((HS2.out d).cr s hsR).get (clsL_at hp).1
        rw [he2] at this
        simp only [upd_at] at this
        exact this
      have CU := hide fun d : Nat => used_any (HS2.out d) hsR
      have HEg := hide fun d : Nat => (⟨tv1, HS2.out d⟩ : Eg N S A T F n e2 _)
      generalize e1.cd s hm = x at c2 hv' CS
      clear hE1 hp hnd hrv hrln he2
      go_upto_region 4 with fail
      go_quiet ((go_at_call 95; exact Calls.quiet_of (CP.out _)))
      rename Nat => d0
      clear CP z16 c1 cx
      go_upto_region 5 with fail
      refine region_last (by assumption) (by kernel_rfl) (by kernel_rfl) (by kernel_rfl) (by kernel_rfl) ?_
      dsimp only [List.dropLast, List.getLast, List.cons_append, List.nil_append]
      repeat (go_big_quiet_step (fail))
      refine wpQuiet_nil ?_
      rintro _ ⟨nq, rfl⟩
      rw [World.drewN_drewN]
      generalize d0 + nq = dd
      have CSd := hide (CS.out dd)
      have c9 := HC9.out dd
      have CUd := hide (CU.out dd)
      have HEd := hide (HEg.out dd)
      have HFd := hide (HF2.out dd)
      clear CS HC9 CU HEg HF2 HS2 HQD c2 hv'
      by_cases hv0 : v' = 0
      · have hvb : (v' == 0) = true := by simpa using hv0
        cases hu : used e2 s with
        | true =>
          have HT : Hid (with1 (hm : Int) e1 s = loseE e2 hm) := hide (by rw [HW1.out, hu, decide_eq_true hv0]; rfl)
          have CL := hide (lose_any HEd.out hmn)
          rw [hu] at CUd
          clear hu hv0
          go_wp2_with (first | (go_at_call 108; refine CSd.out.mono ?_; rintro _ w2 ⟨rfl, rfl⟩) | (go_at_call 121; refine CUd.out.mono ?_; rintro _ w3 ⟨rfl, rfl⟩) | (go_at_call 103; refine CL.out.mono ?_; rintro _ w4 ⟨rfl, he, hf⟩; have HE4 := hide he; have HF4 := hide (HFd.out.trans hf); clear he hf))
          go_roundw
          case rel => exact ⟨k + 1, by omega, by go_num, hide (by rw [HNX.out, HT.out]; exact HE4.out), hide (HFr.out.trans HF4.out)⟩
          case measure => simp [intOf]; omega
        | false =>
          have HT : Hid (with1 (hm : Int) e1 s = e2) := hide (by rw [HW1.out, hu, decide_eq_true hv0]; rfl)
          rw [hu] at CUd
          clear hu hv0
          go_wp2_with (first | (go_at_call 108; refine CSd.out.mono ?_; rintro _ w2 ⟨rfl, rfl⟩) | (go_at_call 121; refine CUd.out.mono ?_; rintro _ w3 ⟨rfl, rfl⟩))
          go_roundw
          case rel => exact ⟨k + 1, by omega, by go_num, hide (by rw [HNX.out, HT.out]; exact HEd.out), hide (HFr.out.trans HFd.out)⟩
          case measure => simp [intOf]; omega
      · have hvb : (v' == 0) = false := by simpa using hv0
        have HT : Hid (with1 (hm : Int) e1 s = e2) := hide (by rw [HW1.out, decide_eq_false hv0]; rfl)
        clear hv0
        go_wp2_with (go_at_call 108; refine CSd.out.mono ?_; rintro _ w2 ⟨rfl, rfl⟩)
        go_roundw
        case rel => exact ⟨k + 1, by omega, by go_num, hide (by rw [HNX.out, HT.out]; exact HEd.out), hide (HFr.out.trans HFd.out)⟩
        case measure => simp [intOf]; omega
    · have HL : Hid (l.take k = l) := hide (List.take_of_length_le (by omega))
      go_wp2_with fail
      go_end0
      exact ⟨rfl, by rw [HR.out]; have := HEr.out; rw [HL.out] at this; exact this, HFr.out⟩
set_option maxRecDepth 100000 in
set_option maxHeartbeats 3200000 in
theorem isTeam_any {k h : Int} {v : Value} : Calls Tryz.prog 68 #[.agg #[.int .i64 k, .int .i64 h, v]] w fun o w' => o = .returned (.bool (!decide (k = 3))) ∧ Below w.heap.size w w' := by
  have hB := below_new w (.cells #[.int .i64 k, .int .i64 h, v] 81)
  have c0 : (w.alloc (.cells #[.int .i64 k, .int .i64 h, v] 81)).cell? ⟨w.heap.size, 0, none⟩ = some (.int .i64 k) := cell_of_row _ _ 0 _ _ _ (heap_alloc_new w _)
  have HB := hide hB
  have HK : Hid ((!decide (k = 3)) = (k != 3)) := hide (by by_cases e0 : k = 3 <;> simp [e0])
  clear hB
  go_enter Tryz.func68, Tryz.ntmps68
  go_wp2_with fail
  go_ret
  exact ⟨by rw [HK.out]; rfl, HB.out⟩
end
end Go.Proofs.YtcobmbclhhimjaaGreat.Fa
