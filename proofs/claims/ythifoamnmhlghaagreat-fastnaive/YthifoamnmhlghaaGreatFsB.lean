/- minusStrict, begin. -/
import Derived.Test.YthifoamnmhlghaaGreatFsA
namespace Go.Proofs.YthifoamnmhlghaaGreat.Fa
open Go.RowKit

section
variable {N : Nat} {S : Nat → Prop} {A : Ad} {T : Th} {F : List Int} {n : Nat} {e : Es} {tv : Value} {w w' : World}
theorem minusS1_eq {e : Es} {r hm : Int} (hh : headOf T r = hm) : minusS1 T e r = if e.rf false r then e else if clsB (refE e false r) false hm then tell (clsE (refE e false r) false hm) hm 2 else clsE (refE e false r) false hm := by unfold minusS1; rw [hh]
set_option maxRecDepth 100000 in
set_option maxHeartbeats 6400000 in
theorem minusS_any {q : Nat} (h : Eg N S A T F n e w) (hq : q < n) :
    Calls Tryz.prog 37 #[ptr A.K, .int .i64 q] w fun o w' => o = .returned (.tuple #[]) ∧ Eg N S A T F n (minusSE T F e q) w' ∧ Fr (fun k => ¬ S k) w w' := by
  have HE0 := hide h
  obtain ⟨tv, h⟩ := h
  have HE := hide h
  have hrl : T.rules.length ≤ 4096 := h.pf.ok.rl
  have k8 := h.bx.get (i := 8) rfl
  obtain ⟨l, la, lc, el, hll, hin, cl, hst⟩ := users_at h false hq
  obtain ⟨va, vc, cv, hvst⟩ := h.ro.lv.stay hq
  obtain ⟨vl, hvl⟩ : ∃ vl, rivalsL T (q : Int) = vl := ⟨_, rfl⟩
  rw [hvl] at cv hvst
  have hvll : vl.length ≤ 64 := by rw [← hvl]; exact rival_len h.pf hq
  have HVIN : Hid (∀ p ∈ vl, isLit n p) := hide fun p hp => rival_in h.pf hq (by rw [hvl]; exact hp)
  have HVST := hide hvst
  have HCV : Hid (∀ w' : World, (∀ k, S k → w'.heap[k]? = w.heap[k]?) → w'.cell? ⟨A.rv, q, none⟩ = some (.slice va vl.length vc)) := hide fun w' hk => by rw [World.cell?_of_block (hk _ h.ro.lv.1), cv]
  have HIN := hide hin
  have HST := hide hst
  have HRU := hide fun (r : Nat) (hr : r < T.rules.length) => rule_stay h hr
  have HR : Hid (minusSE T F e q = disproveE T (if firmB T F q then vl.foldl (clr1 T) (l.foldl (minusS1 T) e) else l.foldl (minusS1 T) e) q) := hide (by unfold minusSE; rw [el, hvl])
  clear h hin hst el hvst hvl cv
  go_enter Tryz.func37, Tryz.ntmps37
  go_wp2_with fail
  clear k8 cl
  go_loopw [18] (fun x wr => ∃ k : Nat, k ≤ l.length ∧ x = .int .i64 k ∧ Hid (Eg N S A T F n ((l.take k).foldl (minusS1 T) e) wr) ∧ Hid (Fr (fun k => ¬ S k) w wr)) (fun x _ => l.length - (intOf x).toNat)
  case atStart => exact ⟨0, by omega, rfl, hide HE0.out, hide (Fr.refl _ _)⟩
  case round =>
    obtain ⟨k, hk, rfl, HEr, HFr⟩ := hrel
    by_cases hlt : k < l.length
    · obtain ⟨r0, hr⟩ := get_at hlt
      obtain ⟨r, rfl, hrR⟩ := HIN.out r0 (List.mem_of_getElem? hr)
      obtain ⟨gx, ox, rfl, cx⟩ := (HST.out wr (HE.out.stay HFr.out)).get hr
      have HNX : Hid ((l.take (k + 1)).foldl (minusS1 T) e = minusS1 T ((l.take k).foldl (minusS1 T) e) r) := hide (fold_snoc hr)
      clear hr
      generalize (l.take k).foldl (minusS1 T) e = e1 at HEr HNX
      obtain ⟨tv1, hE1⟩ := HEr.out
      have CM := hide (refuteS_any hE1 hrR)
      obtain ⟨hm, gr, go, hh, hmn, er, hx1⟩ := HRU.out r hrR
      have c2 := hE1.bx.get (i := 2) rfl
      rw [er] at c2
      have x1 := hx1 wr (HE.out.stay HFr.out)
      have HM1 := hide (minusS1_eq (e := e1) hh)
      clear hE1 hx1 er hh
      cases hx : e1.rf false r with
      | true =>
        have HT : Hid (minusS1 T e1 r = e1 ∧ refE e1 false r = e1) := hide ⟨by rw [HM1.out, hx]; rfl, by unfold refE; rw [hx]; rfl⟩
        rw [hx] at CM
        clear hx
        go_wp2_with (go_at_call 62; refine CM.out.mono ?_; rintro _ w4 ⟨rfl, he, hf⟩; have HE4 := hide he; have HF4 := hide hf; clear he hf)
        go_roundw
        case rel => exact ⟨k + 1, by omega, by go_num, hide (by rw [HNX.out, HT.out.1]; have := HE4.out; rw [HT.out.2] at this; exact ⟨_, this⟩), hide (HFr.out.trans HF4.out)⟩
        case measure => simp [intOf]; omega
      | false =>
        have HM2 : Hid (minusS1 T e1 r = if clsB (refE e1 false r) false hm then tell (clsE (refE e1 false r) false hm) hm 2 else clsE (refE e1 false r) false hm) := hide (by rw [HM1.out, hx]; rfl)
        rw [hx] at CM
        clear hx HM1
        generalize refE e1 false r = e2 at *
        cases hc : clsB e2 false hm with
        | true =>
          have HT : Hid (minusS1 T e1 r = tell (clsE e2 false hm) hm 2) := hide (by rw [HM2.out, hc]; rfl)
          have HC := hide hc
          clear hc
          go_wp2_with (first | (go_at_call 62; refine CM.out.mono ?_; rintro _ w4 ⟨rfl, he, hf⟩; have CX := hide (closedS_any he hmn); rw [HC.out] at CX; have HF4 := hide hf; clear he hf) | (go_at_call 63; refine CX.out.mono ?_; rintro _ w5 ⟨rfl, he, hf⟩; have CV := hide (tell_any (⟨_, he⟩ : Eg N S A T F n _ _) hmn tag2); have HF5 := hide (HF4.out.trans hf); clear he hf) | (go_at_call 56; refine CV.out.mono ?_; rintro _ w6 ⟨rfl, he, hf⟩; have HE6 := hide he; have HF6 := hide (HF5.out.trans hf); clear he hf))
          go_roundw
          case rel => exact ⟨k + 1, by omega, by go_num, hide (by rw [HNX.out, HT.out]; exact HE6.out), hide (HFr.out.trans HF6.out)⟩
          case measure => simp [intOf]; omega
        | false =>
          have HT : Hid (minusS1 T e1 r = clsE e2 false hm) := hide (by rw [HM2.out, hc]; rfl)
          have HC := hide hc
          clear hc
          go_wp2_with (first | (go_at_call 62; refine CM.out.mono ?_; rintro _ w4 ⟨rfl, he, hf⟩; have CX := hide (closedS_any he hmn); rw [HC.out] at CX; have HF4 := hide hf; clear he hf) | (go_at_call 63; refine CX.out.mono ?_; rintro _ w5 ⟨rfl, he, hf⟩; have HE5 := hide he; have HF5 := hide (HF4.out.trans hf); clear he hf))
          go_roundw
          case rel => exact ⟨k + 1, by omega, by go_num, hide (by rw [HNX.out, HT.out]; exact ⟨_, HE5.out⟩), hide (HFr.out.trans HF5.out)⟩
          case measure => simp [intOf]; omega
    · have HL : Hid (l.take k = l) := hide (List.take_of_length_le (by omega))
      rw [HL.out] at HEr
      generalize l.foldl (minusS1 T) e = e1 at *
      obtain ⟨tv1, hE1⟩ := HEr.out
      have c7 := hE1.bx.get (i := 7) rfl
      have cf := hE1.ro.lf.get (rowB_at hq)
      have c6 := hE1.bx.get (i := 6) rfl
      have cv := HCV.out wr (HE.out.stay HFr.out)
      clear hE1
      cases hfm : firmB T F q with
      | false =>
        have HT : Hid (minusSE T F e q = disproveE T e1 q) := hide (by rw [HR.out, hfm]; rfl)
        rw [hfm] at cf
        have CD := hide (disprove_any HEr.out hq)
        clear hfm
        go_wp2_with (go_at_call 59; refine CD.out.mono ?_; rintro _ w5 ⟨rfl, he, hf⟩; have HE5 := hide he; have HF5 := hide hf; clear he hf)
        go_end0
        exact ⟨rfl, by rw [HT.out]; exact HE5.out, HFr.out.trans HF5.out⟩
      | true =>
        have HT : Hid (minusSE T F e q = disproveE T (vl.foldl (clr1 T) e1) q) := hide (by rw [HR.out, hfm]; rfl)
        rw [hfm] at cf
        clear hfm
        go_wp2_with fail
        clear c7 cf c6 cv
        have HE1 := hide HEr.out
        have HF1 := hide HFr.out
        clear HEr HFr
        go_loopw [67] (fun x wz => ∃ j : Nat, j ≤ vl.length ∧ x = .int .i64 j ∧ Hid (Eg N S A T F n ((vl.take j).foldl (clr1 T) e1) wz) ∧ Hid (Fr (fun k => ¬ S k) w wz)) (fun x _ => vl.length - (intOf x).toNat)
        case atStart => exact ⟨0, by omega, rfl, hide HE1.out, HF1⟩
        case round =>
          rename World => wz
          obtain ⟨j, hj, rfl, HEr, HFr⟩ := hrel
          by_cases hjl : j < vl.length
          · obtain ⟨p0, hp⟩ := get_at hjl
            obtain ⟨p00, p01⟩ := HVIN.out p0 (List.mem_of_getElem? hp)
            obtain ⟨p, rfl⟩ := Int.eq_ofNat_of_zero_le p00
            have hpn : p < n := by omega
            obtain ⟨gx, ox, rfl, cx⟩ := (HVST.out wz (HE.out.stay HFr.out)).get hp
            have HNX : Hid ((vl.take (j + 1)).foldl (clr1 T) e1 = proveE T (clearE ((vl.take j).foldl (clr1 T) e1) p) p) := hide (fold_snoc hp)
            obtain ⟨tv3, h3⟩ := HEr.out
            have CC := hide (clear_any h3 hpn)
            clear hp h3
            go_wp2_with (first | (go_at_call 55; refine CC.out.mono ?_; rintro _ w4 ⟨rfl, he, hf⟩; have CV := hide (prove_any (⟨_, he⟩ : Eg N S A T F n _ _) hpn); have HF4 := hide hf; clear he hf) | (go_at_call 58; refine CV.out.mono ?_; rintro _ w5 ⟨rfl, he, hf⟩; have HE5 := hide he; have HF5 := hide (HF4.out.trans hf); clear he hf))
            go_roundw
            case rel => exact ⟨j + 1, by omega, by go_num, hide (by rw [HNX.out]; exact HE5.out), hide (HFr.out.trans HF5.out)⟩
            case measure => simp [intOf]; omega
          · have HL2 : Hid (vl.take j = vl) := hide (List.take_of_length_le (by omega))
            rw [HL2.out] at HEr
            have CD := hide (disprove_any HEr.out hq)
            go_wp2_with (go_at_call 59; refine CD.out.mono ?_; rintro _ w5 ⟨rfl, he, hf⟩; have HE5 := hide he; have HF5 := hide hf; clear he hf)
            go_end0
            exact ⟨rfl, by rw [HT.out]; exact HE5.out, HFr.out.trans HF5.out⟩
theorem range_snoc {f : Es → Nat → Es} {e : Es} {k : Nat} : (List.range (k + 1)).foldl f e = f ((List.range k).foldl f e) k := by rw [List.range_succ, List.foldl_append]; rfl
set_option maxRecDepth 100000 in
set_option maxHeartbeats 6400000 in
theorem begin_any (h : Eg N S A T F n e w) :
    Calls Tryz.prog 35 #[ptr A.K] w fun o w' => o = .returned (.tuple #[]) ∧ Eg N S A T F n (beginE T F n e) w' ∧ Fr (fun k => ¬ S k) w w' := by
  have HE0 := hide h
  obtain ⟨tv, h⟩ := h
  have HE := hide h
  have hn4 := h.pf.n4
  have k7 := h.bx.get (i := 7) rfl
  clear h
  go_enter Tryz.func35, Tryz.ntmps35
  go_wp2_with fail
  clear k7
  go_loopw [11] (fun x wr => ∃ k : Nat, k ≤ n ∧ x = .int .i64 k ∧ Hid (Eg N S A T F n ((List.range k).foldl (beg1 T F) e) wr) ∧ Hid (Fr (fun k => ¬ S k) w wr)) (fun x _ => n - (intOf x).toNat)
  case atStart => exact ⟨0, by omega, rfl, hide HE0.out, hide (Fr.refl _ _)⟩
  case round =>
    obtain ⟨k, hk, rfl, HEr, HFr⟩ := hrel
    by_cases hlt : k < n
    · have HNX : Hid ((List.range (k + 1)).foldl (beg1 T F) e = beg1 T F ((List.range k).foldl (beg1 T F) e) k) := hide range_snoc
      generalize (List.range k).foldl (beg1 T F) e = e1 at HEr HNX
      have C2 := hide (tell_any HEr.out hlt tag2)
      have C1 := hide (tell_any HEr.out hlt tag1)
      obtain ⟨tv1, hE1⟩ := HEr.out
      have cf := hE1.ro.lf.get (rowB_at hlt)
      have c11 := hE1.bx.get (i := 11) rfl
      have co := (hE1.op false).get (rowI_at hlt)
      clear hE1
      cases hfm : firmB T F k with
      | false =>
        rw [hfm] at cf
        have HT : Hid (beg1 T F e1 k = tell e1 k 2) := hide (by unfold beg1; rw [hfm]; rfl)
        clear hfm
        go_wp2_with (go_at_call 56; refine C2.out.mono ?_; rintro _ w5 ⟨rfl, he, hf⟩; have HE5 := hide he; have HF5 := hide hf; clear he hf)
        go_roundw
        case rel => exact ⟨k + 1, by omega, by go_num, hide (by rw [HNX.out, HT.out]; exact HE5.out), hide (HFr.out.trans HF5.out)⟩
        case measure => simp [intOf]; omega
      | true =>
        rw [hfm] at cf
        by_cases hx : e1.op false k = 0
        · have HT : Hid (beg1 T F e1 k = tell e1 k 1) := hide (by unfold beg1; rw [hfm]; exact if_pos hx)
          have hxb : (e1.op false k == 0) = true := by simpa using hx
          generalize e1.op false k = x at co hxb
          clear hfm hx
          go_wp2_with (go_at_call 56; refine C1.out.mono ?_; rintro _ w5 ⟨rfl, he, hf⟩; have HE5 := hide he; have HF5 := hide hf; clear he hf)
          go_roundw
          case rel => exact ⟨k + 1, by omega, by go_num, hide (by rw [HNX.out, HT.out]; exact HE5.out), hide (HFr.out.trans HF5.out)⟩
          case measure => simp [intOf]; omega
        · have HT : Hid (beg1 T F e1 k = e1) := hide (by unfold beg1; rw [hfm]; exact if_neg hx)
          have hxb : (e1.op false k == 0) = false := by simpa using hx
          generalize e1.op false k = x at co hxb
          clear hfm hx
          go_wp2_with fail
          go_roundw
          case rel => exact ⟨k + 1, by omega, by go_num, hide (by rw [HNX.out, HT.out]; exact HEr.out), HFr⟩
          case measure => simp [intOf]; omega
    · have hkn : k = n := by omega
      have HR : Hid (beginE T F n e = (List.range n).foldl (beg2 T) ((List.range k).foldl (beg1 T F) e)) := hide (by rw [hkn]; rfl)
      clear hkn
      generalize (List.range k).foldl (beg1 T F) e = e1 at *
      have c18 : wr.cell? ⟨A.K, 18, none⟩ = some (sl A.mq n) := by obtain ⟨tv1, hE1⟩ := HEr.out; exact hE1.bx.get (i := 18) rfl
      go_wp2_with fail
      clear c18
      have HE1 := hide HEr.out
      have HF1 := hide HFr.out
      clear HEr HFr
      go_loopw [41] (fun x wz => ∃ j : Nat, j ≤ n ∧ x = .int .i64 j ∧ Hid (Eg N S A T F n ((List.range j).foldl (beg2 T) e1) wz) ∧ Hid (Fr (fun k => ¬ S k) w wz)) (fun x _ => n - (intOf x).toNat)
      case atStart => exact ⟨0, by omega, rfl, hide HE1.out, HF1⟩
      case round =>
        rename World => wz
        obtain ⟨j, hj, rfl, HEr, HFr⟩ := hrel
        by_cases hjl : j < n
        · have HNX : Hid ((List.range (j + 1)).foldl (beg2 T) e1 = beg2 T ((List.range j).foldl (beg2 T) e1) j) := hide range_snoc
          generalize (List.range j).foldl (beg2 T) e1 = e2 at HEr HNX
          have CH : Hid (Calls Tryz.prog 57 #[ptr A.K, .int .i64 j, .int .i64 1] wz fun r w' => r = .returned (.bool (has e2 j 1)) ∧ Below wz.heap.size wz w') := hide (by obtain ⟨tv1, hE1⟩ := HEr.out; exact has_any hE1 hjl tag1)
          cases hh : has e2 j 1 with
          | true =>
            have HT : Hid (beg2 T e2 j = disproveE T (proveE T (tell e2 j 3) j) j) := hide (by unfold beg2; rw [hh]; rfl)
            rw [hh] at CH
            clear hh
            go_wp2_with (first | (go_at_call 57; refine CH.out.mono ?_; rintro _ w3 ⟨rfl, hb⟩; have HB3 := hide (Fr.of_below (Z := fun k => ¬ S k) hb); have CT := hide (tell_any (HEr.out.go hb) hjl tag3); clear hb) | (go_at_call 56; refine CT.out.mono ?_; rintro _ w4 ⟨rfl, he, hf⟩; have CV := hide (prove_any he hjl); have HF4 := hide (HB3.out.trans hf); clear he hf) | (go_at_call 58; refine CV.out.mono ?_; rintro _ w5 ⟨rfl, he, hf⟩; have CD := hide (disprove_any he hjl); have HF5 := hide (HF4.out.trans hf); clear he hf) | (go_at_call 59; refine CD.out.mono ?_; rintro _ w6 ⟨rfl, he, hf⟩; have HE6 := hide he; have HF6 := hide (HF5.out.trans hf); clear he hf))
            go_roundw
            case rel => exact ⟨j + 1, by omega, by go_num, hide (by rw [HNX.out, HT.out]; exact HE6.out), hide (HFr.out.trans HF6.out)⟩
            case measure => simp [intOf]; omega
          | false =>
            have HT : Hid (beg2 T e2 j = disproveE T (proveE T e2 j) j) := hide (by unfold beg2; rw [hh]; rfl)
            rw [hh] at CH
            clear hh
            go_wp2_with (first | (go_at_call 57; refine CH.out.mono ?_; rintro _ w3 ⟨rfl, hb⟩; have HF4 := hide (Fr.of_below (Z := fun k => ¬ S k) hb); have CV := hide (prove_any (HEr.out.go hb) hjl); clear hb) | (go_at_call 58; refine CV.out.mono ?_; rintro _ w5 ⟨rfl, he, hf⟩; have CD := hide (disprove_any he hjl); have HF5 := hide (HF4.out.trans hf); clear he hf) | (go_at_call 59; refine CD.out.mono ?_; rintro _ w6 ⟨rfl, he, hf⟩; have HE6 := hide he; have HF6 := hide (HF5.out.trans hf); clear he hf))
            go_roundw
            case rel => exact ⟨j + 1, by omega, by go_num, hide (by rw [HNX.out, HT.out]; exact HE6.out), hide (HFr.out.trans HF6.out)⟩
            case measure => simp [intOf]; omega
        · have hjn : j = n := by omega
          subst hjn
          go_wp2_with fail
          go_end0
          exact ⟨rfl, by rw [HR.out]; exact HEr.out, HFr.out⟩
end
end Go.Proofs.YthifoamnmhlghaaGreat.Fa
