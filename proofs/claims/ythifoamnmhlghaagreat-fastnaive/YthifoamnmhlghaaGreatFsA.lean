/- What a told tag does. -/
import Derived.Test.YthifoamnmhlghaaGreatFs9
namespace Go.Proofs.YthifoamnmhlghaaGreat.Fa
open Go.RowKit

section
variable {N : Nat} {S : Nat → Prop} {A : Ad} {T : Th} {F : List Int} {n : Nat} {e : Es} {tv : Value} {w w' : World}
theorem use_in {p : RuleM → Bool} {k : Nat} {z x : Int} (h : x ∈ useK T p k z) : 0 ≤ x ∧ x < (k : Int) := by
  unfold useK at h
  obtain ⟨a, ha, rfl⟩ := List.mem_map.1 h
  have := List.mem_range.1 (List.mem_filter.1 ha).1
  exact ⟨Int.natCast_nonneg _, by show (a : Int) < k; omega⟩
theorem use_len {p : RuleM → Bool} {k : Nat} {z : Int} : (useK T p k z).length ≤ k := by
  unfold useK
  rw [List.length_map]
  exact Nat.le_trans (List.length_filter_le _ _) (by simp)
theorem users_at (h : En N S A T F n e tv w) (b : Bool) {q : Nat} (hq : q < n) : ∃ l a c, usersL T b q = l ∧ l.length ≤ 4096 ∧ (∀ x ∈ l, ∃ r : Nat, x = (r : Int) ∧ r < T.rules.length) ∧ w.cell? ⟨A.us b, q, none⟩ = some (.slice a l.length c) ∧ ∀ w' : World, (∀ k, S k → w'.heap[k]? = w.heap[k]?) → At1 w' a (ints l) := by
  obtain ⟨a, c, h1, h2⟩ := (h.ro.lu b).stay hq
  have hrl := h.pf.ok.rl
  refine ⟨_, a, c, rfl, Nat.le_trans use_len hrl, fun x hx => ?_, h1, h2⟩
  obtain ⟨x0, x1⟩ := use_in hx
  obtain ⟨r, rfl⟩ := Int.eq_ofNat_of_zero_le x0
  exact ⟨r, rfl, by omega⟩
theorem foes_stay (h : En N S A T F n e tv w) {q : Nat} (hq : q < n) : ∃ l a c g o, row T.foes q = l ∧ A.fa = some ⟨g, o, none⟩ ∧ q < T.foes.length ∧ l.length ≤ 64 ∧ (∀ x ∈ l, isLit n x) ∧ (∀ w' : World, (∀ k, S k → w'.heap[k]? = w.heap[k]?) → w'.cell? ⟨g, o + q, none⟩ = some (.slice a l.length c) ∧ At1 w' a (ints l)) := by
  obtain ⟨l, hl⟩ := get_at (l := T.foes) (i := q) (by have := h.pf.ok.fl; have := h.pf.ln; omega)
  have er : row T.foes (q : Int) = l := row_at (by rw [Int.toNat_natCast]; exact hl)
  obtain ⟨g, o, a2, c2, e1, hg, hc, -, -, hI⟩ := at_L h.ro.ta.foes hl
  exact ⟨l, a2, c2, g, o, er, e1, (List.getElem?_eq_some_iff.1 hl).1, by rw [← er]; exact (foe_pw h.pf hq).2, fun x hx => h.pf.foe q hq x (by rw [er]; exact hx), fun w' hk => ⟨by rw [World.cell?_of_block (hk g (h.ro.n0 g hg)), hc], (Ints.keep (fun g hg => hk g (h.ro.n0 g hg)) hI).at1⟩⟩
set_option maxRecDepth 100000 in
set_option maxHeartbeats 6400000 in
theorem plusD_any {q : Nat} (h : Eg N S A T F n e w) (hq : q < n) :
    Calls Tryz.prog 38 #[ptr A.K, .int .i64 q] w fun o w' => o = .returned (.tuple #[]) ∧ Eg N S A T F n (plusDE T e q) w' ∧ Fr (fun k => ¬ S k) w w' := by
  have HE0 := hide h
  obtain ⟨tv, h⟩ := h
  have HE := hide h
  have hrl : T.rules.length ≤ 4096 := h.pf.ok.rl
  have k12 := h.bx.get (i := 12) rfl
  obtain ⟨l, la, lc, el, hll, hin, cl, hst⟩ := users_at h true hq
  have HIN := hide hin
  have HST := hide hst
  have HR : Hid (plusDE T e q = l.foldl (plusD1 T) e) := hide (by unfold plusDE; rw [el])
  clear h hin hst el
  go_enter Tryz.func38, Tryz.ntmps38
  go_wp2_with fail
  clear k12 cl
  go_loopw [15] (fun x wr => ∃ k : Nat, k ≤ l.length ∧ x = .int .i64 k ∧ Hid (Eg N S A T F n ((l.take k).foldl (plusD1 T) e) wr) ∧ Hid (Fr (fun k => ¬ S k) w wr)) (fun x _ => l.length - (intOf x).toNat)
  case atStart => exact ⟨0, by omega, rfl, hide HE0.out, hide (Fr.refl _ _)⟩
  case round =>
    obtain ⟨k, hk, rfl, HEr, HFr⟩ := hrel
    by_cases hlt : k < l.length
    · obtain ⟨r0, hr⟩ := get_at hlt
      obtain ⟨r, rfl, hrR⟩ := HIN.out r0 (List.mem_of_getElem? hr)
      obtain ⟨gx, ox, rfl, cx⟩ := (HST.out wr (HE.out.stay HFr.out)).get hr
      have HNX : Hid ((l.take (k + 1)).foldl (plusD1 T) e = plusD1 T ((l.take k).foldl (plusD1 T) e) r) := hide (fold_snoc hr)
      clear hr
      generalize (l.take k).foldl (plusD1 T) e = e1 at HEr HNX
      obtain ⟨tv1, hE1⟩ := HEr.out
      have CM := hide (metD_any hE1 hrR)
      clear hE1
      by_cases hx : (metE e1 true r).ms true r = 0
      · have HT : Hid (plusD1 T e1 r = useE T (metE e1 true r) r) := hide (by unfold plusD1; exact if_pos hx)
        rw [decide_eq_true hx] at CM
        clear hx
        go_wp2_with (first | (go_at_call 60; refine CM.out.mono ?_; rintro _ w4 ⟨rfl, he, hf⟩; have CV := hide (use_any (⟨_, he⟩ : Eg N S A T F n _ _) hrR); have HF4 := hide hf; clear he hf) | (go_at_call 64; refine CV.out.mono ?_; rintro _ w5 ⟨rfl, he, hf⟩; have HE5 := hide he; have HF5 := hide (HF4.out.trans hf); clear he hf))
        go_roundw
        case rel => exact ⟨k + 1, by omega, by go_num, hide (by rw [HNX.out, HT.out]; exact HE5.out), hide (HFr.out.trans HF5.out)⟩
        case measure => simp [intOf]; omega
      · have HT : Hid (plusD1 T e1 r = metE e1 true r) := hide (by unfold plusD1; exact if_neg hx)
        rw [decide_eq_false hx] at CM
        clear hx
        go_wp2_with (go_at_call 60; refine CM.out.mono ?_; rintro _ w4 ⟨rfl, he, hf⟩; have HE4 := hide he; have HF4 := hide hf; clear he hf)
        go_roundw
        case rel => exact ⟨k + 1, by omega, by go_num, hide (by rw [HNX.out, HT.out]; exact ⟨_, HE4.out⟩), hide (HFr.out.trans HF4.out)⟩
        case measure => simp [intOf]; omega
    · have HL : Hid (l.take k = l) := hide (List.take_of_length_le (by omega))
      go_wp2_with fail
      go_end0
      exact ⟨rfl, by rw [HR.out]; have := HEr.out; rw [HL.out] at this; exact this, HFr.out⟩
set_option maxRecDepth 100000 in
set_option maxHeartbeats 6400000 in
theorem minusD_any {q : Nat} (h : Eg N S A T F n e w) (hq : q < n) :
    Calls Tryz.prog 39 #[ptr A.K, .int .i64 q] w fun o w' => o = .returned (.tuple #[]) ∧ Eg N S A T F n (minusDE T e q) w' ∧ Fr (fun k => ¬ S k) w w' := by
  have HE0 := hide h
  obtain ⟨tv, h⟩ := h
  have HE := hide h
  have hrl : T.rules.length ≤ 4096 := h.pf.ok.rl
  have k12 := h.bx.get (i := 12) rfl
  obtain ⟨l, la, lc, el, hll, hin, cl, hst⟩ := users_at h true hq
  have HIN := hide hin
  have HST := hide hst
  have HR : Hid (minusDE T e q = l.foldl (minusD1 T) e) := hide (by unfold minusDE; rw [el])
  clear h hin hst el
  go_enter Tryz.func39, Tryz.ntmps39
  go_wp2_with fail
  clear k12 cl
  go_loopw [15] (fun x wr => ∃ k : Nat, k ≤ l.length ∧ x = .int .i64 k ∧ Hid (Eg N S A T F n ((l.take k).foldl (minusD1 T) e) wr) ∧ Hid (Fr (fun k => ¬ S k) w wr)) (fun x _ => l.length - (intOf x).toNat)
  case atStart => exact ⟨0, by omega, rfl, hide HE0.out, hide (Fr.refl _ _)⟩
  case round =>
    obtain ⟨k, hk, rfl, HEr, HFr⟩ := hrel
    by_cases hlt : k < l.length
    · obtain ⟨r0, hr⟩ := get_at hlt
      obtain ⟨r, rfl, hrR⟩ := HIN.out r0 (List.mem_of_getElem? hr)
      obtain ⟨gx, ox, rfl, cx⟩ := (HST.out wr (HE.out.stay HFr.out)).get hr
      have HNX : Hid ((l.take (k + 1)).foldl (minusD1 T) e = minusD1 T ((l.take k).foldl (minusD1 T) e) r) := hide (fold_snoc hr)
      clear hr
      generalize (l.take k).foldl (minusD1 T) e = e1 at HEr HNX
      obtain ⟨tv1, hE1⟩ := HEr.out
      have CM := hide (refuteD_any hE1 hrR)
      clear hE1
      cases hx : e1.rf true r with
      | false =>
        have HT : Hid (minusD1 T e1 r = dropE T (refE e1 true r) r) := hide (by unfold minusD1; rw [hx]; rfl)
        rw [hx] at CM
        clear hx
        go_wp2_with (first | (go_at_call 62; refine CM.out.mono ?_; rintro _ w4 ⟨rfl, he, hf⟩; have CV := hide (drop_any (⟨_, he⟩ : Eg N S A T F n _ _) hrR); have HF4 := hide hf; clear he hf) | (go_at_call 65; refine CV.out.mono ?_; rintro _ w5 ⟨rfl, he, hf⟩; have HE5 := hide he; have HF5 := hide (HF4.out.trans hf); clear he hf))
        go_roundw
        case rel => exact ⟨k + 1, by omega, by go_num, hide (by rw [HNX.out, HT.out]; exact HE5.out), hide (HFr.out.trans HF5.out)⟩
        case measure => simp [intOf]; omega
      | true =>
        have HT : Hid (minusD1 T e1 r = e1 ∧ refE e1 true r = e1) := hide ⟨by unfold minusD1; rw [hx]; rfl, by unfold refE; rw [hx]; rfl⟩
        rw [hx] at CM
        clear hx
        go_wp2_with (go_at_call 62; refine CM.out.mono ?_; rintro _ w4 ⟨rfl, he, hf⟩; have HE4 := hide he; have HF4 := hide hf; clear he hf)
        go_roundw
        case rel => exact ⟨k + 1, by omega, by go_num, hide (by rw [HNX.out, HT.out.1]; have := HE4.out; rw [HT.out.2] at this; exact ⟨_, this⟩), hide (HFr.out.trans HF4.out)⟩
        case measure => simp [intOf]; omega
    · have HL : Hid (l.take k = l) := hide (List.take_of_length_le (by omega))
      go_wp2_with fail
      go_end0
      exact ⟨rfl, by rw [HR.out]; have := HEr.out; rw [HL.out] at this; exact this, HFr.out⟩
set_option maxRecDepth 100000 in
set_option maxHeartbeats 6400000 in
theorem plusS_any {q : Nat} (h : Eg N S A T F n e w) (hq : q < n) :
    Calls Tryz.prog 36 #[ptr A.K, .int .i64 q] w fun o w' => o = .returned (.tuple #[]) ∧ Eg N S A T F n (plusSE T e q) w' ∧ Fr (fun k => ¬ S k) w w' := by
  have CT := hide (tell_any h hq tag3)
  obtain ⟨tv, h⟩ := h
  have HE := hide h
  have hrl : T.rules.length ≤ 4096 := h.pf.ok.rl
  obtain ⟨l, la, lc, el, hll, hin, cl, hst⟩ := users_at h false hq
  obtain ⟨fl, fa, fc, gf, of, ef, efa, hqf, hfll, hfin, hfst⟩ := foes_stay h hq
  have HIN := hide hin
  have HST := hide hst
  have HFIN := hide hfin
  have HFST := hide hfst
  have HFA := hide efa
  have HRU := hide fun (r : Nat) (hr : r < T.rules.length) => rule_stay h hr
  have HCL : Hid (∀ w' : World, (∀ k, S k → w'.heap[k]? = w.heap[k]?) → w'.cell? ⟨A.us false, q, none⟩ = some (.slice la l.length lc)) := hide fun w' hk => by rw [World.cell?_of_block (hk _ (h.ro.lu false).1), cl]
  have HR : Hid (plusSE T e q = fl.foldl loseE (l.foldl (plusS1 T) (tell e q 3))) := hide (by unfold plusSE; rw [el, ef])
  clear h hin hst el hfin hfst ef efa cl
  go_enter Tryz.func36, Tryz.ntmps36
  go_upto_region 1 with (go_at_call 56; refine CT.out.mono ?_; rintro _ w2 ⟨rfl, he, hf⟩; have HE2 := hide he; have HF2 := hide hf; clear he hf)
  clear CT
  generalize tell e q 3 = e0 at *
  have c8 : w2.cell? ⟨A.K, 8, none⟩ = some (sl (A.us false) n) := by obtain ⟨tv2, h2⟩ := HE2.out; exact h2.bx.get (i := 8) rfl
  have cl := HCL.out w2 (HE.out.stay HF2.out)
  go_wp2_with fail
  clear c8 cl
  go_loopw [20] (fun x wr => ∃ k : Nat, k ≤ l.length ∧ x = .int .i64 k ∧ Hid (Eg N S A T F n ((l.take k).foldl (plusS1 T) e0) wr) ∧ Hid (Fr (fun k => ¬ S k) w wr)) (fun x _ => l.length - (intOf x).toNat)
  case atStart => exact ⟨0, by omega, rfl, hide HE2.out, HF2⟩
  case round =>
    obtain ⟨k, hk, rfl, HEr, HFr⟩ := hrel
    by_cases hlt : k < l.length
    · obtain ⟨r0, hr⟩ := get_at hlt
      obtain ⟨r, rfl, hrR⟩ := HIN.out r0 (List.mem_of_getElem? hr)
      obtain ⟨gx, ox, rfl, cx⟩ := (HST.out wr (HE.out.stay HFr.out)).get hr
      have HNX : Hid ((l.take (k + 1)).foldl (plusS1 T) e0 = plusS1 T ((l.take k).foldl (plusS1 T) e0) r) := hide (fold_snoc hr)
      clear hr
      generalize (l.take k).foldl (plusS1 T) e0 = e1 at HEr HNX
      obtain ⟨tv1, hE1⟩ := HEr.out
      have CM := hide (metS_any hE1 hrR)
      clear hE1
      by_cases hx : (metE e1 false r).ms false r = 0
      · obtain ⟨hm, gr, go, hh, hmn, er, hx1⟩ := HRU.out r hrR
        have HT : Hid (plusS1 T e1 r = tell (metE e1 false r) hm 1) := hide (by unfold plusS1; rw [hh]; exact if_pos hx)
        rw [decide_eq_true hx] at CM
        have HX1 := hide hx1
        have HER := hide er
        clear hx hx1 er hh
        go_upto_region 5 with (go_at_call 60; refine CM.out.mono ?_; rintro _ w4 ⟨rfl, he, hf⟩; have HE4 := hide he; have CV := hide (tell_any (⟨_, he⟩ : Eg N S A T F n _ _) hmn tag1); have HF4 := hide hf; clear he hf)
        have c2 := HE4.out.bx.get (i := 2) rfl
        rw [HER.out] at c2
        have x1 := HX1.out w4 (HE.out.stay (HFr.out.trans HF4.out))
        go_wp2_with (go_at_call 56; refine CV.out.mono ?_; rintro _ w5 ⟨rfl, he, hf⟩; have HE5 := hide he; have HF5 := hide (HF4.out.trans hf); clear he hf)
        go_roundw
        case rel => exact ⟨k + 1, by omega, by go_num, hide (by rw [HNX.out, HT.out]; exact HE5.out), hide (HFr.out.trans HF5.out)⟩
        case measure => simp [intOf]; omega
      · have HT : Hid (plusS1 T e1 r = metE e1 false r) := hide (by unfold plusS1; exact if_neg hx)
        rw [decide_eq_false hx] at CM
        clear hx
        go_wp2_with (go_at_call 60; refine CM.out.mono ?_; rintro _ w4 ⟨rfl, he, hf⟩; have HE4 := hide he; have HF4 := hide hf; clear he hf)
        go_roundw
        case rel => exact ⟨k + 1, by omega, by go_num, hide (by rw [HNX.out, HT.out]; exact ⟨_, HE4.out⟩), hide (HFr.out.trans HF4.out)⟩
        case measure => simp [intOf]; omega
    · have HL : Hid (l.take k = l) := hide (List.take_of_length_le (by omega))
      rw [HL.out] at HEr
      generalize l.foldl (plusS1 T) e0 = e1 at *
      have c1 : wr.cell? ⟨A.K, 1, none⟩ = some (.slice (some ⟨gf, of, none⟩) T.foes.length A.fc) := by obtain ⟨tv2, h2⟩ := HEr.out; rw [← HFA.out]; exact h2.bx.get (i := 1) rfl
      obtain ⟨cf, -⟩ := HFST.out wr (HE.out.stay HFr.out)
      go_wp2_with fail
      clear c1 cf
      have HE1 := hide HEr.out
      have HF1 := hide HFr.out
      clear HEr HFr
      go_loopw [53] (fun x wz => ∃ j : Nat, j ≤ fl.length ∧ x = .int .i64 j ∧ Hid (Eg N S A T F n ((fl.take j).foldl loseE e1) wz) ∧ Hid (Fr (fun k => ¬ S k) w wz)) (fun x _ => fl.length - (intOf x).toNat)
      case atStart => exact ⟨0, by omega, rfl, hide HE1.out, HF1⟩
      case round =>
        rename World => wz
        obtain ⟨j, hj, rfl, HEr, HFr⟩ := hrel
        by_cases hjl : j < fl.length
        · obtain ⟨p0, hp⟩ := get_at hjl
          obtain ⟨p00, p01⟩ := HFIN.out p0 (List.mem_of_getElem? hp)
          obtain ⟨p, rfl⟩ := Int.eq_ofNat_of_zero_le p00
          obtain ⟨gx, ox, rfl, cx⟩ := (HFST.out wz (HE.out.stay HFr.out)).2.get hp
          have HNX : Hid ((fl.take (j + 1)).foldl loseE e1 = loseE ((fl.take j).foldl loseE e1) p) := hide (fold_snoc hp)
          have CL := hide (lose_any HEr.out (show p < n by omega))
          clear hp
          go_wp2_with (go_at_call 61; refine CL.out.mono ?_; rintro _ w5 ⟨rfl, he, hf⟩; have HE5 := hide he; have HF5 := hide hf; clear he hf)
          go_roundw
          case rel => exact ⟨j + 1, by omega, by go_num, hide (by rw [HNX.out]; exact HE5.out), hide (HFr.out.trans HF5.out)⟩
          case measure => simp [intOf]; omega
        · have HL2 : Hid (fl.take j = fl) := hide (List.take_of_length_le (by omega))
          go_wp2_with fail
          go_end0
          exact ⟨rfl, by rw [HR.out]; have := HEr.out; rw [HL2.out] at this; exact this, HFr.out⟩
end
end Go.Proofs.YthifoamnmhlghaaGreat.Fa
