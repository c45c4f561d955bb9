/- use, drop. -/
import Derived.Test.YthifoamnmhlghaaGreatFs8
namespace Go.Proofs.YthifoamnmhlghaaGreat.Fa
open Go.RowKit

section
variable {N : Nat} {S : Nat → Prop} {A : Ad} {T : Th} {F : List Int} {n : Nat} {e : Es} {tv : Value} {w w' : World}
/-- A rule as it is read whole. -/
theorem rule_whole (h : En N S A T F n e tv w) {r : Nat} (hr : r < T.rules.length) : ∃ (kd : Int) (hm g o : Nat) (bv : Value), headOf T r = (hm : Int) ∧ hm < n ∧ teamB T r = (!decide (kd = 3)) ∧ A.ra = some ⟨g, o, none⟩ ∧ ∀ w' : World, (∀ k, S k → w'.heap[k]? = w.heap[k]?) → w'.cell? ⟨g, o + r * 3, none⟩ = some (.int .i64 kd) ∧ w'.cell? ⟨g, o + r * 3 + 1, none⟩ = some (.int .i64 hm) ∧ w'.cell? ⟨g, o + r * 3 + 2, none⟩ = some bv := by
  obtain ⟨x, hx, hhx, hx0, hx1⟩ := head_in h.pf hr
  obtain ⟨hm, hhm⟩ := Int.eq_ofNat_of_zero_le hx0
  obtain ⟨gr, go, bd, bp, er, hg, x0, x1, x2, -, -, -⟩ := at_R h.ro.ta.rules hx
  refine ⟨x.kind, hm, gr, go, _, by rw [hhx, hhm], by omega, ?_, er, fun w' hk => ⟨by rw [World.cell?_of_block (hk gr (h.ro.n0 gr hg)), x0], by rw [World.cell?_of_block (hk gr (h.ro.n0 gr hg)), x1, hhm], by rw [World.cell?_of_block (hk gr (h.ro.n0 gr hg)), x2]⟩⟩
  unfold teamB
  rw [Int.toNat_natCast, hx]
  rfl
set_option maxRecDepth 100000 in
set_option maxHeartbeats 6400000 in
theorem use_any {r : Nat} (h : Eg N S A T F n e w) (hr : r < T.rules.length) :
    Calls Tryz.prog 64 #[ptr A.K, .int .i64 r] w fun o w' => o = .returned (.tuple #[]) ∧ Eg N S A T F n (useE T e r) w' ∧ Fr (fun k => ¬ S k) w w' := by
  have HE0 := hide h
  obtain ⟨tv, h⟩ := h
  have HE := hide h
  have hrl : T.rules.length ≤ 4096 := h.pf.ok.rl
  obtain ⟨kd, hm, gr, go, bv, hh, hmn, hteam, er, hx1⟩ := rule_whole h hr
  have x1 := (hx1 w fun _ _ => rfl).2.1
  obtain ⟨la, lc, cl, hst⟩ := h.ro.lv.stay hmn
  have k2 := h.bx.get (i := 2) rfl
  have k6 := h.bx.get (i := 6) rfl
  rw [er] at k2
  obtain ⟨l, hl⟩ : ∃ l, rivalsL T (hm : Int) = l := ⟨_, rfl⟩
  rw [hl] at cl hst
  have hll : l.length ≤ 64 := by rw [← hl]; exact rival_len h.pf hmn
  have HRL : Hid (rivalsL T (headOf T r) = l) := hide (by rw [hh, hl])
  have HIN : Hid (∀ p ∈ l, isLit n p) := hide fun p hp => rival_in h.pf hmn (by rw [hl]; exact hp)
  have HST := hide hst
  have HX1 := hide hx1
  have HER := hide er
  have HHH := hide hh
  have HTM := hide hteam
  have HR : Hid (useE T e r = if teamB T r then (if (defendE T (l.foldl (use1 (r : Int)) e) r).ob hm = 0 then tell (defendE T (l.foldl (use1 (r : Int)) e) r) hm 3 else defendE T (l.foldl (use1 (r : Int)) e) r) else l.foldl (use1 (r : Int)) e) := hide (by unfold useE; rw [hh, hl])
  clear h hx1 hst er hh hl hteam
  go_enter Tryz.func64, Tryz.ntmps64
  go_wp2_with fail
  clear k2 k6 cl x1
  go_loopw [26] (fun x wr => ∃ k : Nat, k ≤ l.length ∧ x = .int .i64 k ∧ Hid (Eg N S A T F n ((l.take k).foldl (use1 (r : Int)) e) wr) ∧ Hid (Fr (fun k => ¬ S k) w wr)) (fun x _ => l.length - (intOf x).toNat)
  case atStart => exact ⟨0, by omega, rfl, hide HE0.out, hide (Fr.refl _ _)⟩
  case round =>
    obtain ⟨k, hk, rfl, HEr, HFr⟩ := hrel
    by_cases hlt : k < l.length
    · obtain ⟨p0, hp⟩ := get_at hlt
      obtain ⟨p00, p01⟩ := HIN.out p0 (List.mem_of_getElem? hp)
      obtain ⟨p, rfl⟩ := Int.eq_ofNat_of_zero_le p00
      have hpn : p < n := by omega
      obtain ⟨gx, ox, rfl, cx⟩ := (HST.out wr (HE.out.stay HFr.out)).get hp
      have HNX : Hid ((l.take (k + 1)).foldl (use1 (r : Int)) e = use1 (r : Int) ((l.take k).foldl (use1 (r : Int)) e) p) := hide (fold_snoc hp)
      generalize (l.take k).foldl (use1 (r : Int)) e = e1 at HEr HNX
      have CL := hide (lose_any HEr.out hpn)
      obtain ⟨tv1, hE1⟩ := HEr.out
      have z16 := hE1.bx.get (i := 16) rfl
      have c1 := hE1.ro.lx.get (i := r) (v := sl (A.cr r) l.length) (by rw [List.getElem?_map, List.getElem?_range hr, ← HRL.out]; rfl)
      have c2 := (hE1.cr r hr).get (clsL_at (k := k) (p := (p : Int)) (by rw [HRL.out]; exact hp)).1
      clear hp hE1 p00 p01
      by_cases hx : e1.cd r p = 0
      · have HT : Hid (use1 (r : Int) e1 p = loseE e1 p) := hide (by unfold use1; rw [if_pos hx])
        have hxb : (e1.cd r p == 0) = true := by simpa using hx
        generalize e1.cd r p = x at c2 hxb
        clear hx
        go_wp2_with (go_at_call 61; refine CL.out.mono ?_; rintro _ w4 ⟨rfl, he, hf⟩; have HE4 := hide he; have HF4 := hide hf; clear he hf)
        go_roundw
        case rel => exact ⟨k + 1, by omega, by go_num, hide (by rw [HNX.out, HT.out]; exact HE4.out), hide (HFr.out.trans HF4.out)⟩
        case measure => simp [intOf]; omega
      · have HT : Hid (use1 (r : Int) e1 p = e1) := hide (by unfold use1; rw [if_neg hx])
        have hxb : (e1.cd r p == 0) = false := by simpa using hx
        generalize e1.cd r p = x at c2 hxb
        clear hx
        go_wp2_with fail
        go_roundw
        case rel => exact ⟨k + 1, by omega, by go_num, hide (by rw [HNX.out, HT.out]; exact HEr.out), HFr⟩
        case measure => simp [intOf]; omega
    · have HL : Hid (l.take k = l) := hide (List.take_of_length_le (by omega))
      rw [HL.out] at HEr
      generalize l.foldl (use1 (r : Int)) e = e1 at *
      obtain ⟨tv1, hE1⟩ := HEr.out
      obtain ⟨y0, y1, y2⟩ := HX1.out wr (HE.out.stay HFr.out)
      have k2 := hE1.bx.get (i := 2) rfl
      rw [HER.out] at k2
      have CT := hide (isTeam_any (w := wr) (k := kd) (h := (hm : Int)) (v := bv))
      cases htm : teamB T r with
      | false =>
        have hkd : (!decide (kd = 3)) = false := by rw [← HTM.out]; exact htm
        rw [hkd] at CT
        have HT : Hid (useE T e r = e1) := hide (by rw [HR.out, htm]; rfl)
        clear htm hkd hE1
        go_wp2_with (go_at_call 31; refine CT.out.mono ?_; rintro _ w2 ⟨rfl, hb⟩; have HB := hide hb; clear hb)
        go_end0
        exact ⟨rfl, by rw [HT.out]; exact HEr.out.go HB.out, HFr.out.trans (Fr.of_below HB.out)⟩
      | true =>
        have hkd : (!decide (kd = 3)) = true := by rw [← HTM.out]; exact htm
        rw [hkd] at CT
        have HTT := hide htm
        have HTR : Hid (useE T e r = if (defendE T e1 r).ob hm = 0 then tell (defendE T e1 r) hm 3 else defendE T e1 r) := hide (by rw [HR.out, htm]; rfl)
        clear htm hkd hE1
        go_upto_region 9 with (first | (go_at_call 31; refine CT.out.mono ?_; rintro _ w2 ⟨rfl, hb⟩; have HB := hide hb; have CD := hide (defend_any (HEr.out.go hb) hr HTT.out); clear hb) | (go_at_call 34; refine CD.out.mono ?_; rintro _ w3 ⟨rfl, he, hf⟩; have HE3 := hide he; have HF3 := hide ((HFr.out.trans (Fr.of_below HB.out)).trans hf); clear he hf))
        clear k2 y0 y1 y2 CT CD
        generalize defendE T e1 r = e2 at *
        have CL := hide (tell_any HE3.out hmn tag3)
        obtain ⟨tv3, hE3⟩ := HE3.out
        have z17 := hE3.bx.get (i := 17) rfl
        have c17 := hE3.ob.get (rowI_at hmn)
        clear hE3
        by_cases hx : e2.ob hm = 0
        · have HT : Hid (useE T e r = tell e2 hm 3) := hide (by rw [HTR.out, if_pos hx])
          have hxb : (e2.ob hm == 0) = true := by simpa using hx
          generalize e2.ob hm = x at c17 hxb
          clear hx
          go_wp2_with (go_at_call 56; refine CL.out.mono ?_; rintro _ w4 ⟨rfl, he, hf⟩; have HE4 := hide he; have HF4 := hide hf; clear he hf)
          go_end0
          exact ⟨rfl, by rw [HT.out]; exact HE4.out, HF3.out.trans HF4.out⟩
        · have HT : Hid (useE T e r = e2) := hide (by rw [HTR.out, if_neg hx])
          have hxb : (e2.ob hm == 0) = false := by simpa using hx
          generalize e2.ob hm = x at c17 hxb
          clear hx
          go_wp2_with fail
          go_end0
          exact ⟨rfl, by rw [HT.out]; exact HE3.out, HF3.out⟩
set_option maxRecDepth 100000 in
set_option maxHeartbeats 6400000 in
theorem drop_any {r : Nat} (h : Eg N S A T F n e w) (hr : r < T.rules.length) :
    Calls Tryz.prog 65 #[ptr A.K, .int .i64 r] w fun o w' => o = .returned (.tuple #[]) ∧ Eg N S A T F n (dropE T e r) w' ∧ Fr (fun k => ¬ S k) w w' := by
  have HE0 := hide h
  obtain ⟨tv, h⟩ := h
  have HE := hide h
  have hrl : T.rules.length ≤ 4096 := h.pf.ok.rl
  obtain ⟨kd, hm, gr, go, bv, hh, hmn, hteam, er, hx1⟩ := rule_whole h hr
  have x1 := (hx1 w fun _ _ => rfl).2.1
  obtain ⟨la, lc, cl, hst⟩ := h.ro.lv.stay hmn
  have k2 := h.bx.get (i := 2) rfl
  have k6 := h.bx.get (i := 6) rfl
  rw [er] at k2
  obtain ⟨l, hl⟩ : ∃ l, rivalsL T (hm : Int) = l := ⟨_, rfl⟩
  rw [hl] at cl hst
  have hll : l.length ≤ 64 := by rw [← hl]; exact rival_len h.pf hmn
  have HRL : Hid (rivalsL T (headOf T r) = l) := hide (by rw [hh, hl])
  have HIN : Hid (∀ p ∈ l, isLit n p) := hide fun p hp => rival_in h.pf hmn (by rw [hl]; exact hp)
  have HST := hide hst
  have HX1 := hide hx1
  have HER := hide er
  have HTM := hide hteam
  have HR : Hid (dropE T e r = if teamB T r then (if clsB (withE T (l.foldl (drop1 T (r : Int)) e) r) true hm then loseE (clsE (withE T (l.foldl (drop1 T (r : Int)) e) r) true hm) hm else clsE (withE T (l.foldl (drop1 T (r : Int)) e) r) true hm) else l.foldl (drop1 T (r : Int)) e) := hide (by unfold dropE; rw [hh, hl])
  clear h hx1 hst er hh hl hteam
  go_enter Tryz.func65, Tryz.ntmps65
  go_wp2_with fail
  clear k2 k6 cl x1
  go_loopw [26] (fun x wr => ∃ k : Nat, k ≤ l.length ∧ x = .int .i64 k ∧ Hid (Eg N S A T F n ((l.take k).foldl (drop1 T (r : Int)) e) wr) ∧ Hid (Fr (fun k => ¬ S k) w wr)) (fun x _ => l.length - (intOf x).toNat)
  case atStart => exact ⟨0, by omega, rfl, hide HE0.out, hide (Fr.refl _ _)⟩
  case round =>
    obtain ⟨k, hk, rfl, HEr, HFr⟩ := hrel
    by_cases hlt : k < l.length
    · obtain ⟨p0, hp⟩ := get_at hlt
      obtain ⟨p00, p01⟩ := HIN.out p0 (List.mem_of_getElem? hp)
      obtain ⟨p, rfl⟩ := Int.eq_ofNat_of_zero_le p00
      have hpn : p < n := by omega
      obtain ⟨gx, ox, rfl, cx⟩ := (HST.out wr (HE.out.stay HFr.out)).get hp
      have HNX : Hid ((l.take (k + 1)).foldl (drop1 T (r : Int)) e = drop1 T (r : Int) ((l.take k).foldl (drop1 T (r : Int)) e) p) := hide (fold_snoc hp)
      generalize (l.take k).foldl (drop1 T (r : Int)) e = e1 at HEr HNX
      obtain ⟨tv1, hE1⟩ := HEr.out
      have CC := hide (clear_any hE1 hpn)
      have z16 := hE1.bx.get (i := 16) rfl
      have c1 := hE1.ro.lx.get (i := r) (v := sl (A.cr r) l.length) (by rw [List.getElem?_map, List.getElem?_range hr, ← HRL.out]; rfl)
      have c2 := (hE1.cr r hr).get (clsL_at (k := k) (p := (p : Int)) (by rw [HRL.out]; exact hp)).2
      clear hp hE1 p00 p01
      cases hx : e1.cb r p with
      | false =>
        have HT : Hid (drop1 T (r : Int) e1 p = proveE T (clearE e1 p) p) := hide (by unfold drop1; rw [hx]; rfl)
        rw [hx] at c2
        clear hx
        go_wp2_with (first | (go_at_call 55; refine CC.out.mono ?_; rintro _ w4 ⟨rfl, he, hf⟩; have CV := hide (prove_any (⟨_, he⟩ : Eg N S A T F n _ _) hpn); have HF4 := hide hf; clear he hf) | (go_at_call 58; refine CV.out.mono ?_; rintro _ w5 ⟨rfl, he, hf⟩; have HE5 := hide he; have HF5 := hide (HF4.out.trans hf); clear he hf))
        go_roundw
        case rel => exact ⟨k + 1, by omega, by go_num, hide (by rw [HNX.out, HT.out]; exact HE5.out), hide (HFr.out.trans HF5.out)⟩
        case measure => simp [intOf]; omega
      | true =>
        have HT : Hid (drop1 T (r : Int) e1 p = e1) := hide (by unfold drop1; rw [hx]; rfl)
        rw [hx] at c2
        clear hx
        go_wp2_with fail
        go_roundw
        case rel => exact ⟨k + 1, by omega, by go_num, hide (by rw [HNX.out, HT.out]; exact HEr.out), HFr⟩
        case measure => simp [intOf]; omega
    · have HL : Hid (l.take k = l) := hide (List.take_of_length_le (by omega))
      rw [HL.out] at HEr
      generalize l.foldl (drop1 T (r : Int)) e = e1 at *
      obtain ⟨tv1, hE1⟩ := HEr.out
      obtain ⟨y0, y1, y2⟩ := HX1.out wr (HE.out.stay HFr.out)
      have k2 := hE1.bx.get (i := 2) rfl
      rw [HER.out] at k2
      have CT := hide (isTeam_any (w := wr) (k := kd) (h := (hm : Int)) (v := bv))
      cases htm : teamB T r with
      | false =>
        have hkd : (!decide (kd = 3)) = false := by rw [← HTM.out]; exact htm
        rw [hkd] at CT
        have HT : Hid (dropE T e r = e1) := hide (by rw [HR.out, htm]; rfl)
        clear htm hkd hE1
        go_wp2_with (go_at_call 31; refine CT.out.mono ?_; rintro _ w2 ⟨rfl, hb⟩; have HB := hide hb; clear hb)
        go_end0
        exact ⟨rfl, by rw [HT.out]; exact HEr.out.go HB.out, HFr.out.trans (Fr.of_below HB.out)⟩
      | true =>
        have hkd : (!decide (kd = 3)) = true := by rw [← HTM.out]; exact htm
        rw [hkd] at CT
        have HTT := hide htm
        have HTR : Hid (dropE T e r = if clsB (withE T e1 r) true hm then loseE (clsE (withE T e1 r) true hm) hm else clsE (withE T e1 r) true hm) := hide (by rw [HR.out, htm]; rfl)
        clear htm hkd hE1
        go_upto_region 10 with (first | (go_at_call 31; refine CT.out.mono ?_; rintro _ w2 ⟨rfl, hb⟩; have HB := hide hb; have CD := hide (withdraw_any (HEr.out.go hb) hr HTT.out); clear hb) | (go_at_call 83; refine CD.out.mono ?_; rintro _ w3 ⟨rfl, he, hf⟩; have HE3 := hide he; have HF3 := hide ((HFr.out.trans (Fr.of_below HB.out)).trans hf); clear he hf))
        clear k2 y0 y1 y2 CT CD
        generalize withE T e1 r = e2 at *
        obtain ⟨tv3, hE3⟩ := HE3.out
        have CX := hide (closedD_any hE3 hmn)
        clear hE3
        cases hx : clsB e2 true hm with
        | true =>
          have HT : Hid (dropE T e r = loseE (clsE e2 true hm) hm) := hide (by rw [HTR.out, hx]; rfl)
          rw [hx] at CX
          clear hx
          go_wp2_with (first | (go_at_call 63; refine CX.out.mono ?_; rintro _ w4 ⟨rfl, he, hf⟩; have CL := hide (lose_any (⟨_, he⟩ : Eg N S A T F n _ _) hmn); have HF4 := hide hf; clear he hf) | (go_at_call 61; refine CL.out.mono ?_; rintro _ w5 ⟨rfl, he, hf⟩; have HE5 := hide he; have HF5 := hide (HF4.out.trans hf); clear he hf))
          go_end0
          exact ⟨rfl, by rw [HT.out]; exact HE5.out, HF3.out.trans HF5.out⟩
        | false =>
          have HT : Hid (dropE T e r = clsE e2 true hm) := hide (by rw [HTR.out, hx]; rfl)
          rw [hx] at CX
          clear hx
          go_wp2_with (go_at_call 63; refine CX.out.mono ?_; rintro _ w4 ⟨rfl, he, hf⟩; have HE4 := hide he; have HF4 := hide hf; clear he hf)
          go_end0
          exact ⟨rfl, by rw [HT.out]; exact ⟨_, HE4.out⟩, HF3.out.trans HF4.out⟩
end
end Go.Proofs.YthifoamnmhlghaaGreat.Fa
