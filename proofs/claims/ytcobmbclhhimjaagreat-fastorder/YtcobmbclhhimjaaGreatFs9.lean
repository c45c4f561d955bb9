/- use, drop. -/
import Derived.Test.YtcobmbclhhimjaaGreatFs6
namespace Go.Proofs.YtcobmbclhhimjaaGreat.Fa
open Go.RowKit

section
variable {N : Nat} {S : Nat → Prop} {A : Ad} {T : Th} {F : List Int} {n : Nat} {e : Es} {tv : Value} {w w' : World}
/-- A rule as it is read whole. -/
theorem rule_whole (h : En N S A T F n e tv w) {r : Nat} (hr : r < T.rules.length) : ∃ (kd : Int) (hm g o : Nat) (bv : Value), headOf T r = (hm : Int) ∧ hm < n ∧ teamB T r = (!decide (kd = 3)) ∧ A.ra = some ⟨g, o, none⟩ ∧ ∀ w' : World, (∀ k, S k → w'.heap[k]? = w.heap[k]?) → w'.cell? ⟨g, o + r * 3, none⟩ = some (.int .i64 kd) ∧ w'.cell? ⟨g, o + r * 3 + 1, none⟩ = some (.int .i64 hm) ∧ w'.cell? ⟨g, o + r * 3 + 2, none⟩ = some bv := by
  obtain ⟨x, hx, hhx, hx0, hx1⟩ := head_in h.pf hr
  obtain ⟨hm, hhm⟩ := Int.eq_ofNat_of_zero_le hx0
  obtain ⟨gr, go, bd, bp, er, hg, x0, x1, x2, -, -, -⟩ := at_R h.ro.ta.rules hx
  refine ⟨x.kind, hm, gr, go, _, by rw [hhx, hhm], by omega, ?_, er, fun w' hk => ⟨by rw [World.cell?_of_block (hk gr (h.ro.n0 gr hg)), x0], by rw [World.cell?_of_block (hk gr (h.ro.n0 gr hg)), x1, hhm], by rw [World.cell?_of_block (hk gr (h.ro.n0 gr hg)), x2]⟩⟩
  unfold teamB
  rw [Int.toNat_natCast, hx]
  rfl
set_option maxRecDepth 100000 in
set_option maxHeartbeats 6400000 in
theorem use_any {r : Nat} (h : Eg N S A T F n e w) (hr : r < T.rules.length) :
    Calls Tryz.prog 106 #[ptr A.K, .int .i64 r] w fun o w' => o = .returned (.tuple #[]) ∧ Eg N S A T F n (useE T e r) w' ∧ Fr (fun k => ¬ S k) w w' := by
  have HE0 := hide h
  obtain ⟨tv, h⟩ := h
  have HE := hide h
  have hrl : T.rules.length ≤ 4096 := h.pf.ok.rl
  obtain ⟨kd, hm, gr, go, bv, hh, hmn, hteam, er, hx1⟩ := rule_whole h hr
  have x1 := (hx1 w fun _ _ => rfl).2.1
  obtain ⟨la, lc, cl, hst⟩ := h.ro.lv.stay hmn
  have k2 := h.bx.get (i := 2) rfl
  have k6 := h.bx.get (i := 6) rfl
  rw [er] at k2
  obtain ⟨l, hl⟩ : ∃ l, rivalsL T (hm : Int) = l := ⟨_, rfl⟩
  rw [hl] at cl hst
  have hll : l.length ≤ 64 := by rw [← hl]; exact rival_len h.pf hmn
  have HRL : Hid (rivalsL T (headOf T r) = l) := hide (by rw [hh, hl])
  have HIN : Hid (∀ p ∈ l, isLit n p) := hide fun p hp => rival_in h.pf hmn (by rw [hl]; exact hp)
  have HST := hide hst
  have HX1 := hide hx1
  have HER := hide er
  have HHH := hide hh
  have HTM := hide hteam
  have HR : Hid (useE T e r = if teamB T r then (if (defendE T (l.foldl (use1 (r : Int)) e) r).ob hm = 0 then tell (defendE T (l.foldl (use1 (r : Int)) e) r) hm 3 else defendE T (l.foldl (use1 (r : Int)) e) r) else l.foldl (use1 (r : Int)) e) := hide (by unfold useE; rw [hh, hl])
  clear h hx1 hst er hh hl hteam
  go_enter Tryz.func106, Tryz.ntmps106
  go_wp2_with fail
  clear k2 k6 cl x1
  go_loopw [26] (fun x wr => ∃ k : Nat, k ≤ l.length ∧ x = .int .i64 k ∧ Hid (Eg N S A T F n ((l.take k).foldl (use1 (r : Int)) e) wr) ∧ Hid (Fr (fun k => ¬ S k) w wr)) (fun x _ => l.length - (intOf x).toNat)
  case atStart => exact ⟨0, by omega, rfl, hide HE0.out, hide (Fr.refl _ _)⟩
  case round =>
    obtain ⟨k, hk, rfl, HEr, HFr⟩ := hrel
    by_cases hlt : k < l.length
    · obtain ⟨p0, hp⟩ := get_at hlt
      obtain ⟨p00, p01⟩ := HIN.out p0 (List.mem_of_getElem? hp)
      obtain ⟨p, rfl⟩ := Int.eq_ofNat_of_zero_le p00
      have hpn : p < n := by omega
      obtain ⟨gx, ox, rfl, cx⟩ := (HST.out wr (HE.out.stay HFr.out)).get hp
      have HNX : Hid ((l.take (k + 1)).foldl (use1 (r : Int)) e = use1 (r : Int) ((l.take k).foldl (use1 (r : Int)) e) p) := hide (fold_snoc hp)
      generalize (l.take k).foldl (use1 (r : Int)) e = e1 at HEr HNX
      have CL := hide (lose_any HEr.out hpn)
      obtain ⟨tv1, hE1⟩ := HEr.out
      have z16 := hE1.bx.get (i := 16) rfl
      have c1 := hE1.ro.lx.get (i := r) (v := sl (A.cr r) l.length) (by rw [List.getElem?_map, List.getElem?_range hr, ← HRL.out]; rfl)
      have c2 := (hE1.cr r hr).get (clsL_at (k := k) (p := (p : Int)) (by rw [HRL.out]; exact hp)).1
      clear hp hE1 p00 p01
      by_cases hx : e1.cd r p = 0
      · have HT : Hid (use1 (r : Int) e1 p = loseE e1 p) := hide (by unfold use1; rw [if_pos hx])
        have hxb : (e1.cd r p == 0) = true := by simpa using hx
        generalize e1.cd r p = x at c2 hxb
        clear hx
        go_wp2_with (go_at_call 103; refine CL.out.mono ?_; rintro _ w4 ⟨rfl, he, hf⟩; have HE4 := hide he; have HF4 := hide hf; clear he hf)
        go_roundw
        case rel => exact ⟨k + 1, by omega, by go_num, hide (by rw [HNX.out, HT.out]; exact HE4.out), hide (HFr.out.trans HF4.out)⟩
        case measure => simp [intOf]; omega
      · have HT : Hid (use1 (r : Int) e1 p = e1) := hide (by unfold use1; rw [if_neg hx])
        have hxb : (e1.cd r p == 0) = false := by simpa using hx
        generalize e1.cd r p = x at c2 hxb
        clear hx
        go_wp2_with fail
        go_roundw
        case rel => exact ⟨k + 1, by omega, by go_num, hide (by rw [HNX.out, HT.out]; exact HEr.out), HFr⟩
        case measure => simp [intOf]; omega
    · have HL : Hid (l.take k = l) := hide (List.take_of_length_le (by omega))
      rw [HL.out] at HEr
      generalize l.foldl (use1 (r : Int)) e = e1 at *
      obtain ⟨tv1, hE1⟩ := HEr.out
      obtain ⟨y0, y1, y2⟩ := HX1.out wr (HE.out.stay HFr.out)
      have k2 := hE1.bx.get (i := 2) rfl
      rw [HER.out] at k2
      have CT := hide (isTeam_any (w := wr) (k := kd) (h := (hm : Int)) (v := bv))
      cases htm : teamB T r with
      | false =>
        have hkd : (!decide (kd = 3)) = false := by rw [← HTM.out]; exact htm
        rw [hkd] at CT
        have HT : Hid (useE T e r = e1) := hide (by rw [HR.out, htm]; rfl)
        clear htm hkd hE1
        go_wp2_with (go_at_call 68; refine CT.out.mono ?_; rintro _ w2 ⟨rfl, hb⟩; have HB := hide hb; clear hb)
        go_end0
        exact ⟨rfl, by rw [HT.out]; exact HEr.out.go HB.out, HFr.out.trans (Fr.of_below HB.out)⟩
      | true =>
        have hkd : (!decide (kd = 3)) = true := by rw [← HTM.out]; exact htm
        rw [hkd] at CT
        have HTT := hide htm
        have HTR : Hid (useE T e r = if (defendE T e1 r).ob hm = 0 then tell (defendE T e1 r) hm 3 else defendE T e1 r) := hide (by rw [HR.out, htm]; rfl)
        clear htm hkd hE1
        go_upto_region 9 with (first | (go_at_call 68; refine CT.out.mono ?_; rintro _ w2 ⟨rfl, hb⟩; have HB := hide hb; have CD := hide (defend_any (HEr.out.go hb) hr HTT.out); clear hb) | (go_at_call 71; refine CD.out.mono ?_; rintro _ w3 ⟨rfl, he, hf⟩; have HE3 := hide he; have HF3 := hide ((HFr.out.trans (Fr.of_below HB.out)).trans hf); clear he hf))
        clear k2 y0 y1 y2 CT CD
        generalize defendE T e1 r = e2 at *
        have CL := hide (tell_any HE3.out hmn tag3)
        obtain ⟨tv3, hE3⟩ := HE3.out
        have z17 := hE3.bx.get (i := 17) rfl
        have c17 := hE3.ob.get (rowI_at hmn)
        clear hE3
        by_cases hx : e2.ob hm = 0
        · have HT : Hid (useE T e r = tell e2 hm 3) := hide (by rw [HTR.out, if_pos hx])
          have hxb : (e2.ob hm == 0) = true := by simpa using hx
          generalize e2.ob hm = x at c17 hxb
          clear hx
          go_wp2_with (go_at_call 99; refine CL.out.mono ?_; rintro _ w4 ⟨rfl, he, hf⟩; have HE4 := hide he; have HF4 := hide hf; clear he hf)
          go_end0
          exact ⟨rfl, by rw [HT.out]; exact HE4.out, HF3.out.trans HF4.out⟩
        · have HT : Hid (useE T e r = e2) := hide (by rw [HTR.out, if_neg hx])
          have hxb : (e2.ob hm == 0) = false := by simpa using hx
          generalize e2.ob hm = x at c17 hxb
          clear hx
          go_wp2_with fail
          go_end0
          exact ⟨rfl, by rw [HT.out]; exact HE3.out, HF3.out⟩
set_option maxRecDepth 100000 in
set_option maxHeartbeats 6400000 in
theorem drop_any {r : Nat} (h : Eg N S A T F n e w) (hr : r < T.rules.length) :
    Calls Tryz.prog 107 #[ptr A.K, .int .i64 r] w fun o w' => o = .returned (.tuple #[]) ∧ Eg N S A T F n (dropE T e r) w' ∧ Fr (fun k => ¬ S k) w w' := by
  have HE0 := hide h
  obtain ⟨tv, h⟩ := h
  have HE := hide h
  have hrl : T.rules.length ≤ 4096 := h.pf.ok.rl
  obtain ⟨kd, hm, gr, go, bv, hh, hmn, hteam, er, hx1⟩ := rule_whole h hr
  have x1 := (hx1 w fun _ _ => rfl).2.1
  obtain ⟨la, lc, cl, hst⟩ := h.ro.lv.stay hmn
  have k2 := h.bx.get (i := 2) rfl
  have k6 := h.bx.get (i := 6) rfl
  rw [er] at k2
  obtain ⟨l, hl⟩ : ∃ l, rivalsL T (hm : Int) = l := ⟨_, rfl⟩
  rw [hl] at cl hst
  have hll : l.length ≤ 64 := by rw [← hl]; exact rival_len h.pf hmn
  have HRL : Hid (rivalsL T (headOf T r) = l) := hide (by rw [hh, hl])
  have HIN : Hid (∀ p ∈ l, isLit n p) := hide fun p hp => rival_in h.pf hmn (by rw [hl]; exact hp)
  have HST := hide hst
  have HX1 := hide hx1
  have HER := hide er
  have HTM := hide hteam
  have HR : Hid (dropE T e r = if teamB T r then (if clsB (withE T (l.foldl (drop1 T (r : Int)) e) r) true hm then loseE (clsE (withE T (l.foldl (drop1 T (r : Int)) e) r) true hm) hm else clsE (withE T (l.foldl (drop1 T (r : Int)) e) r) true hm) else l.foldl (drop1 T (r : Int)) e) := hide (by unfold dropE; rw [hh, hl])
  clear h hx1 hst er hh hl hteam
  go_enter Tryz.func107, Tryz.ntmps107
  go_wp2_with fail
  clear k2 k6 cl x1
  go_loopw [26] (fun x wr => ∃ k : Nat, k ≤ l.length ∧ x = .int .i64 k ∧ Hid (Eg N S A T F n ((l.take k).foldl (drop1 T (r : Int)) e) wr) ∧ Hid (Fr (fun k => ¬ S k) w wr)) (fun x _ => l.length - (intOf x).toNat)
  case atStart => exact ⟨0, by omega, rfl, hide HE0.out, hide (Fr.refl _ _)⟩
  case round =>
    obtain ⟨k, hk, rfl, HEr, HFr⟩ := hrel
    by_cases hlt : k < l.length
    · obtain ⟨p0, hp⟩ := get_at hlt
      obtain ⟨p00, p01⟩ := HIN.out p0 (List.mem_of_getElem? hp)
      obtain ⟨p, rfl⟩ := Int.eq_ofNat_of_zero_le p00
      have hpn : p < n := by omega
      obtain ⟨gx, ox, rfl, cx⟩ := (HST.out wr (HE.out.stay HFr.out)).get hp
      have HNX : Hid ((l.take (k + 1)).foldl (drop1 T (r : Int)) e = drop1 T (r : Int) ((l.take k).foldl (drop1 T (r : Int)) e) p) := hide (fold_snoc hp)
      generalize (l.take k).foldl (drop1 T (r : Int)) e = e1 at HEr HNX
      obtain ⟨tv1, hE1⟩ := HEr.out
      have CC := hide (clear_any hE1 hpn)
      have z16 := hE1.bx.get (i := 16) rfl
      have c1 := hE1.ro.lx.get (i := r) (v := sl (A.cr r) l.length) (by rw [List.getElem?_map, List.getElem?_range hr, ← HRL.out]; rfl)
      have c2 := (hE1.cr r hr).get (clsL_at (k := k) (p := (p : Int)) (by rw [HRL.out]; exact hp)).2
      clear hp hE1 p00 p01
      cases hx : e1.cb r p with
      | false =>
        have HT : Hid (drop1 T (r : Int) e1 p = proveE T (clearE e1 p) p) := hide (by unfold drop1; rw [hx]; rfl)
        rw [hx] at c2
        clear hx
        go_wp2_with (first | (go_at_call 98; refine CC.out.mono ?_; rintro _ w4 ⟨rfl, he, hf⟩; have CV := hide (prove_any (⟨_, he⟩ : Eg N S A T F n _ _) hpn); have HF4 := hide hf; clear he hf) | (go_at_call 100; refine CV.out.mono ?_; rintro _ w5 ⟨rfl, he, hf⟩; have HE5 := hide he; have HF5 := hide (HF4.out.trans hf); clear he hf))
        go_roundw
        case rel => exact ⟨k + 1, by omega, by go_num, hide (by rw [HNX.out, HT.out]; exact HE5.out), hide (HFr.out.trans HF5.out)⟩
        case measure => simp [intOf]; omega
      | true =>
        have HT : Hid (drop1 T (r : Int) e1 p = e1) := hide (by unfold drop1; rw [hx]; rfl)
        rw [hx] at c2
        clear hx
        go_wp2_with fail
        go_roundw
        case rel => exact ⟨k + 1, by omega, by go_num, hide (by rw [HNX.out, HT.out]; exact HEr.out), HFr⟩
        case measure => simp [intOf]; omega
    · have HL : Hid (l.take k = l) := hide (List.take_of_length_le (by omega))
      rw [HL.out] at HEr
      generalize l.foldl (drop1 T (r : Int)) e = e1 at *
      obtain ⟨tv1, hE1⟩ := HEr.out
      obtain ⟨y0, y1, y2⟩ := HX1.out wr (HE.out.stay HFr.out)
      have k2 := hE1.bx.get (i := 2) rfl
      rw [HER.out] at k2
      have CT := hide (isTeam_any (w := wr) (k := kd) (h := (hm : Int)) (v := bv))
      cases htm : teamB T r with
      | false =>
        have hkd : (!decide (kd = 3)) = false := by rw [← HTM.out]; exact htm
        rw [hkd] at CT
        have HT : Hid (dropE T e r = e1) := hide (by rw [HR.out, htm]; rfl)
        clear htm hkd hE1
        go_wp2_with (go_at_call 68; refine CT.out.mono ?_; rintro _ w2 ⟨rfl, hb⟩; have HB := hide hb; clear hb)
        go_end0
        exact ⟨rfl, by rw [HT.out]; exact HEr.out.go HB.out, HFr.out.trans (Fr.of_below HB.out)⟩
      | true =>
        have hkd : (!decide (kd = 3)) = true := by rw [← HTM.out]; exact htm
        rw [hkd] at CT
        have HTT := hide htm
        have HTR : Hid (dropE T e r = if clsB (withE T e1 r) true hm then loseE (clsE (withE T e1 r) true hm) hm else clsE (withE T e1 r) true hm) := hide (by rw [HR.out, htm]; rfl)
        clear htm hkd hE1
        go_upto_region 10 with (first | (go_at_call 68; refine CT.out.mono ?_; rintro _ w2 ⟨rfl, hb⟩; have HB := hide hb; have CD := hide (withdraw_any (HEr.out.go hb) hr HTT.out); clear hb) | (go_at_call 125; refine CD.out.mono ?_; rintro _ w3 ⟨rfl, he, hf⟩; have HE3 := hide he; have HF3 := hide ((HFr.out.trans (Fr.of_below HB.out)).trans hf); clear he hf))
        clear k2 y0 y1 y2 CT CD
        generalize withE T e1 r = e2 at *
        obtain ⟨tv3, hE3⟩ := HE3.out
        have CX := hide (closedD_any hE3 hmn)
        clear hE3
        cases hx : clsB e2 true hm with
        | true =>
          have HT : Hid (dropE T e r = loseE (clsE e2 true hm) hm) := hide (by rw [HTR.out, hx]; rfl)
          rw [hx] at CX
          clear hx
          go_wp2_with (first | (go_at_call 105; refine CX.out.mono ?_; rintro _ w4 ⟨rfl, he, hf⟩; have CL := hide (lose_any (⟨_, he⟩ : Eg N S A T F n _ _) hmn); have HF4 := hide hf; clear he hf) | (go_at_call 103; refine CL.out.mono ?_; rintro _ w5 ⟨rfl, he, hf⟩; have HE5 := hide he; have HF5 := hide (HF4.out.trans hf); clear he hf))
          go_end0
          exact ⟨rfl, by rw [HT.out]; exact HE5.out, HF3.out.trans HF5.out⟩
        | false =>
          have HT : Hid (dropE T e r = clsE e2 true hm) := hide (by rw [HTR.out, hx]; rfl)
          rw [hx] at CX
          clear hx
          go_wp2_with (go_at_call 105; refine CX.out.mono ?_; rintro _ w4 ⟨rfl, he, hf⟩; have HE4 := hide he; have HF4 := hide hf; clear he hf)
          go_end0
          exact ⟨rfl, by rw [HT.out]; exact ⟨_, HE4.out⟩, HF3.out.trans HF4.out⟩
end
end Go.Proofs.YtcobmbclhhimjaaGreat.Fa
/- What a told tag does. -/
namespace Go.Proofs.YtcobmbclhhimjaaGreat.Fa
open Go.RowKit

section
variable {N : Nat} {S : Nat → Prop} {A : Ad} {T : Th} {F : List Int} {n : Nat} {e : Es} {tv : Value} {w w' : World}
theorem use_in {p : RuleM → Bool} {k : Nat} {z x : Int} (h : x ∈ useK T p k z) : 0 ≤ x ∧ x < (k : Int) := by
  unfold useK at h
  obtain ⟨a, ha, rfl⟩ := List.mem_map.1 h
  have := List.mem_range.1 (List.mem_filter.1 ha).1
  exact ⟨Int.natCast_nonneg _, by show (a : Int) < k; omega⟩
theorem use_len {p : RuleM → Bool} {k : Nat} {z : Int} : (useK T p k z).length ≤ k := by
  unfold useK
  rw [List.length_map]
  exact Nat.le_trans (List.length_filter_le _ _) (by simp)
theorem users_at (h : En N S A T F n e tv w) (b : Bool) {q : Nat} (hq : q < n) : ∃ l a c, usersL T b q = l ∧ l.length ≤ 4096 ∧ (∀ x ∈ l, ∃ r : Nat, x = (r : Int) ∧ r < T.rules.length) ∧ w.cell? ⟨A.us b, q, none⟩ = some (.slice a l.length c) ∧ ∀ w' : World, (∀ k, S k → w'.heap[k]? = w.heap[k]?) → At1 w' a (ints l) := by
  obtain ⟨a, c, h1, h2⟩ := (h.ro.lu b).stay hq
  have hrl := h.pf.ok.rl
  refine ⟨_, a, c, rfl, Nat.le_trans use_len hrl, fun x hx => ?_, h1, h2⟩
  obtain ⟨x0, x1⟩ := use_in hx
  obtain ⟨r, rfl⟩ := Int.eq_ofNat_of_zero_le x0
  exact ⟨r, rfl, by omega⟩
theorem foes_stay (h : En N S A T F n e tv w) {q : Nat} (hq : q < n) : ∃ l a c g o, row T.foes q = l ∧ A.fa = some ⟨g, o, none⟩ ∧ q < T.foes.length ∧ l.length ≤ 64 ∧ (∀ x ∈ l, isLit n x) ∧ (∀ w' : World, (∀ k, S k → w'.heap[k]? = w.heap[k]?) → w'.cell? ⟨g, o + q, none⟩ = some (.slice a l.length c) ∧ At1 w' a (ints l)) := by
  obtain ⟨l, hl⟩ := get_at (l := T.foes) (i := q) (by have := h.pf.ok.fl; have := h.pf.ln; omega)
  have er : row T.foes (q : Int) = l := row_at (by rw [Int.toNat_natCast]; exact hl)
  obtain ⟨g, o, a2, c2, e1, hg, hc, -, -, hI⟩ := at_L h.ro.ta.foes hl
  exact ⟨l, a2, c2, g, o, er, e1, (List.getElem?_eq_some_iff.1 hl).1, by rw [← er]; exact (foe_pw h.pf hq).2, fun x hx => h.pf.foe q hq x (by rw [er]; exact hx), fun w' hk => ⟨by rw [World.cell?_of_block (hk g (h.ro.n0 g hg)), hc], (Ints.keep (fun g hg => hk g (h.ro.n0 g hg)) hI).at1⟩⟩
set_option maxRecDepth 100000 in
set_option maxHeartbeats 6400000 in
theorem plusD_any {q : Nat} (h : Eg N S A T F n e w) (hq : q < n) :
    Calls Tryz.prog 75 #[ptr A.K, .int .i64 q] w fun o w' => o = .returned (.tuple #[]) ∧ Eg N S A T F n (plusDE T e q) w' ∧ Fr (fun k => ¬ S k) w w' := by
  have HE0 := hide h
  obtain ⟨tv, h⟩ := h
  have HE := hide h
  have hrl : T.rules.length ≤ 4096 := h.pf.ok.rl
  have k12 := h.bx.get (i := 12) rfl
  obtain ⟨l, la, lc, el, hll, hin, cl, hst⟩ := users_at h true hq
  have HIN := hide hin
  have HST := hide hst
  have HR : Hid (plusDE T e q = l.foldl (plusD1 T) e) := hide (by unfold plusDE; rw [el])
  clear h hin hst el
  go_enter Tryz.func75, Tryz.ntmps75
  go_wp2_with fail
  clear k12 cl
  go_loopw [15] (fun x wr => ∃ k : Nat, k ≤ l.length ∧ x = .int .i64 k ∧ Hid (Eg N S A T F n ((l.take k).foldl (plusD1 T) e) wr) ∧ Hid (Fr (fun k => ¬ S k) w wr)) (fun x _ => l.length - (intOf x).toNat)
  case atStart => exact ⟨0, by omega, rfl, hide HE0.out, hide (Fr.refl _ _)⟩
  case round =>
    obtain ⟨k, hk, rfl, HEr, HFr⟩ := hrel
    by_cases hlt : k < l.length
    · obtain ⟨r0, hr⟩ := get_at hlt
      obtain ⟨r, rfl, hrR⟩ := HIN.out r0 (List.mem_of_getElem? hr)
      obtain ⟨gx, ox, rfl, cx⟩ := (HST.out wr (HE.out.stay HFr.out)).get hr
      have HNX : Hid ((l.take (k + 1)).foldl (plusD1 T) e = plusD1 T ((l.take k).foldl (plusD1 T) e) r) := hide (fold_snoc hr)
      clear hr
      generalize (l.take k).foldl (plusD1 T) e = e1 at HEr HNX
      obtain ⟨tv1, hE1⟩ := HEr.out
      have CM := hide (metD_any hE1 hrR)
      clear hE1
      by_cases hx : (metE e1 true r).ms true r = 0
      · have HT : Hid (plusD1 T e1 r = useE T (metE e1 true r) r) := hide (by unfold plusD1; exact if_pos hx)
        rw [decide_eq_true hx] at CM
        clear hx
        go_wp2_with (first | (go_at_call 102; refine CM.out.mono ?_; rintro _ w4 ⟨rfl, he, hf⟩; have CV := hide (use_any (⟨_, he⟩ : Eg N S A T F n _ _) hrR); have HF4 := hide hf; clear he hf) | (go_at_call 106; refine CV.out.mono ?_; rintro _ w5 ⟨rfl, he, hf⟩; have HE5 := hide he; have HF5 := hide (HF4.out.trans hf); clear he hf))
        go_roundw
        case rel => exact ⟨k + 1, by omega, by go_num, hide (by rw [HNX.out, HT.out]; exact HE5.out), hide (HFr.out.trans HF5.out)⟩
        case measure => simp [intOf]; omega
      · have HT : Hid (plusD1 T e1 r = metE e1 true r) := hide (by unfold plusD1; exact if_neg hx)
        rw [decide_eq_false hx] at CM
        clear hx
        go_wp2_with (go_at_call 102; refine CM.out.mono ?_; rintro _ w4 ⟨rfl, he, hf⟩; have HE4 := hide he; have HF4 := hide hf; clear he hf)
        go_roundw
        case rel => exact ⟨k + 1, by omega, by go_num, hide (by rw [HNX.out, HT.out]; exact ⟨_, HE4.out⟩), hide (HFr.out.trans HF4.out)⟩
        case measure => simp [intOf]; omega
    · have HL : Hid (l.take k = l) := hide (List.take_of_length_le (by omega))
      go_wp2_with fail
      go_end0
      exact ⟨rfl, by rw [HR.out]; have := HEr.out; rw [HL.out] at this; exact this, HFr.out⟩
set_option maxRecDepth 100000 in
set_option maxHeartbeats 6400000 in
theorem minusD_any {q : Nat} (h : Eg N S A T F n e w) (hq : q < n) :
    Calls Tryz.prog 76 #[ptr A.K, .int .i64 q] w fun o w' => o = .returned (.tuple #[]) ∧ Eg N S A T F n (minusDE T e q) w' ∧ Fr (fun k => ¬ S k) w w' := by
  have HE0 := hide h
  obtain ⟨tv, h⟩ := h
  have HE := hide h
  have hrl : T.rules.length ≤ 4096 := h.pf.ok.rl
  have k12 := h.bx.get (i := 12) rfl
  obtain ⟨l, la, lc, el, hll, hin, cl, hst⟩ := users_at h true hq
  have HIN := hide hin
  have HST := hide hst
  have HR : Hid (minusDE T e q = l.foldl (minusD1 T) e) := hide (by unfold minusDE; rw [el])
  clear h hin hst el
  go_enter Tryz.func76, Tryz.ntmps76
  go_wp2_with fail
  clear k12 cl
  go_loopw [15] (fun x wr => ∃ k : Nat, k ≤ l.length ∧ x = .int .i64 k ∧ Hid (Eg N S A T F n ((l.take k).foldl (minusD1 T) e) wr) ∧ Hid (Fr (fun k => ¬ S k) w wr)) (fun x _ => l.length - (intOf x).toNat)
  case atStart => exact ⟨0, by omega, rfl, hide HE0.out, hide (Fr.refl _ _)⟩
  case round =>
    obtain ⟨k, hk, rfl, HEr, HFr⟩ := hrel
    by_cases hlt : k < l.length
    · obtain ⟨r0, hr⟩ := get_at hlt
      obtain ⟨r, rfl, hrR⟩ := HIN.out r0 (List.mem_of_getElem? hr)
      obtain ⟨gx, ox, rfl, cx⟩ := (HST.out wr (HE.out.stay HFr.out)).get hr
      have HNX : Hid ((l.take (k + 1)).foldl (minusD1 T) e = minusD1 T ((l.take k).foldl (minusD1 T) e) r) := hide (fold_snoc hr)
      clear hr
      generalize (l.take k).foldl (minusD1 T) e = e1 at HEr HNX
      obtain ⟨tv1, hE1⟩ := HEr.out
      have CM := hide (refuteD_any hE1 hrR)
      clear hE1
      cases hx : e1.rf true r with
      | false =>
        have HT : Hid (minusD1 T e1 r = dropE T (refE e1 true r) r) := hide (by unfold minusD1; rw [hx]; rfl)
        rw [hx] at CM
        clear hx
        go_wp2_with (first | (go_at_call 104; refine CM.out.mono ?_; rintro _ w4 ⟨rfl, he, hf⟩; have CV := hide (drop_any (⟨_, he⟩ : Eg N S A T F n _ _) hrR); have HF4 := hide hf; clear he hf) | (go_at_call 107; refine CV.out.mono ?_; rintro _ w5 ⟨rfl, he, hf⟩; have HE5 := hide he; have HF5 := hide (HF4.out.trans hf); clear he hf))
        go_roundw
        case rel => exact ⟨k + 1, by omega, by go_num, hide (by rw [HNX.out, HT.out]; exact HE5.out), hide (HFr.out.trans HF5.out)⟩
        case measure => simp [intOf]; omega
      | true =>
        have HT : Hid (minusD1 T e1 r = e1 ∧ refE e1 true r = e1) := hide ⟨by unfold minusD1; rw [hx]; rfl, by unfold refE; rw [hx]; rfl⟩
        rw [hx] at CM
        clear hx
        go_wp2_with (go_at_call 104; refine CM.out.mono ?_; rintro _ w4 ⟨rfl, he, hf⟩; have HE4 := hide he; have HF4 := hide hf; clear he hf)
        go_roundw
        case rel => exact ⟨k + 1, by omega, by go_num, hide (by rw [HNX.out, HT.out.1]; have := HE4.out; rw [HT.out.2] at this; exact ⟨_, this⟩), hide (HFr.out.trans HF4.out)⟩
        case measure => simp [intOf]; omega
    · have HL : Hid (l.take k = l) := hide (List.take_of_length_le (by omega))
      go_wp2_with fail
      go_end0
      exact ⟨rfl, by rw [HR.out]; have := HEr.out; rw [HL.out] at this; exact this, HFr.out⟩
set_option maxRecDepth 100000 in
set_option maxHeartbeats 6400000 in
theorem plusS_any {q : Nat} (h : Eg N S A T F n e w) (hq : q < n) :
    Calls Tryz.prog 73 #[ptr A.K, .int .i64 q] w fun o w' => o = .returned (.tuple #[]) ∧ Eg N S A T F n (plusSE T e q) w' ∧ Fr (fun k => ¬ S k) w w' := by
  have CT := hide (tell_any h hq tag3)
  obtain ⟨tv, h⟩ := h
  have HE := hide h
  have hrl : T.rules.length ≤ 4096 := h.pf.ok.rl
  obtain ⟨l, la, lc, el, hll, hin, cl, hst⟩ := users_at h false hq
  obtain ⟨fl, fa, fc, gf, of, ef, efa, hqf, hfll, hfin, hfst⟩ := foes_stay h hq
  have HIN := hide hin
  have HST := hide hst
  have HFIN := hide hfin
  have HFST := hide hfst
  have HFA := hide efa
  have HRU := hide fun (r : Nat) (hr : r < T.rules.length) => rule_stay h hr
  have HCL : Hid (∀ w' : World, (∀ k, S k → w'.heap[k]? = w.heap[k]?) → w'.cell? ⟨A.us false, q, none⟩ = some (.slice la l.length lc)) := hide fun w' hk => by rw [World.cell?_of_block (hk _ (h.ro.lu false).1), cl]
  have HR : Hid (plusSE T e q = fl.foldl loseE (l.foldl (plusS1 T) (tell e q 3))) := hide (by unfold plusSE; rw [el, ef])
  clear h hin hst el hfin hfst ef efa cl
  go_enter Tryz.func73, Tryz.ntmps73
  go_upto_region 1 with (go_at_call 99; refine CT.out.mono ?_; rintro _ w2 ⟨rfl, he, hf⟩; have HE2 := hide he; have HF2 := hide hf; clear he hf)
  clear CT
  generalize tell e q 3 = e0 at *
  have c8 : w2.cell? ⟨A.K, 8, none⟩ = some (sl (A.us false) n) := by obtain ⟨tv2, h2⟩ := HE2.out; exact h2.bx.get (i := 8) rfl
  have cl := HCL.out w2 (HE.out.stay HF2.out)
  go_wp2_with fail
  clear c8 cl
  go_loopw [20] (fun x wr => ∃ k : Nat, k ≤ l.length ∧ x = .int .i64 k ∧ Hid (Eg N S A T F n ((l.take k).foldl (plusS1 T) e0) wr) ∧ Hid (Fr (fun k => ¬ S k) w wr)) (fun x _ => l.length - (intOf x).toNat)
  case atStart => exact ⟨0, by omega, rfl, hide HE2.out, HF2⟩
  case round =>
    obtain ⟨k, hk, rfl, HEr, HFr⟩ := hrel
    by_cases hlt : k < l.length
    · obtain ⟨r0, hr⟩ := get_at hlt
      obtain ⟨r, rfl, hrR⟩ := HIN.out r0 (List.mem_of_getElem? hr)
      obtain ⟨gx, ox, rfl, cx⟩ := (HST.out wr (HE.out.stay HFr.out)).get hr
      have HNX : Hid ((l.take (k + 1)).foldl (plusS1 T) e0 = plusS1 T ((l.take k).foldl (plusS1 T) e0) r) := hide (fold_snoc hr)
      clear hr
      generalize (l.take k).foldl (plusS1 T) e0 = e1 at HEr HNX
      obtain ⟨tv1, hE1⟩ := HEr.out
      have CM := hide (metS_any hE1 hrR)
      clear hE1
      by_cases hx : (metE e1 false r).ms false r = 0
      · obtain ⟨hm, gr, go, hh, hmn, er, hx1⟩ := HRU.out r hrR
        have HT : Hid (plusS1 T e1 r = tell (metE e1 false r) hm 1) := hide (by unfold plusS1; rw [hh]; exact if_pos hx)
        rw [decide_eq_true hx] at CM
        have HX1 := hide hx1
        have HER := hide er
        clear hx hx1 er hh
        go_upto_region 5 with (go_at_call 102; refine CM.out.mono ?_; rintro _ w4 ⟨rfl, he, hf⟩; have HE4 := hide he; have CV := hide (tell_any (⟨_, he⟩ : Eg N S A T F n _ _) hmn tag1); have HF4 := hide hf; clear he hf)
        have c2 := HE4.out.bx.get (i := 2) rfl
        rw [HER.out] at c2
        have x1 := HX1.out w4 (HE.out.stay (HFr.out.trans HF4.out))
        go_wp2_with (go_at_call 99; refine CV.out.mono ?_; rintro _ w5 ⟨rfl, he, hf⟩; have HE5 := hide he; have HF5 := hide (HF4.out.trans hf); clear he hf)
        go_roundw
        case rel => exact ⟨k + 1, by omega, by go_num, hide (by rw [HNX.out, HT.out]; exact HE5.out), hide (HFr.out.trans HF5.out)⟩
        case measure => simp [intOf]; omega
      · have HT : Hid (plusS1 T e1 r = metE e1 false r) := hide (by unfold plusS1; exact if_neg hx)
        rw [decide_eq_false hx] at CM
        clear hx
        go_wp2_with (go_at_call 102; refine CM.out.mono ?_; rintro _ w4 ⟨rfl, he, hf⟩; have HE4 := hide he; have HF4 := hide hf; clear he hf)
        go_roundw
        case rel => exact ⟨k + 1, by omega, by go_num, hide (by rw [HNX.out, HT.out]; exact ⟨_, HE4.out⟩), hide (HFr.out.trans HF4.out)⟩
        case measure => simp [intOf]; omega
    · have HL : Hid (l.take k = l) := hide (List.take_of_length_le (by omega))
      rw [HL.out] at HEr
      generalize l.foldl (plusS1 T) e0 = e1 at *
      have c1 : wr.cell? ⟨A.K, 1, none⟩ = some (.slice (some ⟨gf, of, none⟩) T.foes.length A.fc) := by obtain ⟨tv2, h2⟩ := HEr.out; rw [← HFA.out]; exact h2.bx.get (i := 1) rfl
      obtain ⟨cf, -⟩ := HFST.out wr (HE.out.stay HFr.out)
      go_wp2_with fail
      clear c1 cf
      have HE1 := hide HEr.out
      have HF1 := hide HFr.out
      clear HEr HFr
      go_loopw [53] (fun x wz => ∃ j : Nat, j ≤ fl.length ∧ x = .int .i64 j ∧ Hid (Eg N S A T F n ((fl.take j).foldl loseE e1) wz) ∧ Hid (Fr (fun k => ¬ S k) w wz)) (fun x _ => fl.length - (intOf x).toNat)
      case atStart => exact ⟨0, by omega, rfl, hide HE1.out, HF1⟩
      case round =>
        rename World => wz
        obtain ⟨j, hj, rfl, HEr, HFr⟩ := hrel
        by_cases hjl : j < fl.length
        · obtain ⟨p0, hp⟩ := get_at hjl
          obtain ⟨p00, p01⟩ := HFIN.out p0 (List.mem_of_getElem? hp)
          obtain ⟨p, rfl⟩ := Int.eq_ofNat_of_zero_le p00
          obtain ⟨gx, ox, rfl, cx⟩ := (HFST.out wz (HE.out.stay HFr.out)).2.get hp
          have HNX : Hid ((fl.take (j + 1)).foldl loseE e1 = loseE ((fl.take j).foldl loseE e1) p) := hide (fold_snoc hp)
          have CL := hide (lose_any HEr.out (show p < n by omega))
          clear hp
          go_wp2_with (go_at_call 103; refine CL.out.mono ?_; rintro _ w5 ⟨rfl, he, hf⟩; have HE5 := hide he; have HF5 := hide hf; clear he hf)
          go_roundw
          case rel => exact ⟨j + 1, by omega, by go_num, hide (by rw [HNX.out]; exact HE5.out), hide (HFr.out.trans HF5.out)⟩
          case measure => simp [intOf]; omega
        · have HL2 : Hid (fl.take j = fl) := hide (List.take_of_length_le (by omega))
          go_wp2_with fail
          go_end0
          exact ⟨rfl, by rw [HR.out]; have := HEr.out; rw [HL2.out] at this; exact this, HFr.out⟩
end
end Go.Proofs.YtcobmbclhhimjaaGreat.Fa
/- minusStrict, begin. -/
namespace Go.Proofs.YtcobmbclhhimjaaGreat.Fa
open Go.RowKit

section
variable {N : Nat} {S : Nat → Prop} {A : Ad} {T : Th} {F : List Int} {n : Nat} {e : Es} {tv : Value} {w w' : World}
theorem minusS1_eq {e : Es} {r hm : Int} (hh : headOf T r = hm) : minusS1 T e r = if e.rf false r then e else if clsB (refE e false r) false hm then tell (clsE (refE e false r) false hm) hm 2 else clsE (refE e false r) false hm := by unfold minusS1; rw [hh]
set_option maxRecDepth 100000 in
set_option maxHeartbeats 6400000 in
theorem minusS_any {q : Nat} (h : Eg N S A T F n e w) (hq : q < n) :
    Calls Tryz.prog 74 #[ptr A.K, .int .i64 q] w fun o w' => o = .returned (.tuple #[]) ∧ Eg N S A T F n (minusSE T F e q) w' ∧ Fr (fun k => ¬ S k) w w' := by
  have HE0 := hide h
  obtain ⟨tv, h⟩ := h
  have HE := hide h
  have hrl : T.rules.length ≤ 4096 := h.pf.ok.rl
  have k8 := h.bx.get (i := 8) rfl
  obtain ⟨l, la, lc, el, hll, hin, cl, hst⟩ := users_at h false hq
  obtain ⟨va, vc, cv, hvst⟩ := h.ro.lv.stay hq
  obtain ⟨vl, hvl⟩ : ∃ vl, rivalsL T (q : Int) = vl := ⟨_, rfl⟩
  rw [hvl] at cv hvst
  have hvll : vl.length ≤ 64 := by rw [← hvl]; exact rival_len h.pf hq
  have HVIN : Hid (∀ p ∈ vl, isLit n p) := hide fun p hp => rival_in h.pf hq (by rw [hvl]; exact hp)
  have HVST := hide hvst
  have HCV : Hid (∀ w' : World, (∀ k, S k → w'.heap[k]? = w.heap[k]?) → w'.cell? ⟨A.rv, q, none⟩ = some (.slice va vl.length vc)) := hide fun w' hk => by rw [World.cell?_of_block (hk _ h.ro.lv.1), cv]
  have HIN := hide hin
  have HST := hide hst
  have HRU := hide fun (r : Nat) (hr : r < T.rules.length) => rule_stay h hr
  have HR : Hid (minusSE T F e q = disproveE T (if firmB T F q then vl.foldl (clr1 T) (l.foldl (minusS1 T) e) else l.foldl (minusS1 T) e) q) := hide (by unfold minusSE; rw [el, hvl])
  clear h hin hst el hvst hvl cv
  go_enter Tryz.func74, Tryz.ntmps74
  go_wp2_with fail
  clear k8 cl
  go_loopw [18] (fun x wr => ∃ k : Nat, k ≤ l.length ∧ x = .int .i64 k ∧ Hid (Eg N S A T F n ((l.take k).foldl (minusS1 T) e) wr) ∧ Hid (Fr (fun k => ¬ S k) w wr)) (fun x _ => l.length - (intOf x).toNat)
  case atStart => exact ⟨0, by omega, rfl, hide HE0.out, hide (Fr.refl _ _)⟩
  case round =>
    obtain ⟨k, hk, rfl, HEr, HFr⟩ := hrel
    by_cases hlt : k < l.length
    · obtain ⟨r0, hr⟩ := get_at hlt
      obtain ⟨r, rfl, hrR⟩ := HIN.out r0 (List.mem_of_getElem? hr)
      obtain ⟨gx, ox, rfl, cx⟩ := (HST.out wr (HE.out.stay HFr.out)).get hr
      have HNX : Hid ((l.take (k + 1)).foldl (minusS1 T) e = minusS1 T ((l.take k).foldl (minusS1 T) e) r) := hide (fold_snoc hr)
      clear hr
      generalize (l.take k).foldl (minusS1 T) e = e1 at HEr HNX
      obtain ⟨tv1, hE1⟩ := HEr.out
      have CM := hide (refuteS_any hE1 hrR)
      obtain ⟨hm, gr, go, hh, hmn, er, hx1⟩ := HRU.out r hrR
      have c2 := hE1.bx.get (i := 2) rfl
      rw [er] at c2
      have x1 := hx1 wr (HE.out.stay HFr.out)
      have HM1 := hide (minusS1_eq (e := e1) hh)
      clear hE1 hx1 er hh
      cases hx : e1.rf false r with
      | true =>
        have HT : Hid (minusS1 T e1 r = e1 ∧ refE e1 false r = e1) := hide ⟨by rw [HM1.out, hx]; rfl, by unfold refE; rw [hx]; rfl⟩
        rw [hx] at CM
        clear hx
        go_wp2_with (go_at_call 104; refine CM.out.mono ?_; rintro _ w4 ⟨rfl, he, hf⟩; have HE4 := hide he; have HF4 := hide hf; clear he hf)
        go_roundw
        case rel => exact ⟨k + 1, by omega, by go_num, hide (by rw [HNX.out, HT.out.1]; have := HE4.out; rw [HT.out.2] at this; exact ⟨_, this⟩), hide (HFr.out.trans HF4.out)⟩
        case measure => simp [intOf]; omega
      | false =>
        have HM2 : Hid (minusS1 T e1 r = if clsB (refE e1 false r) false hm then tell (clsE (refE e1 false r) false hm) hm 2 else clsE (refE e1 false r) false hm) := hide (by rw [HM1.out, hx]; rfl)
        rw [hx] at CM
        clear hx HM1
        generalize refE e1 false r = e2 at *
        cases hc : clsB e2 false hm with
        | true =>
          have HT : Hid (minusS1 T e1 r = tell (clsE e2 false hm) hm 2) := hide (by rw [HM2.out, hc]; rfl)
          have HC := hide hc
          clear hc
          go_wp2_with (first | (go_at_call 104; refine CM.out.mono ?_; rintro _ w4 ⟨rfl, he, hf⟩; have CX := hide (closedS_any he hmn); rw [HC.out] at CX; have HF4 := hide hf; clear he hf) | (go_at_call 105; refine CX.out.mono ?_; rintro _ w5 ⟨rfl, he, hf⟩; have CV := hide (tell_any (⟨_, he⟩ : Eg N S A T F n _ _) hmn tag2); have HF5 := hide (HF4.out.trans hf); clear he hf) | (go_at_call 99; refine CV.out.mono ?_; rintro _ w6 ⟨rfl, he, hf⟩; have HE6 := hide he; have HF6 := hide (HF5.out.trans hf); clear he hf))
          go_roundw
          case rel => exact ⟨k + 1, by omega, by go_num, hide (by rw [HNX.out, HT.out]; exact HE6.out), hide (HFr.out.trans HF6.out)⟩
          case measure => simp [intOf]; omega
        | false =>
          have HT : Hid (minusS1 T e1 r = clsE e2 false hm) := hide (by rw [HM2.out, hc]; rfl)
          have HC := hide hc
          clear hc
          go_wp2_with (first | (go_at_call 104; refine CM.out.mono ?_; rintro _ w4 ⟨rfl, he, hf⟩; have CX := hide (closedS_any he hmn); rw [HC.out] at CX; have HF4 := hide hf; clear he hf) | (go_at_call 105; refine CX.out.mono ?_; rintro _ w5 ⟨rfl, he, hf⟩; have HE5 := hide he; have HF5 := hide (HF4.out.trans hf); clear he hf))
          go_roundw
          case rel => exact ⟨k + 1, by omega, by go_num, hide (by rw [HNX.out, HT.out]; exact ⟨_, HE5.out⟩), hide (HFr.out.trans HF5.out)⟩
          case measure => simp [intOf]; omega
    · have HL : Hid (l.take k = l) := hide (List.take_of_length_le (by omega))
      rw [HL.out] at HEr
      generalize l.foldl (minusS1 T) e = e1 at *
      obtain ⟨tv1, hE1⟩ := HEr.out
      have c7 := hE1.bx.get (i := 7) rfl
      have cf := hE1.ro.lf.get (rowB_at hq)
      have c6 := hE1.bx.get (i := 6) rfl
      have cv := HCV.out wr (HE.out.stay HFr.out)
      clear hE1
      cases hfm : firmB T F q with
      | false =>
        have HT : Hid (minusSE T F e q = disproveE T e1 q) := hide (by rw [HR.out, hfm]; rfl)
        rw [hfm] at cf
        have CD := hide (disprove_any HEr.out hq)
        clear hfm
        go_wp2_with (go_at_call 101; refine CD.out.mono ?_; rintro _ w5 ⟨rfl, he, hf⟩; have HE5 := hide he; have HF5 := hide hf; clear he hf)
        go_end0
        exact ⟨rfl, by rw [HT.out]; exact HE5.out, HFr.out.trans HF5.out⟩
      | true =>
        have HT : Hid (minusSE T F e q = disproveE T (vl.foldl (clr1 T) e1) q) := hide (by rw [HR.out, hfm]; rfl)
        rw [hfm] at cf
        clear hfm
        go_wp2_with fail
        clear c7 cf c6 cv
        have HE1 := hide HEr.out
        have HF1 := hide HFr.out
        clear HEr HFr
        go_loopw [67] (fun x wz => ∃ j : Nat, j ≤ vl.length ∧ x = .int .i64 j ∧ Hid (Eg N S A T F n ((vl.take j).foldl (clr1 T) e1) wz) ∧ Hid (Fr (fun k => ¬ S k) w wz)) (fun x _ => vl.length - (intOf x).toNat)
        case atStart => exact ⟨0, by omega, rfl, hide HE1.out, HF1⟩
        case round =>
          rename World => wz
          obtain ⟨j, hj, rfl, HEr, HFr⟩ := hrel
          by_cases hjl : j < vl.length
          · obtain ⟨p0, hp⟩ := get_at hjl
            obtain ⟨p00, p01⟩ := HVIN.out p0 (List.mem_of_getElem? hp)
            obtain ⟨p, rfl⟩ := Int.eq_ofNat_of_zero_le p00
            have hpn : p < n := by omega
            obtain ⟨gx, ox, rfl, cx⟩ := (HVST.out wz (HE.out.stay HFr.out)).get hp
            have HNX : Hid ((vl.take (j + 1)).foldl (clr1 T) e1 = proveE T (clearE ((vl.take j).foldl (clr1 T) e1) p) p) := hide (fold_snoc hp)
            obtain ⟨tv3, h3⟩ := HEr.out
            have CC := hide (clear_any h3 hpn)
            clear hp h3
            go_wp2_with (first | (go_at_call 98; refine CC.out.mono ?_; rintro _ w4 ⟨rfl, he, hf⟩; have CV := hide (prove_any (⟨_, he⟩ : Eg N S A T F n _ _) hpn); have HF4 := hide hf; clear he hf) | (go_at_call 100; refine CV.out.mono ?_; rintro _ w5 ⟨rfl, he, hf⟩; have HE5 := hide he; have HF5 := hide (HF4.out.trans hf); clear he hf))
            go_roundw
            case rel => exact ⟨j + 1, by omega, by go_num, hide (by rw [HNX.out]; exact HE5.out), hide (HFr.out.trans HF5.out)⟩
            case measure => simp [intOf]; omega
          · have HL2 : Hid (vl.take j = vl) := hide (List.take_of_length_le (by omega))
            rw [HL2.out] at HEr
            have CD := hide (disprove_any HEr.out hq)
            go_wp2_with (go_at_call 101; refine CD.out.mono ?_; rintro _ w5 ⟨rfl, he, hf⟩; have HE5 := hide he; have HF5 := hide hf; clear he hf)
            go_end0
            exact ⟨rfl, by rw [HT.out]; exact HE5.out, HFr.out.trans HF5.out⟩
theorem range_snoc {f : Es → Nat → Es} {e : Es} {k : Nat} : (List.range (k + 1)).foldl f e = f ((List.range k).foldl f e) k := by rw [List.range_succ, List.foldl_append]; rfl
set_option maxRecDepth 100000 in
set_option maxHeartbeats 6400000 in
theorem begin_any (h : Eg N S A T F n e w) :
    Calls Tryz.prog 72 #[ptr A.K] w fun o w' => o = .returned (.tuple #[]) ∧ Eg N S A T F n (beginE T F n e) w' ∧ Fr (fun k => ¬ S k) w w' := by
  have HE0 := hide h
  obtain ⟨tv, h⟩ := h
  have HE := hide h
  have hn4 := h.pf.n4
  have k7 := h.bx.get (i := 7) rfl
  clear h
  go_enter Tryz.func72, Tryz.ntmps72
  go_wp2_with fail
  clear k7
  go_loopw [11] (fun x wr => ∃ k : Nat, k ≤ n ∧ x = .int .i64 k ∧ Hid (Eg N S A T F n ((List.range k).foldl (beg1 T F) e) wr) ∧ Hid (Fr (fun k => ¬ S k) w wr)) (fun x _ => n - (intOf x).toNat)
  case atStart => exact ⟨0, by omega, rfl, hide HE0.out, hide (Fr.refl _ _)⟩
  case round =>
    obtain ⟨k, hk, rfl, HEr, HFr⟩ := hrel
    by_cases hlt : k < n
    · have HNX : Hid ((List.range (k + 1)).foldl (beg1 T F) e = beg1 T F ((List.range k).foldl (beg1 T F) e) k) := hide range_snoc
      generalize (List.range k).foldl (beg1 T F) e = e1 at HEr HNX
      have C2 := hide (tell_any HEr.out hlt tag2)
      have C1 := hide (tell_any HEr.out hlt tag1)
      obtain ⟨tv1, hE1⟩ := HEr.out
      have cf := hE1.ro.lf.get (rowB_at hlt)
      have c11 := hE1.bx.get (i := 11) rfl
      have co := (hE1.op false).get (rowI_at hlt)
      clear hE1
      cases hfm : firmB T F k with
      | false =>
        rw [hfm] at cf
        have HT : Hid (beg1 T F e1 k = tell e1 k 2) := hide (by unfold beg1; rw [hfm]; rfl)
        clear hfm
        go_wp2_with (go_at_call 99; refine C2.out.mono ?_; rintro _ w5 ⟨rfl, he, hf⟩; have HE5 := hide he; have HF5 := hide hf; clear he hf)
        go_roundw
        case rel => exact ⟨k + 1, by omega, by go_num, hide (by rw [HNX.out, HT.out]; exact HE5.out), hide (HFr.out.trans HF5.out)⟩
        case measure => simp [intOf]; omega
      | true =>
        rw [hfm] at cf
        by_cases hx : e1.op false k = 0
        · have HT : Hid (beg1 T F e1 k = tell e1 k 1) := hide (by unfold beg1; rw [hfm]; exact if_pos hx)
          have hxb : (e1.op false k == 0) = true := by simpa using hx
          generalize e1.op false k = x at co hxb
          clear hfm hx
          go_wp2_with (go_at_call 99; refine C1.out.mono ?_; rintro _ w5 ⟨rfl, he, hf⟩; have HE5 := hide he; have HF5 := hide hf; clear he hf)
          go_roundw
          case rel => exact ⟨k + 1, by omega, by go_num, hide (by rw [HNX.out, HT.out]; exact HE5.out), hide (HFr.out.trans HF5.out)⟩
          case measure => simp [intOf]; omega
        · have HT : Hid (beg1 T F e1 k = e1) := hide (by unfold beg1; rw [hfm]; exact if_neg hx)
          have hxb : (e1.op false k == 0) = false := by simpa using hx
          generalize e1.op false k = x at co hxb
          clear hfm hx
          go_wp2_with fail
          go_roundw
          case rel => exact ⟨k + 1, by omega, by go_num, hide (by rw [HNX.out, HT.out]; exact HEr.out), HFr⟩
          case measure => simp [intOf]; omega
    · have hkn : k = n := by omega
      have HR : Hid (beginE T F n e = (List.range n).foldl (beg2 T) ((List.range k).foldl (beg1 T F) e)) := hide (by rw [hkn]; rfl)
      clear hkn
      generalize (List.range k).foldl (beg1 T F) e = e1 at *
      have c18 : wr.cell? ⟨A.K, 18, none⟩ = some (sl A.mq n) := by obtain ⟨tv1, hE1⟩ := HEr.out; exact hE1.bx.get (i := 18) rfl
      go_wp2_with fail
      clear c18
      have HE1 := hide HEr.out
      have HF1 := hide HFr.out
      clear HEr HFr
      go_loopw [41] (fun x wz => ∃ j : Nat, j ≤ n ∧ x = .int .i64 j ∧ Hid (Eg N S A T F n ((List.range j).foldl (beg2 T) e1) wz) ∧ Hid (Fr (fun k => ¬ S k) w wz)) (fun x _ => n - (intOf x).toNat)
      case atStart => exact ⟨0, by omega, rfl, hide HE1.out, HF1⟩
      case round =>
        rename World => wz
        obtain ⟨j, hj, rfl, HEr, HFr⟩ := hrel
        by_cases hjl : j < n
        · have HNX : Hid ((List.range (j + 1)).foldl (beg2 T) e1 = beg2 T ((List.range j).foldl (beg2 T) e1) j) := hide range_snoc
          generalize (List.range j).foldl (beg2 T) e1 = e2 at HEr HNX
          have CH : Hid (Calls Tryz.prog 36 #[ptr A.K, .int .i64 j, .int .i64 1] wz fun r w' => r = .returned (.bool (has e2 j 1)) ∧ Below wz.heap.size wz w') := hide (by obtain ⟨tv1, hE1⟩ := HEr.out; exact has_any hE1 hjl tag1)
          cases hh : has e2 j 1 with
          | true =>
            have HT : Hid (beg2 T e2 j = disproveE T (proveE T (tell e2 j 3) j) j) := hide (by unfold beg2; rw [hh]; rfl)
            rw [hh] at CH
            clear hh
            go_wp2_with (first | (go_at_call 36; refine CH.out.mono ?_; rintro _ w3 ⟨rfl, hb⟩; have HB3 := hide (Fr.of_below (Z := fun k => ¬ S k) hb); have CT := hide (tell_any (HEr.out.go hb) hjl tag3); clear hb) | (go_at_call 99; refine CT.out.mono ?_; rintro _ w4 ⟨rfl, he, hf⟩; have CV := hide (prove_any he hjl); have HF4 := hide (HB3.out.trans hf); clear he hf) | (go_at_call 100; refine CV.out.mono ?_; rintro _ w5 ⟨rfl, he, hf⟩; have CD := hide (disprove_any he hjl); have HF5 := hide (HF4.out.trans hf); clear he hf) | (go_at_call 101; refine CD.out.mono ?_; rintro _ w6 ⟨rfl, he, hf⟩; have HE6 := hide he; have HF6 := hide (HF5.out.trans hf); clear he hf))
            go_roundw
            case rel => exact ⟨j + 1, by omega, by go_num, hide (by rw [HNX.out, HT.out]; exact HE6.out), hide (HFr.out.trans HF6.out)⟩
            case measure => simp [intOf]; omega
          | false =>
            have HT : Hid (beg2 T e2 j = disproveE T (proveE T e2 j) j) := hide (by unfold beg2; rw [hh]; rfl)
            rw [hh] at CH
            clear hh
            go_wp2_with (first | (go_at_call 36; refine CH.out.mono ?_; rintro _ w3 ⟨rfl, hb⟩; have HF4 := hide (Fr.of_below (Z := fun k => ¬ S k) hb); have CV := hide (prove_any (HEr.out.go hb) hjl); clear hb) | (go_at_call 100; refine CV.out.mono ?_; rintro _ w5 ⟨rfl, he, hf⟩; have CD := hide (disprove_any he hjl); have HF5 := hide (HF4.out.trans hf); clear he hf) | (go_at_call 101; refine CD.out.mono ?_; rintro _ w6 ⟨rfl, he, hf⟩; have HE6 := hide he; have HF6 := hide (HF5.out.trans hf); clear he hf))
            go_roundw
            case rel => exact ⟨j + 1, by omega, by go_num, hide (by rw [HNX.out, HT.out]; exact HE6.out), hide (HFr.out.trans HF6.out)⟩
            case measure => simp [intOf]; omega
        · have hjn : j = n := by omega
          subst hjn
          go_wp2_with fail
          go_end0
          exact ⟨rfl, by rw [HR.out]; exact HEr.out, HFr.out⟩
end
end Go.Proofs.YtcobmbclhhimjaaGreat.Fa
