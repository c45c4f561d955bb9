import Derived.Test.YtmlhcncagdfjfaaGreatFs2
set_option maxRecDepth 100000
set_option maxHeartbeats 6400000
namespace Go.Proofs.YtmlhcncagdfjfaaGreat.Fa
open Go.RowKit
section
variable {N : Nat} {S : Nat → Prop} {A : Ad} {T : Th} {F : List Int} {n : Nat} {e : Es} {tv : Value} {w w' : World}
theorem nj (h : En N S A T F n e tv w) {r : Nat} (hr : r < T.rules.length) : ∃ (kd : Int) (hm g o : Nat) (bv : Value), ag T r = (hm : Int) ∧ hm < n ∧ aP T r = (!decide (kd = 3)) ∧ A.ra = some ⟨g, o, none⟩ ∧ ∀ w' : World, (∀ k, S k → w'.heap[k]? = w.heap[k]?) → w'.cell? ⟨g, o + r * 3, none⟩ = some (.int .i64 kd) ∧ w'.cell? ⟨g, o + r * 3 + 1, none⟩ = some (.int .i64 hm) ∧ w'.cell? ⟨g, o + r * 3 + 2, none⟩ = some bv := by
 obtain ⟨x, hx, Ac, Ab, Ad⟩ := cV h.pf hr
 obtain ⟨hm, Aa⟩ := Int.eq_ofNat_of_zero_le Ab
 obtain ⟨gr, go, bd, bp, er, hg, x0, x1, x2, -, -, -⟩ := eN h.ro.ta.rules hx
 refine ⟨x.kind, hm, gr, go, _, by rw [Ac, Aa], by omega, ?_, er, fun w' hk => ⟨by rw [World.cell?_of_block (hk gr (h.ro.n0 gr hg)), x0], by rw [World.cell?_of_block (hk gr (h.ro.n0 gr hg)), x1, Aa], by rw [World.cell?_of_block (hk gr (h.ro.n0 gr hg)), x2]⟩⟩
 unfold aP
 rw [Int.toNat_natCast, hx]
 rfl
theorem yv {r : Nat} (h : Eg N S A T F n e w) (hr : r < T.rules.length) :
    Calls Tryz.prog 221 #[ab A.K, .int .i64 r] w fun o w' => o = .returned (.tuple #[]) ∧ Eg N S A T F n (cD T e r) w' ∧ Fr (fun k => ¬ S k) w w' := by
 have At := hide h
 obtain ⟨tv, h⟩ := h
 have HE := hide h
 have AF : T.rules.length ≤ 4096 := h.pf.ok.rl
 obtain ⟨kd, hm, gr, go, bv, hh, Ac, Ae, er, Af⟩ := nj h hr
 have x1 := (Af w fun _ _ => rfl).2.1
 obtain ⟨la, lc, cl, Ag⟩ := h.ro.lv.stay Ac
 have k2 := h.bx.get (i := 2) rfl
 have k6 := h.bx.get (i := 6) rfl
 rw [er] at k2
 obtain ⟨l, hl⟩ : ∃ l, aj T (hm : Int) = l := ⟨_, rfl⟩
 rw [hl] at cl Ag
 have AE : l.length ≤ 64 := by rw [← hl]; exact dg h.pf Ac
 have Ap : Hid (aj T (ag T r) = l) := hide (by rw [hh, hl])
 have Az : Hid (∀ p ∈ l, lH n p) := hide fun p hp => gL h.pf Ac (by rw [hl]; exact hp)
 have As := hide Ag
 have Av := hide Af
 have Aw := hide er
 have AC := hide hh
 have Ao := hide Ae
 have HR : Hid (cD T e r = if aP T r then (if (defendE T (l.foldl (use1 (r : Int)) e) r).ob hm = 0 then tell (defendE T (l.foldl (use1 (r : Int)) e) r) hm 3 else defendE T (l.foldl (use1 (r : Int)) e) r) else l.foldl (use1 (r : Int)) e) := hide (by unfold cD; rw [hh, hl])
 clear h Af Ag er hh hl Ae
 go_enter Tryz.func221, Tryz.ntmps221
 go_wp2_with fail
 clear k2 k6 cl x1
 go_loopw [26] (fun x wr => ∃ k : Nat, k ≤ l.length ∧ x = .int .i64 k ∧ Hid (Eg N S A T F n ((l.take k).foldl (use1 (r : Int)) e) wr) ∧ Hid (Fr (fun k => ¬ S k) w wr)) (fun x _ => l.length - (intOf x).toNat)
 case atStart => exact ⟨0, by omega, rfl, hide At.out, hide (Fr.refl _ _)⟩
 case round =>
  obtain ⟨k, hk, rfl, HEr, HFr⟩ := hrel
  by_cases hlt : k < l.length
  · obtain ⟨p0, hp⟩ := am hlt
    obtain ⟨Am, Ay⟩ := Az.out p0 (List.mem_of_getElem? hp)
    obtain ⟨p, rfl⟩ := Int.eq_ofNat_of_zero_le Am
    have AA : p < n := by omega
    obtain ⟨gx, ox, rfl, cx⟩ := (As.out wr (HE.out.stay HFr.out)).get hp
    have Aj : Hid ((l.take (k + 1)).foldl (use1 (r : Int)) e = use1 (r : Int) ((l.take k).foldl (use1 (r : Int)) e) p) := hide (dj hp)
    generalize (l.take k).foldl (use1 (r : Int)) e = e1 at HEr Aj
    have CL := hide (fM HEr.out AA)
    obtain ⟨Ax, Aa⟩ := HEr.out
    have AG := Aa.bx.get (i := 16) rfl
    have c1 := Aa.ro.lx.get (i := r) (v := sl (A.cr r) l.length) (by rw [List.getElem?_map, List.getElem?_range hr, ← Ap.out]; rfl)
    have c2 := (Aa.cr r hr).get (fQ (k := k) (p := (p : Int)) (by rw [Ap.out]; exact hp)).1
    clear hp Aa Am Ay
    by_cases hx : e1.cd r p = 0
    · have HT : Hid (use1 (r : Int) e1 p = aJ e1 p) := hide (by unfold use1; rw [if_pos hx])
      have Ab : (e1.cd r p == 0) = true := by simpa using hx
      generalize e1.cd r p = x at c2 Ab
      clear hx
      go_wp2_with (go_at_call 218; refine CL.out.mono ?_; rintro _ w4 ⟨rfl, he, hf⟩; have Ah := hide he; have Ai := hide hf; clear he hf)
      go_roundw
      case rel => exact ⟨k + 1, by omega, by go_num, hide (by rw [Aj.out, HT.out]; exact Ah.out), hide (HFr.out.trans Ai.out)⟩
      case measure => simp [intOf]; omega
    · have HT : Hid (use1 (r : Int) e1 p = e1) := hide (by unfold use1; rw [if_neg hx])
      have Ab : (e1.cd r p == 0) = false := by simpa using hx
      generalize e1.cd r p = x at c2 Ab
      clear hx
      go_wp2_with fail
      go_roundw
      case rel => exact ⟨k + 1, by omega, by go_num, hide (by rw [Aj.out, HT.out]; exact HEr.out), HFr⟩
      case measure => simp [intOf]; omega
  · have HL : Hid (l.take k = l) := hide (List.take_of_length_le (by omega))
    rw [HL.out] at HEr
    generalize l.foldl (use1 (r : Int)) e = e1 at *
    obtain ⟨Ax, Aa⟩ := HEr.out
    obtain ⟨y0, y1, y2⟩ := Av.out wr (HE.out.stay HFr.out)
    have k2 := Aa.bx.get (i := 2) rfl
    rw [Aw.out] at k2
    have CT := hide (fA (w := wr) (k := kd) (h := (hm : Int)) (v := bv))
    cases htm : aP T r with
    | false =>
     have Ad : (!decide (kd = 3)) = false := by rw [← Ao.out]; exact htm
     rw [Ad] at CT
     have HT : Hid (cD T e r = e1) := hide (by rw [HR.out, htm]; rfl)
     clear htm Ad Aa
     go_wp2_with (go_at_call 176; refine CT.out.mono ?_; rintro _ w2 ⟨rfl, hb⟩; have HB := hide hb; clear hb)
     go_end0
     exact ⟨rfl, by rw [HT.out]; exact HEr.out.go HB.out, HFr.out.trans (Fr.of_below HB.out)⟩
    | true =>
     have Ad : (!decide (kd = 3)) = true := by rw [← Ao.out]; exact htm
     rw [Ad] at CT
     have Au := hide htm
     have An : Hid (cD T e r = if (defendE T e1 r).ob hm = 0 then tell (defendE T e1 r) hm 3 else defendE T e1 r) := hide (by rw [HR.out, htm]; rfl)
     clear htm Ad Aa
     go_upto_region 9 with (first | (go_at_call 176; refine CT.out.mono ?_; rintro _ w2 ⟨rfl, hb⟩; have HB := hide hb; have CD := hide (ni (HEr.out.go hb) hr Au.out); clear hb) | (go_at_call 179; refine CD.out.mono ?_; rintro _ w3 ⟨rfl, he, hf⟩; have Ak := hide he; have Ar := hide ((HFr.out.trans (Fr.of_below HB.out)).trans hf); clear he hf))
     clear k2 y0 y1 y2 CT CD
     generalize defendE T e1 r = e2 at *
     have CL := hide (dA Ak.out Ac aX)
     obtain ⟨AD, Al⟩ := Ak.out
     have AB := Al.bx.get (i := 17) rfl
     have Aq := Al.ob.get (bt Ac)
     clear Al
     by_cases hx : e2.ob hm = 0
     · have HT : Hid (cD T e r = tell e2 hm 3) := hide (by rw [An.out, if_pos hx])
       have Ab : (e2.ob hm == 0) = true := by simpa using hx
       generalize e2.ob hm = x at Aq Ab
       clear hx
       go_wp2_with (go_at_call 213; refine CL.out.mono ?_; rintro _ w4 ⟨rfl, he, hf⟩; have Ah := hide he; have Ai := hide hf; clear he hf)
       go_end0
       exact ⟨rfl, by rw [HT.out]; exact Ah.out, Ar.out.trans Ai.out⟩
     · have HT : Hid (cD T e r = e2) := hide (by rw [An.out, if_neg hx])
       have Ab : (e2.ob hm == 0) = false := by simpa using hx
       generalize e2.ob hm = x at Aq Ab
       clear hx
       go_wp2_with fail
       go_end0
       exact ⟨rfl, by rw [HT.out]; exact Ak.out, Ar.out⟩
theorem wh {r : Nat} (h : Eg N S A T F n e w) (hr : r < T.rules.length) :
    Calls Tryz.prog 222 #[ab A.K, .int .i64 r] w fun o w' => o = .returned (.tuple #[]) ∧ Eg N S A T F n (bO T e r) w' ∧ Fr (fun k => ¬ S k) w w' := by
 have As := hide h
 obtain ⟨tv, h⟩ := h
 have HE := hide h
 have AD : T.rules.length ≤ 4096 := h.pf.ok.rl
 obtain ⟨kd, hm, gr, go, bv, hh, Ab, Ae, er, Af⟩ := nj h hr
 have x1 := (Af w fun _ _ => rfl).2.1
 obtain ⟨la, lc, cl, Ag⟩ := h.ro.lv.stay Ab
 have k2 := h.bx.get (i := 2) rfl
 have k6 := h.bx.get (i := 6) rfl
 rw [er] at k2
 obtain ⟨l, hl⟩ : ∃ l, aj T (hm : Int) = l := ⟨_, rfl⟩
 rw [hl] at cl Ag
 have AC : l.length ≤ 64 := by rw [← hl]; exact dg h.pf Ab
 have An : Hid (aj T (ag T r) = l) := hide (by rw [hh, hl])
 have Az : Hid (∀ p ∈ l, lH n p) := hide fun p hp => gL h.pf Ab (by rw [hl]; exact hp)
 have Ar := hide Ag
 have Av := hide Af
 have Aw := hide er
 have Am := hide Ae
 have HR : Hid (bO T e r = if aP T r then (if dW (withE T (l.foldl (drop1 T (r : Int)) e) r) true hm then aJ (aF (withE T (l.foldl (drop1 T (r : Int)) e) r) true hm) hm else aF (withE T (l.foldl (drop1 T (r : Int)) e) r) true hm) else l.foldl (drop1 T (r : Int)) e) := hide (by unfold bO; rw [hh, hl])
 clear h Af Ag er hh hl Ae
 go_enter Tryz.func222, Tryz.ntmps222
 go_wp2_with fail
 clear k2 k6 cl x1
 go_loopw [26] (fun x wr => ∃ k : Nat, k ≤ l.length ∧ x = .int .i64 k ∧ Hid (Eg N S A T F n ((l.take k).foldl (drop1 T (r : Int)) e) wr) ∧ Hid (Fr (fun k => ¬ S k) w wr)) (fun x _ => l.length - (intOf x).toNat)
 case atStart => exact ⟨0, by omega, rfl, hide As.out, hide (Fr.refl _ _)⟩
 case round =>
  obtain ⟨k, hk, rfl, HEr, HFr⟩ := hrel
  by_cases hlt : k < l.length
  · obtain ⟨p0, hp⟩ := am hlt
    obtain ⟨Ak, Ay⟩ := Az.out p0 (List.mem_of_getElem? hp)
    obtain ⟨p, rfl⟩ := Int.eq_ofNat_of_zero_le Ak
    have Aq : p < n := by omega
    obtain ⟨gx, ox, rfl, cx⟩ := (Ar.out wr (HE.out.stay HFr.out)).get hp
    have Ai : Hid ((l.take (k + 1)).foldl (drop1 T (r : Int)) e = drop1 T (r : Int) ((l.take k).foldl (drop1 T (r : Int)) e) p) := hide (dj hp)
    generalize (l.take k).foldl (drop1 T (r : Int)) e = e1 at HEr Ai
    obtain ⟨Ax, Aa⟩ := HEr.out
    have CC := hide (kU Aa Aq)
    have AE := Aa.bx.get (i := 16) rfl
    have c1 := Aa.ro.lx.get (i := r) (v := sl (A.cr r) l.length) (by rw [List.getElem?_map, List.getElem?_range hr, ← An.out]; rfl)
    have c2 := (Aa.cr r hr).get (fQ (k := k) (p := (p : Int)) (by rw [An.out]; exact hp)).2
    clear hp Aa Ak Ay
    cases hx : e1.cb r p with
    | false =>
     have HT : Hid (drop1 T (r : Int) e1 p = bw T (ce e1 p) p) := hide (by unfold drop1; rw [hx]; rfl)
     rw [hx] at c2
     clear hx
     go_wp2_with (first | (go_at_call 212; refine CC.out.mono ?_; rintro _ w4 ⟨rfl, he, hf⟩; have CV := hide (jk (⟨_, he⟩ : Eg N S A T F n _ _) Aq); have Ad := hide hf; clear he hf) | (go_at_call 215; refine CV.out.mono ?_; rintro _ w5 ⟨rfl, he, hf⟩; have Aj := hide he; have Ah := hide (Ad.out.trans hf); clear he hf))
     go_roundw
     case rel => exact ⟨k + 1, by omega, by go_num, hide (by rw [Ai.out, HT.out]; exact Aj.out), hide (HFr.out.trans Ah.out)⟩
     case measure => simp [intOf]; omega
    | true =>
     have HT : Hid (drop1 T (r : Int) e1 p = e1) := hide (by unfold drop1; rw [hx]; rfl)
     rw [hx] at c2
     clear hx
     go_wp2_with fail
     go_roundw
     case rel => exact ⟨k + 1, by omega, by go_num, hide (by rw [Ai.out, HT.out]; exact HEr.out), HFr⟩
     case measure => simp [intOf]; omega
  · have HL : Hid (l.take k = l) := hide (List.take_of_length_le (by omega))
    rw [HL.out] at HEr
    generalize l.foldl (drop1 T (r : Int)) e = e1 at *
    obtain ⟨Ax, Aa⟩ := HEr.out
    obtain ⟨y0, y1, y2⟩ := Av.out wr (HE.out.stay HFr.out)
    have k2 := Aa.bx.get (i := 2) rfl
    rw [Aw.out] at k2
    have CT := hide (fA (w := wr) (k := kd) (h := (hm : Int)) (v := bv))
    cases htm : aP T r with
    | false =>
     have Ac : (!decide (kd = 3)) = false := by rw [← Am.out]; exact htm
     rw [Ac] at CT
     have HT : Hid (bO T e r = e1) := hide (by rw [HR.out, htm]; rfl)
     clear htm Ac Aa
     go_wp2_with (go_at_call 176; refine CT.out.mono ?_; rintro _ w2 ⟨rfl, hb⟩; have HB := hide hb; clear hb)
     go_end0
     exact ⟨rfl, by rw [HT.out]; exact HEr.out.go HB.out, HFr.out.trans (Fr.of_below HB.out)⟩
    | true =>
     have Ac : (!decide (kd = 3)) = true := by rw [← Am.out]; exact htm
     rw [Ac] at CT
     have Au := hide htm
     have Al : Hid (bO T e r = if dW (withE T e1 r) true hm then aJ (aF (withE T e1 r) true hm) hm else aF (withE T e1 r) true hm) := hide (by rw [HR.out, htm]; rfl)
     clear htm Ac Aa
     go_upto_region 10 with (first | (go_at_call 176; refine CT.out.mono ?_; rintro _ w2 ⟨rfl, hb⟩; have HB := hide hb; have CD := hide (qd (HEr.out.go hb) hr Au.out); clear hb) | (go_at_call 238; refine CD.out.mono ?_; rintro _ w3 ⟨rfl, he, hf⟩; have AA := hide he; have Ap := hide ((HFr.out.trans (Fr.of_below HB.out)).trans hf); clear he hf))
     clear k2 y0 y1 y2 CT CD
     generalize withE T e1 r = e2 at *
     obtain ⟨AB, Ao⟩ := AA.out
     have CX := hide (qV Ao Ab)
     clear Ao
     cases hx : dW e2 true hm with
     | true =>
      have HT : Hid (bO T e r = aJ (aF e2 true hm) hm) := hide (by rw [Al.out, hx]; rfl)
      rw [hx] at CX
      clear hx
      go_wp2_with (first | (go_at_call 220; refine CX.out.mono ?_; rintro _ w4 ⟨rfl, he, hf⟩; have CL := hide (fM (⟨_, he⟩ : Eg N S A T F n _ _) Ab); have Ad := hide hf; clear he hf) | (go_at_call 218; refine CL.out.mono ?_; rintro _ w5 ⟨rfl, he, hf⟩; have Aj := hide he; have Ah := hide (Ad.out.trans hf); clear he hf))
      go_end0
      exact ⟨rfl, by rw [HT.out]; exact Aj.out, Ap.out.trans Ah.out⟩
     | false =>
      have HT : Hid (bO T e r = aF e2 true hm) := hide (by rw [Al.out, hx]; rfl)
      rw [hx] at CX
      clear hx
      go_wp2_with (go_at_call 220; refine CX.out.mono ?_; rintro _ w4 ⟨rfl, he, hf⟩; have At := hide he; have Ad := hide hf; clear he hf)
      go_end0
      exact ⟨rfl, by rw [HT.out]; exact ⟨_, At.out⟩, Ap.out.trans Ad.out⟩
end
set_option maxRecDepth 100000
set_option maxHeartbeats 6400000
section
variable {N : Nat} {S : Nat → Prop} {A : Ad} {T : Th} {F : List Int} {n : Nat} {e : Es} {tv : Value} {w w' : World}
theorem yV {p : RuleM → Bool} {k : Nat} {z x : Int} (h : x ∈ dw T p k z) : 0 ≤ x ∧ x < (k : Int) := by
 unfold dw at h
 obtain ⟨a, ha, rfl⟩ := List.mem_map.1 h
 have := List.mem_range.1 (List.mem_filter.1 ha).1
 exact ⟨Int.natCast_nonneg _, by show (a : Int) < k; omega⟩
theorem xJ {p : RuleM → Bool} {k : Nat} {z : Int} : (dw T p k z).length ≤ k := by
 unfold dw
 rw [List.length_map]
 exact Nat.le_trans (List.length_filter_le _ _) (by simp)
theorem kw (h : En N S A T F n e tv w) (b : Bool) {q : Nat} (hq : q < n) : ∃ l a c, bh T b q = l ∧ l.length ≤ 4096 ∧ (∀ x ∈ l, ∃ r : Nat, x = (r : Int) ∧ r < T.rules.length) ∧ w.cell? ⟨A.us b, q, none⟩ = some (.slice a l.length c) ∧ ∀ w' : World, (∀ k, S k → w'.heap[k]? = w.heap[k]?) → At1 w' a (aw l) := by
 obtain ⟨a, c, h1, h2⟩ := (h.ro.lu b).stay hq
 have Aa := h.pf.ok.rl
 refine ⟨_, a, c, rfl, Nat.le_trans xJ Aa, fun x hx => ?_, h1, h2⟩
 obtain ⟨x0, x1⟩ := yV hx
 obtain ⟨r, rfl⟩ := Int.eq_ofNat_of_zero_le x0
 exact ⟨r, rfl, by omega⟩
theorem uo (h : En N S A T F n e tv w) {q : Nat} (hq : q < n) : ∃ l a c g o, row T.foes q = l ∧ A.fa = some ⟨g, o, none⟩ ∧ q < T.foes.length ∧ l.length ≤ 64 ∧ (∀ x ∈ l, lH n x) ∧ (∀ w' : World, (∀ k, S k → w'.heap[k]? = w.heap[k]?) → w'.cell? ⟨g, o + q, none⟩ = some (.slice a l.length c) ∧ At1 w' a (aw l)) := by
 obtain ⟨l, hl⟩ := am (l := T.foes) (i := q) (by have := h.pf.ok.fl; have := h.pf.ln; omega)
 have er : row T.foes (q : Int) = l := bS (by rw [Int.toNat_natCast]; exact hl)
 obtain ⟨g, o, a2, c2, e1, hg, hc, -, -, hI⟩ := d8 h.ro.ta.foes hl
 exact ⟨l, a2, c2, g, o, er, e1, (List.getElem?_eq_some_iff.1 hl).1, by rw [← er]; exact (eG h.pf hq).2, fun x hx => h.pf.foe q hq x (by rw [er]; exact hx), fun w' hk => ⟨by rw [World.cell?_of_block (hk g (h.ro.n0 g hg)), hc], (Ints.keep (fun g hg => hk g (h.ro.n0 g hg)) hI).at1⟩⟩
theorem tM {q : Nat} (h : Eg N S A T F n e w) (hq : q < n) :
    Calls Tryz.prog 183 #[ab A.K, .int .i64 q] w fun o w' => o = .returned (.tuple #[]) ∧ Eg N S A T F n (iX T e q) w' ∧ Fr (fun k => ¬ S k) w w' := by
 have Al := hide h
 obtain ⟨tv, h⟩ := h
 have HE := hide h
 have Ap : T.rules.length ≤ 4096 := h.pf.ok.rl
 have Ai := h.bx.get (i := 12) rfl
 obtain ⟨l, la, lc, el, Ao, Ae, cl, Ac⟩ := kw h true hq
 have Ak := hide Ae
 have Ag := hide Ac
 have HR : Hid (iX T e q = l.foldl (plusD1 T) e) := hide (by unfold iX; rw [el])
 clear h Ae Ac el
 go_enter Tryz.func183, Tryz.ntmps183
 go_wp2_with fail
 clear Ai cl
 go_loopw [15] (fun x wr => ∃ k : Nat, k ≤ l.length ∧ x = .int .i64 k ∧ Hid (Eg N S A T F n ((l.take k).foldl (plusD1 T) e) wr) ∧ Hid (Fr (fun k => ¬ S k) w wr)) (fun x _ => l.length - (intOf x).toNat)
 case atStart => exact ⟨0, by omega, rfl, hide Al.out, hide (Fr.refl _ _)⟩
 case round =>
  obtain ⟨k, hk, rfl, HEr, HFr⟩ := hrel
  by_cases hlt : k < l.length
  · obtain ⟨r0, hr⟩ := am hlt
    obtain ⟨r, rfl, Ad⟩ := Ak.out r0 (List.mem_of_getElem? hr)
    obtain ⟨gx, ox, rfl, cx⟩ := (Ag.out wr (HE.out.stay HFr.out)).get hr
    have Aa : Hid ((l.take (k + 1)).foldl (plusD1 T) e = plusD1 T ((l.take k).foldl (plusD1 T) e) r) := hide (dj hr)
    clear hr
    generalize (l.take k).foldl (plusD1 T) e = e1 at HEr Aa
    obtain ⟨An, Af⟩ := HEr.out
    have CM := hide (wg Af Ad)
    clear Af
    by_cases hx : (bG e1 true r).ms true r = 0
    · have HT : Hid (plusD1 T e1 r = cD T (bG e1 true r) r) := hide (by unfold plusD1; exact if_pos hx)
      rw [decide_eq_true hx] at CM
      clear hx
      go_wp2_with (first | (go_at_call 217; refine CM.out.mono ?_; rintro _ w4 ⟨rfl, he, hf⟩; have CV := hide (yv (⟨_, he⟩ : Eg N S A T F n _ _) Ad); have Ab := hide hf; clear he hf) | (go_at_call 221; refine CV.out.mono ?_; rintro _ w5 ⟨rfl, he, hf⟩; have Aj := hide he; have Ah := hide (Ab.out.trans hf); clear he hf))
      go_roundw
      case rel => exact ⟨k + 1, by omega, by go_num, hide (by rw [Aa.out, HT.out]; exact Aj.out), hide (HFr.out.trans Ah.out)⟩
      case measure => simp [intOf]; omega
    · have HT : Hid (plusD1 T e1 r = bG e1 true r) := hide (by unfold plusD1; exact if_neg hx)
      rw [decide_eq_false hx] at CM
      clear hx
      go_wp2_with (go_at_call 217; refine CM.out.mono ?_; rintro _ w4 ⟨rfl, he, hf⟩; have Am := hide he; have Ab := hide hf; clear he hf)
      go_roundw
      case rel => exact ⟨k + 1, by omega, by go_num, hide (by rw [Aa.out, HT.out]; exact ⟨_, Am.out⟩), hide (HFr.out.trans Ab.out)⟩
      case measure => simp [intOf]; omega
  · have HL : Hid (l.take k = l) := hide (List.take_of_length_le (by omega))
    go_wp2_with fail
    go_end0
    exact ⟨rfl, by rw [HR.out]; have := HEr.out; rw [HL.out] at this; exact this, HFr.out⟩
theorem sY {q : Nat} (h : Eg N S A T F n e w) (hq : q < n) :
    Calls Tryz.prog 184 #[ab A.K, .int .i64 q] w fun o w' => o = .returned (.tuple #[]) ∧ Eg N S A T F n (gO T e q) w' ∧ Fr (fun k => ¬ S k) w w' := by
 have Al := hide h
 obtain ⟨tv, h⟩ := h
 have HE := hide h
 have Ap : T.rules.length ≤ 4096 := h.pf.ok.rl
 have Ai := h.bx.get (i := 12) rfl
 obtain ⟨l, la, lc, el, Ao, Ae, cl, Ac⟩ := kw h true hq
 have Ak := hide Ae
 have Ag := hide Ac
 have HR : Hid (gO T e q = l.foldl (minusD1 T) e) := hide (by unfold gO; rw [el])
 clear h Ae Ac el
 go_enter Tryz.func184, Tryz.ntmps184
 go_wp2_with fail
 clear Ai cl
 go_loopw [15] (fun x wr => ∃ k : Nat, k ≤ l.length ∧ x = .int .i64 k ∧ Hid (Eg N S A T F n ((l.take k).foldl (minusD1 T) e) wr) ∧ Hid (Fr (fun k => ¬ S k) w wr)) (fun x _ => l.length - (intOf x).toNat)
 case atStart => exact ⟨0, by omega, rfl, hide Al.out, hide (Fr.refl _ _)⟩
 case round =>
  obtain ⟨k, hk, rfl, HEr, HFr⟩ := hrel
  by_cases hlt : k < l.length
  · obtain ⟨r0, hr⟩ := am hlt
    obtain ⟨r, rfl, Ad⟩ := Ak.out r0 (List.mem_of_getElem? hr)
    obtain ⟨gx, ox, rfl, cx⟩ := (Ag.out wr (HE.out.stay HFr.out)).get hr
    have Aa : Hid ((l.take (k + 1)).foldl (minusD1 T) e = minusD1 T ((l.take k).foldl (minusD1 T) e) r) := hide (dj hr)
    clear hr
    generalize (l.take k).foldl (minusD1 T) e = e1 at HEr Aa
    obtain ⟨An, Af⟩ := HEr.out
    have CM := hide (qO Af Ad)
    clear Af
    cases hx : e1.rf true r with
    | false =>
     have HT : Hid (minusD1 T e1 r = bO T (refE e1 true r) r) := hide (by unfold minusD1; rw [hx]; rfl)
     rw [hx] at CM
     clear hx
     go_wp2_with (first | (go_at_call 219; refine CM.out.mono ?_; rintro _ w4 ⟨rfl, he, hf⟩; have CV := hide (wh (⟨_, he⟩ : Eg N S A T F n _ _) Ad); have Ab := hide hf; clear he hf) | (go_at_call 222; refine CV.out.mono ?_; rintro _ w5 ⟨rfl, he, hf⟩; have Aj := hide he; have Ah := hide (Ab.out.trans hf); clear he hf))
     go_roundw
     case rel => exact ⟨k + 1, by omega, by go_num, hide (by rw [Aa.out, HT.out]; exact Aj.out), hide (HFr.out.trans Ah.out)⟩
     case measure => simp [intOf]; omega
    | true =>
     have HT : Hid (minusD1 T e1 r = e1 ∧ refE e1 true r = e1) := hide ⟨by unfold minusD1; rw [hx]; rfl, by unfold refE; rw [hx]; rfl⟩
     rw [hx] at CM
     clear hx
     go_wp2_with (go_at_call 219; refine CM.out.mono ?_; rintro _ w4 ⟨rfl, he, hf⟩; have Am := hide he; have Ab := hide hf; clear he hf)
     go_roundw
     case rel => exact ⟨k + 1, by omega, by go_num, hide (by rw [Aa.out, HT.out.1]; have := Am.out; rw [HT.out.2] at this; exact ⟨_, this⟩), hide (HFr.out.trans Ab.out)⟩
     case measure => simp [intOf]; omega
  · have HL : Hid (l.take k = l) := hide (List.take_of_length_le (by omega))
    go_wp2_with fail
    go_end0
    exact ⟨rfl, by rw [HR.out]; have := HEr.out; rw [HL.out] at this; exact this, HFr.out⟩
theorem ui {q : Nat} (h : Eg N S A T F n e w) (hq : q < n) :
    Calls Tryz.prog 181 #[ab A.K, .int .i64 q] w fun o w' => o = .returned (.tuple #[]) ∧ Eg N S A T F n (fY T e q) w' ∧ Fr (fun k => ¬ S k) w w' := by
 have CT := hide (dA h hq aX)
 obtain ⟨tv, h⟩ := h
 have HE := hide h
 have AG : T.rules.length ≤ 4096 := h.pf.ok.rl
 obtain ⟨l, la, lc, el, AF, Ap, cl, Ai⟩ := kw h false hq
 obtain ⟨fl, fa, fc, gf, of, ef, Am, AH, AE, Ag, Ae⟩ := uo h hq
 have AC := hide Ap
 have Ar := hide Ai
 have Aq := hide Ag
 have Ac := hide Ae
 have Az := hide Am
 have Av := hide fun (r : Nat) (hr : r < T.rules.length) => jm h hr
 have Ay : Hid (∀ w' : World, (∀ k, S k → w'.heap[k]? = w.heap[k]?) → w'.cell? ⟨A.us false, q, none⟩ = some (.slice la l.length lc)) := hide fun w' hk => by rw [World.cell?_of_block (hk _ (h.ro.lu false).1), cl]
 have HR : Hid (fY T e q = fl.foldl aJ (l.foldl (plusS1 T) (tell e q 3))) := hide (by unfold fY; rw [el, ef])
 clear h Ap Ai el Ag Ae ef Am cl
 go_enter Tryz.func181, Tryz.ntmps181
 go_upto_region 1 with (go_at_call 213; refine CT.out.mono ?_; rintro _ w2 ⟨rfl, he, hf⟩; have Ao := hide he; have Ak := hide hf; clear he hf)
 clear CT
 generalize tell e q 3 = e0 at *
 have c8 : w2.cell? ⟨A.K, 8, none⟩ = some (sl (A.us false) n) := by obtain ⟨At, h2⟩ := Ao.out; exact h2.bx.get (i := 8) rfl
 have cl := Ay.out w2 (HE.out.stay Ak.out)
 go_wp2_with fail
 clear c8 cl
 go_loopw [20] (fun x wr => ∃ k : Nat, k ≤ l.length ∧ x = .int .i64 k ∧ Hid (Eg N S A T F n ((l.take k).foldl (plusS1 T) e0) wr) ∧ Hid (Fr (fun k => ¬ S k) w wr)) (fun x _ => l.length - (intOf x).toNat)
 case atStart => exact ⟨0, by omega, rfl, hide Ao.out, Ak⟩
 case round =>
  obtain ⟨k, hk, rfl, HEr, HFr⟩ := hrel
  by_cases hlt : k < l.length
  · obtain ⟨r0, hr⟩ := am hlt
    obtain ⟨r, rfl, An⟩ := AC.out r0 (List.mem_of_getElem? hr)
    obtain ⟨gx, ox, rfl, cx⟩ := (Ar.out wr (HE.out.stay HFr.out)).get hr
    have Aa : Hid ((l.take (k + 1)).foldl (plusS1 T) e0 = plusS1 T ((l.take k).foldl (plusS1 T) e0) r) := hide (dj hr)
    clear hr
    generalize (l.take k).foldl (plusS1 T) e0 = e1 at HEr Aa
    obtain ⟨AI, Al⟩ := HEr.out
    have CM := hide (uX Al An)
    clear Al
    by_cases hx : (bG e1 false r).ms false r = 0
    · obtain ⟨hm, gr, go, hh, As, er, Aj⟩ := Av.out r An
      have HT : Hid (plusS1 T e1 r = tell (bG e1 false r) hm 1) := hide (by unfold plusS1; rw [hh]; exact if_pos hx)
      rw [decide_eq_true hx] at CM
      have AA := hide Aj
      have AB := hide er
      clear hx Aj er hh
      go_upto_region 5 with (go_at_call 217; refine CM.out.mono ?_; rintro _ w4 ⟨rfl, he, hf⟩; have Ad := hide he; have CV := hide (dA (⟨_, he⟩ : Eg N S A T F n _ _) As aL); have Ab := hide hf; clear he hf)
      have c2 := Ad.out.bx.get (i := 2) rfl
      rw [AB.out] at c2
      have x1 := AA.out w4 (HE.out.stay (HFr.out.trans Ab.out))
      go_wp2_with (go_at_call 213; refine CV.out.mono ?_; rintro _ w5 ⟨rfl, he, hf⟩; have Ah := hide he; have Af := hide (Ab.out.trans hf); clear he hf)
      go_roundw
      case rel => exact ⟨k + 1, by omega, by go_num, hide (by rw [Aa.out, HT.out]; exact Ah.out), hide (HFr.out.trans Af.out)⟩
      case measure => simp [intOf]; omega
    · have HT : Hid (plusS1 T e1 r = bG e1 false r) := hide (by unfold plusS1; exact if_neg hx)
      rw [decide_eq_false hx] at CM
      clear hx
      go_wp2_with (go_at_call 217; refine CM.out.mono ?_; rintro _ w4 ⟨rfl, he, hf⟩; have Ad := hide he; have Ab := hide hf; clear he hf)
      go_roundw
      case rel => exact ⟨k + 1, by omega, by go_num, hide (by rw [Aa.out, HT.out]; exact ⟨_, Ad.out⟩), hide (HFr.out.trans Ab.out)⟩
      case measure => simp [intOf]; omega
  · have HL : Hid (l.take k = l) := hide (List.take_of_length_le (by omega))
    rw [HL.out] at HEr
    generalize l.foldl (plusS1 T) e0 = e1 at *
    have c1 : wr.cell? ⟨A.K, 1, none⟩ = some (.slice (some ⟨gf, of, none⟩) T.foes.length A.fc) := by obtain ⟨At, h2⟩ := HEr.out; rw [← Az.out]; exact h2.bx.get (i := 1) rfl
    obtain ⟨cf, -⟩ := Ac.out wr (HE.out.stay HFr.out)
    go_wp2_with fail
    clear c1 cf
    have AD := hide HEr.out
    have Ax := hide HFr.out
    clear HEr HFr
    go_loopw [53] (fun x wz => ∃ j : Nat, j ≤ fl.length ∧ x = .int .i64 j ∧ Hid (Eg N S A T F n ((fl.take j).foldl aJ e1) wz) ∧ Hid (Fr (fun k => ¬ S k) w wz)) (fun x _ => fl.length - (intOf x).toNat)
    case atStart => exact ⟨0, by omega, rfl, hide AD.out, Ax⟩
    case round =>
     rename World => wz
     obtain ⟨j, hj, rfl, HEr, HFr⟩ := hrel
     by_cases hjl : j < fl.length
     · obtain ⟨p0, hp⟩ := am hjl
       obtain ⟨Au, AJ⟩ := Aq.out p0 (List.mem_of_getElem? hp)
       obtain ⟨p, rfl⟩ := Int.eq_ofNat_of_zero_le Au
       obtain ⟨gx, ox, rfl, cx⟩ := (Ac.out wz (HE.out.stay HFr.out)).2.get hp
       have Aa : Hid ((fl.take (j + 1)).foldl aJ e1 = aJ ((fl.take j).foldl aJ e1) p) := hide (dj hp)
       have CL := hide (fM HEr.out (show p < n by omega))
       clear hp
       go_wp2_with (go_at_call 218; refine CL.out.mono ?_; rintro _ w5 ⟨rfl, he, hf⟩; have Ah := hide he; have Af := hide hf; clear he hf)
       go_roundw
       case rel => exact ⟨j + 1, by omega, by go_num, hide (by rw [Aa.out]; exact Ah.out), hide (HFr.out.trans Af.out)⟩
       case measure => simp [intOf]; omega
     · have Aw : Hid (fl.take j = fl) := hide (List.take_of_length_le (by omega))
       go_wp2_with fail
       go_end0
       exact ⟨rfl, by rw [HR.out]; have := HEr.out; rw [Aw.out] at this; exact this, HFr.out⟩
end
set_option maxRecDepth 100000
set_option maxHeartbeats 6400000
section
variable {N : Nat} {S : Nat → Prop} {A : Ad} {T : Th} {F : List Int} {n : Nat} {e : Es} {tv : Value} {w w' : World}
theorem sL {e : Es} {r hm : Int} (hh : ag T r = hm) : minusS1 T e r = if e.rf false r then e else if dW (refE e false r) false hm then tell (aF (refE e false r) false hm) hm 2 else aF (refE e false r) false hm := by unfold minusS1; rw [hh]
theorem sA {q : Nat} (h : Eg N S A T F n e w) (hq : q < n) :
    Calls Tryz.prog 182 #[ab A.K, .int .i64 q] w fun o w' => o = .returned (.tuple #[]) ∧ Eg N S A T F n (dN T F e q) w' ∧ Fr (fun k => ¬ S k) w w' := by
 have Au := hide h
 obtain ⟨tv, h⟩ := h
 have HE := hide h
 have AH : T.rules.length ≤ 4096 := h.pf.ok.rl
 have k8 := h.bx.get (i := 8) rfl
 obtain ⟨l, la, lc, el, AG, An, cl, Ak⟩ := kw h false hq
 obtain ⟨va, vc, cv, Ag⟩ := h.ro.lv.stay hq
 obtain ⟨vl, Af⟩ : ∃ vl, aj T (q : Int) = vl := ⟨_, rfl⟩
 rw [Af] at cv Ag
 have AE : vl.length ≤ 64 := by rw [← Af]; exact dg h.pf hq
 have Aq : Hid (∀ p ∈ vl, lH n p) := hide fun p hp => gL h.pf hq (by rw [Af]; exact hp)
 have Ap := hide Ag
 have Az : Hid (∀ w' : World, (∀ k, S k → w'.heap[k]? = w.heap[k]?) → w'.cell? ⟨A.rv, q, none⟩ = some (.slice va vl.length vc)) := hide fun w' hk => by rw [World.cell?_of_block (hk _ h.ro.lv.1), cv]
 have AB := hide An
 have Ar := hide Ak
 have Av := hide fun (r : Nat) (hr : r < T.rules.length) => jm h hr
 have HR : Hid (dN T F e q = aG T (if aA T F q then vl.foldl (i5 T) (l.foldl (minusS1 T) e) else l.foldl (minusS1 T) e) q) := hide (by unfold dN; rw [el, Af])
 clear h An Ak el Ag Af cv
 go_enter Tryz.func182, Tryz.ntmps182
 go_wp2_with fail
 clear k8 cl
 go_loopw [18] (fun x wr => ∃ k : Nat, k ≤ l.length ∧ x = .int .i64 k ∧ Hid (Eg N S A T F n ((l.take k).foldl (minusS1 T) e) wr) ∧ Hid (Fr (fun k => ¬ S k) w wr)) (fun x _ => l.length - (intOf x).toNat)
 case atStart => exact ⟨0, by omega, rfl, hide Au.out, hide (Fr.refl _ _)⟩
 case round =>
  obtain ⟨k, hk, rfl, HEr, HFr⟩ := hrel
  by_cases hlt : k < l.length
  · obtain ⟨r0, hr⟩ := am hlt
    obtain ⟨r, rfl, Al⟩ := AB.out r0 (List.mem_of_getElem? hr)
    obtain ⟨gx, ox, rfl, cx⟩ := (Ar.out wr (HE.out.stay HFr.out)).get hr
    have Ae : Hid ((l.take (k + 1)).foldl (minusS1 T) e = minusS1 T ((l.take k).foldl (minusS1 T) e) r) := hide (dj hr)
    clear hr
    generalize (l.take k).foldl (minusS1 T) e = e1 at HEr Ae
    obtain ⟨AA, Ab⟩ := HEr.out
    have CM := hide (qQ Ab Al)
    obtain ⟨hm, gr, go, hh, Ah, er, Aj⟩ := Av.out r Al
    have c2 := Ab.bx.get (i := 2) rfl
    rw [er] at c2
    have x1 := Aj wr (HE.out.stay HFr.out)
    have Ai := hide (sL (e := e1) hh)
    clear Ab Aj er hh
    cases hx : e1.rf false r with
    | true =>
     have HT : Hid (minusS1 T e1 r = e1 ∧ refE e1 false r = e1) := hide ⟨by rw [Ai.out, hx]; rfl, by unfold refE; rw [hx]; rfl⟩
     rw [hx] at CM
     clear hx
     go_wp2_with (go_at_call 219; refine CM.out.mono ?_; rintro _ w4 ⟨rfl, he, hf⟩; have Ay := hide he; have Ac := hide hf; clear he hf)
     go_roundw
     case rel => exact ⟨k + 1, by omega, by go_num, hide (by rw [Ae.out, HT.out.1]; have := Ay.out; rw [HT.out.2] at this; exact ⟨_, this⟩), hide (HFr.out.trans Ac.out)⟩
     case measure => simp [intOf]; omega
    | false =>
     have Am : Hid (minusS1 T e1 r = if dW (refE e1 false r) false hm then tell (aF (refE e1 false r) false hm) hm 2 else aF (refE e1 false r) false hm) := hide (by rw [Ai.out, hx]; rfl)
     rw [hx] at CM
     clear hx Ai
     generalize refE e1 false r = e2 at *
     cases hc : dW e2 false hm with
     | true =>
      have HT : Hid (minusS1 T e1 r = tell (aF e2 false hm) hm 2) := hide (by rw [Am.out, hc]; rfl)
      have HC := hide hc
      clear hc
      go_wp2_with (first | (go_at_call 219; refine CM.out.mono ?_; rintro _ w4 ⟨rfl, he, hf⟩; have CX := hide (lP he Ah); rw [HC.out] at CX; have Ac := hide hf; clear he hf) | (go_at_call 220; refine CX.out.mono ?_; rintro _ w5 ⟨rfl, he, hf⟩; have CV := hide (dA (⟨_, he⟩ : Eg N S A T F n _ _) Ah aM); have Aa := hide (Ac.out.trans hf); clear he hf) | (go_at_call 213; refine CV.out.mono ?_; rintro _ w6 ⟨rfl, he, hf⟩; have AD := hide he; have As := hide (Aa.out.trans hf); clear he hf))
      go_roundw
      case rel => exact ⟨k + 1, by omega, by go_num, hide (by rw [Ae.out, HT.out]; exact AD.out), hide (HFr.out.trans As.out)⟩
      case measure => simp [intOf]; omega
     | false =>
      have HT : Hid (minusS1 T e1 r = aF e2 false hm) := hide (by rw [Am.out, hc]; rfl)
      have HC := hide hc
      clear hc
      go_wp2_with (first | (go_at_call 219; refine CM.out.mono ?_; rintro _ w4 ⟨rfl, he, hf⟩; have CX := hide (lP he Ah); rw [HC.out] at CX; have Ac := hide hf; clear he hf) | (go_at_call 220; refine CX.out.mono ?_; rintro _ w5 ⟨rfl, he, hf⟩; have Ad := hide he; have Aa := hide (Ac.out.trans hf); clear he hf))
      go_roundw
      case rel => exact ⟨k + 1, by omega, by go_num, hide (by rw [Ae.out, HT.out]; exact ⟨_, Ad.out⟩), hide (HFr.out.trans Aa.out)⟩
      case measure => simp [intOf]; omega
  · have HL : Hid (l.take k = l) := hide (List.take_of_length_le (by omega))
    rw [HL.out] at HEr
    generalize l.foldl (minusS1 T) e = e1 at *
    obtain ⟨AA, Ab⟩ := HEr.out
    have c7 := Ab.bx.get (i := 7) rfl
    have cf := Ab.ro.lf.get (dK hq)
    have c6 := Ab.bx.get (i := 6) rfl
    have cv := Az.out wr (HE.out.stay HFr.out)
    clear Ab
    cases hfm : aA T F q with
    | false =>
     have HT : Hid (dN T F e q = aG T e1 q) := hide (by rw [HR.out, hfm]; rfl)
     rw [hfm] at cf
     have CD := hide (gk HEr.out hq)
     clear hfm
     go_wp2_with (go_at_call 216; refine CD.out.mono ?_; rintro _ w5 ⟨rfl, he, hf⟩; have Ad := hide he; have Aa := hide hf; clear he hf)
     go_end0
     exact ⟨rfl, by rw [HT.out]; exact Ad.out, HFr.out.trans Aa.out⟩
    | true =>
     have HT : Hid (dN T F e q = aG T (vl.foldl (i5 T) e1) q) := hide (by rw [HR.out, hfm]; rfl)
     rw [hfm] at cf
     clear hfm
     go_wp2_with fail
     clear c7 cf c6 cv
     have AC := hide HEr.out
     have Ax := hide HFr.out
     clear HEr HFr
     go_loopw [67] (fun x wz => ∃ j : Nat, j ≤ vl.length ∧ x = .int .i64 j ∧ Hid (Eg N S A T F n ((vl.take j).foldl (i5 T) e1) wz) ∧ Hid (Fr (fun k => ¬ S k) w wz)) (fun x _ => vl.length - (intOf x).toNat)
     case atStart => exact ⟨0, by omega, rfl, hide AC.out, Ax⟩
     case round =>
      rename World => wz
      obtain ⟨j, hj, rfl, HEr, HFr⟩ := hrel
      by_cases hjl : j < vl.length
      · obtain ⟨p0, hp⟩ := am hjl
        obtain ⟨At, AI⟩ := Aq.out p0 (List.mem_of_getElem? hp)
        obtain ⟨p, rfl⟩ := Int.eq_ofNat_of_zero_le At
        have Ao : p < n := by omega
        obtain ⟨gx, ox, rfl, cx⟩ := (Ap.out wz (HE.out.stay HFr.out)).get hp
        have Ae : Hid ((vl.take (j + 1)).foldl (i5 T) e1 = bw T (ce ((vl.take j).foldl (i5 T) e1) p) p) := hide (dj hp)
        obtain ⟨AF, h3⟩ := HEr.out
        have CC := hide (kU h3 Ao)
        clear hp h3
        go_wp2_with (first | (go_at_call 212; refine CC.out.mono ?_; rintro _ w4 ⟨rfl, he, hf⟩; have CV := hide (jk (⟨_, he⟩ : Eg N S A T F n _ _) Ao); have Ac := hide hf; clear he hf) | (go_at_call 215; refine CV.out.mono ?_; rintro _ w5 ⟨rfl, he, hf⟩; have Ad := hide he; have Aa := hide (Ac.out.trans hf); clear he hf))
        go_roundw
        case rel => exact ⟨j + 1, by omega, by go_num, hide (by rw [Ae.out]; exact Ad.out), hide (HFr.out.trans Aa.out)⟩
        case measure => simp [intOf]; omega
      · have Aw : Hid (vl.take j = vl) := hide (List.take_of_length_le (by omega))
        rw [Aw.out] at HEr
        have CD := hide (gk HEr.out hq)
        go_wp2_with (go_at_call 216; refine CD.out.mono ?_; rintro _ w5 ⟨rfl, he, hf⟩; have Ad := hide he; have Aa := hide hf; clear he hf)
        go_end0
        exact ⟨rfl, by rw [HT.out]; exact Ad.out, HFr.out.trans Aa.out⟩
theorem jX {f : Es → Nat → Es} {e : Es} {k : Nat} : (List.range (k + 1)).foldl f e = f ((List.range k).foldl f e) k := by rw [List.range_succ, List.foldl_append]; rfl
theorem tZ (h : Eg N S A T F n e w) :
    Calls Tryz.prog 180 #[ab A.K] w fun o w' => o = .returned (.tuple #[]) ∧ Eg N S A T F n (beginE T F n e) w' ∧ Fr (fun k => ¬ S k) w w' := by
 have An := hide h
 obtain ⟨tv, h⟩ := h
 have HE := hide h
 have Aq := h.pf.n4
 have k7 := h.bx.get (i := 7) rfl
 clear h
 go_enter Tryz.func180, Tryz.ntmps180
 go_wp2_with fail
 clear k7
 go_loopw [11] (fun x wr => ∃ k : Nat, k ≤ n ∧ x = .int .i64 k ∧ Hid (Eg N S A T F n ((List.range k).foldl (bN T F) e) wr) ∧ Hid (Fr (fun k => ¬ S k) w wr)) (fun x _ => n - (intOf x).toNat)
 case atStart => exact ⟨0, by omega, rfl, hide An.out, hide (Fr.refl _ _)⟩
 case round =>
  obtain ⟨k, hk, rfl, HEr, HFr⟩ := hrel
  by_cases hlt : k < n
  · have Aa : Hid ((List.range (k + 1)).foldl (bN T F) e = bN T F ((List.range k).foldl (bN T F) e) k) := hide jX
    generalize (List.range k).foldl (bN T F) e = e1 at HEr Aa
    have C2 := hide (dA HEr.out hlt aM)
    have C1 := hide (dA HEr.out hlt aL)
    obtain ⟨Ai, Ab⟩ := HEr.out
    have cf := Ab.ro.lf.get (dK hlt)
    have Ar := Ab.bx.get (i := 11) rfl
    have co := (Ab.op false).get (bt hlt)
    clear Ab
    cases hfm : aA T F k with
    | false =>
     rw [hfm] at cf
     have HT : Hid (bN T F e1 k = tell e1 k 2) := hide (by unfold bN; rw [hfm]; rfl)
     clear hfm
     go_wp2_with (go_at_call 213; refine C2.out.mono ?_; rintro _ w5 ⟨rfl, he, hf⟩; have Ae := hide he; have Ac := hide hf; clear he hf)
     go_roundw
     case rel => exact ⟨k + 1, by omega, by go_num, hide (by rw [Aa.out, HT.out]; exact Ae.out), hide (HFr.out.trans Ac.out)⟩
     case measure => simp [intOf]; omega
    | true =>
     rw [hfm] at cf
     by_cases hx : e1.op false k = 0
     · have HT : Hid (bN T F e1 k = tell e1 k 1) := hide (by unfold bN; rw [hfm]; exact if_pos hx)
       have Ad : (e1.op false k == 0) = true := by simpa using hx
       generalize e1.op false k = x at co Ad
       clear hfm hx
       go_wp2_with (go_at_call 213; refine C1.out.mono ?_; rintro _ w5 ⟨rfl, he, hf⟩; have Ae := hide he; have Ac := hide hf; clear he hf)
       go_roundw
       case rel => exact ⟨k + 1, by omega, by go_num, hide (by rw [Aa.out, HT.out]; exact Ae.out), hide (HFr.out.trans Ac.out)⟩
       case measure => simp [intOf]; omega
     · have HT : Hid (bN T F e1 k = e1) := hide (by unfold bN; rw [hfm]; exact if_neg hx)
       have Ad : (e1.op false k == 0) = false := by simpa using hx
       generalize e1.op false k = x at co Ad
       clear hfm hx
       go_wp2_with fail
       go_roundw
       case rel => exact ⟨k + 1, by omega, by go_num, hide (by rw [Aa.out, HT.out]; exact HEr.out), HFr⟩
       case measure => simp [intOf]; omega
  · have Aj : k = n := by omega
    have HR : Hid (beginE T F n e = (List.range n).foldl (da T) ((List.range k).foldl (bN T F) e)) := hide (by rw [Aj]; rfl)
    clear Aj
    generalize (List.range k).foldl (bN T F) e = e1 at *
    have Am : wr.cell? ⟨A.K, 18, none⟩ = some (sl A.mq n) := by obtain ⟨Ai, Ab⟩ := HEr.out; exact Ab.bx.get (i := 18) rfl
    go_wp2_with fail
    clear Am
    have Ao := hide HEr.out
    have Ap := hide HFr.out
    clear HEr HFr
    go_loopw [41] (fun x wz => ∃ j : Nat, j ≤ n ∧ x = .int .i64 j ∧ Hid (Eg N S A T F n ((List.range j).foldl (da T) e1) wz) ∧ Hid (Fr (fun k => ¬ S k) w wz)) (fun x _ => n - (intOf x).toNat)
    case atStart => exact ⟨0, by omega, rfl, hide Ao.out, Ap⟩
    case round =>
     rename World => wz
     obtain ⟨j, hj, rfl, HEr, HFr⟩ := hrel
     by_cases hjl : j < n
     · have Aa : Hid ((List.range (j + 1)).foldl (da T) e1 = da T ((List.range j).foldl (da T) e1) j) := hide jX
       generalize (List.range j).foldl (da T) e1 = e2 at HEr Aa
       have CH : Hid (Calls Tryz.prog 214 #[ab A.K, .int .i64 j, .int .i64 1] wz fun r w' => r = .returned (.bool (has e2 j 1)) ∧ Below wz.heap.size wz w') := hide (by obtain ⟨Ai, Ab⟩ := HEr.out; exact dp Ab hjl aL)
       cases hh : has e2 j 1 with
       | true =>
        have HT : Hid (da T e2 j = aG T (bw T (tell e2 j 3) j) j) := hide (by unfold da; rw [hh]; rfl)
        rw [hh] at CH
        clear hh
        go_wp2_with (first | (go_at_call 214; refine CH.out.mono ?_; rintro _ w3 ⟨rfl, hb⟩; have Ak := hide (Fr.of_below (Z := fun k => ¬ S k) hb); have CT := hide (dA (HEr.out.go hb) hjl aX); clear hb) | (go_at_call 213; refine CT.out.mono ?_; rintro _ w4 ⟨rfl, he, hf⟩; have CV := hide (jk he hjl); have Ag := hide (Ak.out.trans hf); clear he hf) | (go_at_call 215; refine CV.out.mono ?_; rintro _ w5 ⟨rfl, he, hf⟩; have CD := hide (gk he hjl); have Ac := hide (Ag.out.trans hf); clear he hf) | (go_at_call 216; refine CD.out.mono ?_; rintro _ w6 ⟨rfl, he, hf⟩; have Ah := hide he; have Af := hide (Ac.out.trans hf); clear he hf))
        go_roundw
        case rel => exact ⟨j + 1, by omega, by go_num, hide (by rw [Aa.out, HT.out]; exact Ah.out), hide (HFr.out.trans Af.out)⟩
        case measure => simp [intOf]; omega
       | false =>
        have HT : Hid (da T e2 j = aG T (bw T e2 j) j) := hide (by unfold da; rw [hh]; rfl)
        rw [hh] at CH
        clear hh
        go_wp2_with (first | (go_at_call 214; refine CH.out.mono ?_; rintro _ w3 ⟨rfl, hb⟩; have Ag := hide (Fr.of_below (Z := fun k => ¬ S k) hb); have CV := hide (jk (HEr.out.go hb) hjl); clear hb) | (go_at_call 215; refine CV.out.mono ?_; rintro _ w5 ⟨rfl, he, hf⟩; have CD := hide (gk he hjl); have Ac := hide (Ag.out.trans hf); clear he hf) | (go_at_call 216; refine CD.out.mono ?_; rintro _ w6 ⟨rfl, he, hf⟩; have Ah := hide he; have Af := hide (Ac.out.trans hf); clear he hf))
        go_roundw
        case rel => exact ⟨j + 1, by omega, by go_num, hide (by rw [Aa.out, HT.out]; exact Ah.out), hide (HFr.out.trans Af.out)⟩
        case measure => simp [intOf]; omega
     · have Al : j = n := by omega
       subst Al
       go_wp2_with fail
       go_end0
       exact ⟨rfl, by rw [HR.out]; exact HEr.out, HFr.out⟩
end
end Go.Proofs.YtmlhcncagdfjfaaGreat.Fa
