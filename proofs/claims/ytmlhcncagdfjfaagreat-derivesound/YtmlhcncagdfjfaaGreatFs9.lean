import Derived.Test.YtmlhcncagdfjfaaGreatFs2
set_option maxRecDepth 100000
set_option maxHeartbeats 6400000
namespace Go.Proofs.YtmlhcncagdfjfaaGreat.Fa
open Go.RowKit
section
variable {N : Nat} {S : Nat → Prop} {A : Ad} {T : Th} {F : List Int} {n : Nat} {e : Es} {tv : Value} {w w' : World}
theorem oS (h : En N S A T F n e tv w) {r : Nat} (hr : r < T.rules.length) : ∃ (kd : Int) (hm g o : Nat) (bv : Value), aj T r = (hm : Int) ∧ hm < n ∧ aX T r = (!decide (kd = 3)) ∧ A.ra = some ⟨g, o, none⟩ ∧ ∀ w' : World, (∀ k, S k → w'.heap[k]? = w.heap[k]?) → w'.cell? ⟨g, o + r * 3, none⟩ = some (.int .i64 kd) ∧ w'.cell? ⟨g, o + r * 3 + 1, none⟩ = some (.int .i64 hm) ∧ w'.cell? ⟨g, o + r * 3 + 2, none⟩ = some bv := by
 obtain ⟨x, hx, Ac, Ab, Ad⟩ := dv h.pf hr
 obtain ⟨hm, Aa⟩ := Int.eq_ofNat_of_zero_le Ab
 obtain ⟨gr, go, bd, bp, er, hg, x0, x1, x2, -, -, -⟩ := dG h.ro.ta.rules hx
 refine ⟨x.kind, hm, gr, go, _, by rw [Ac, Aa], by omega, ?_, er, fun w' hk => ⟨by rw [World.cell?_of_block (hk gr (h.ro.n0 gr hg)), x0], by rw [World.cell?_of_block (hk gr (h.ro.n0 gr hg)), x1, Aa], by rw [World.cell?_of_block (hk gr (h.ro.n0 gr hg)), x2]⟩⟩
 unfold aX
 rw [Int.toNat_natCast, hx]
 rfl
theorem A3 {r : Nat} (h : Eg N S A T F n e w) (hr : r < T.rules.length) :
    Calls Tryz.prog 221 #[aa A.K, .int .i64 r] w fun o w' => o = .returned (.tuple #[]) ∧ Eg N S A T F n (de T e r) w' ∧ Fr (fun k => ¬ S k) w w' := by
 have Ay := hide h
 obtain ⟨tv, h⟩ := h
 have HE := hide h
 have AC : T.rules.length ≤ 4096 := h.pf.ok.rl
 obtain ⟨kd, hm, gr, go, bv, hh, Ac, Ae, er, Aj⟩ := oS h hr
 have x1 := (Aj w fun _ _ => rfl).2.1
 obtain ⟨la, lc, cl, Ah⟩ := h.ro.lv.stay Ac
 have k2 := h.bx.get (i := 2) rfl
 have k6 := h.bx.get (i := 6) rfl
 rw [er] at k2
 obtain ⟨l, hl⟩ : ∃ l, ao T (hm : Int) = l := ⟨_, rfl⟩
 rw [hl] at cl Ah
 have AD : l.length ≤ 64 := by rw [← hl]; exact dI h.pf Ac
 have Aq : Hid (ao T (aj T r) = l) := hide (by rw [hh, hl])
 have AA : Hid (∀ p ∈ l, dE n p) := hide fun p hp => ip h.pf Ac (by rw [hl]; exact hp)
 have Au := hide Ah
 have Ax := hide Aj
 have Aw := hide er
 have AF := hide hh
 have Am := hide Ae
 have HR : Hid (de T e r = if aX T r then (if (defendE T (l.foldl (use1 (r : Int)) e) r).ob hm = 0 then tell (defendE T (l.foldl (use1 (r : Int)) e) r) hm 3 else defendE T (l.foldl (use1 (r : Int)) e) r) else l.foldl (use1 (r : Int)) e) := hide (by unfold de; rw [hh, hl])
 clear h Aj Ah er hh hl Ae
 go_enter Tryz.func221, Tryz.ntmps221
 go_wp2_with fail
 clear k2 k6 cl x1
 go_loopw [26] (fun x wr => ∃ k : Nat, k ≤ l.length ∧ x = .int .i64 k ∧ Hid (Eg N S A T F n ((l.take k).foldl (use1 (r : Int)) e) wr) ∧ Hid (Fr (fun k => ¬ S k) w wr)) (fun x _ => l.length - (intOf x).toNat)
 case atStart => exact ⟨0, by omega, rfl, hide Ay.out, hide (Fr.refl _ _)⟩
 case round =>
  obtain ⟨k, hk, rfl, HEr, HFr⟩ := hrel
  by_cases hlt : k < l.length
  · obtain ⟨p0, hp⟩ := ap hlt
    obtain ⟨Ao, As⟩ := AA.out p0 (List.mem_of_getElem? hp)
    obtain ⟨p, rfl⟩ := Int.eq_ofNat_of_zero_le Ao
    have Av : p < n := by omega
    obtain ⟨gx, ox, rfl, cx⟩ := (Au.out wr (HE.out.stay HFr.out)).get hp
    have Al : Hid ((l.take (k + 1)).foldl (use1 (r : Int)) e = use1 (r : Int) ((l.take k).foldl (use1 (r : Int)) e) p) := hide (dH hp)
    generalize (l.take k).foldl (use1 (r : Int)) e = e1 at HEr Al
    have CL := hide (gt HEr.out Av)
    obtain ⟨Az, Aa⟩ := HEr.out
    have AE := Aa.bx.get (i := 16) rfl
    have c1 := Aa.ro.lx.get (i := r) (v := sl (A.cr r) l.length) (by rw [List.getElem?_map, List.getElem?_range hr, ← Aq.out]; rfl)
    have c2 := (Aa.cr r hr).get (gB (k := k) (p := (p : Int)) (by rw [Aq.out]; exact hp)).1
    clear hp Aa Ao As
    by_cases hx : e1.cd r p = 0
    · have HT : Hid (use1 (r : Int) e1 p = aQ e1 p) := hide (by unfold use1; rw [if_pos hx])
      have Ab : (e1.cd r p == 0) = true := by simpa using hx
      generalize e1.cd r p = x at c2 Ab
      clear hx
      go_wp2_with (go_at_call 218; refine CL.out.mono ?_; rintro _ w4 ⟨rfl, he, hf⟩; have Af := hide he; have Ai := hide hf; clear he hf)
      go_roundw
      case rel => exact ⟨k + 1, by omega, by go_num, hide (by rw [Al.out, HT.out]; exact Af.out), hide (HFr.out.trans Ai.out)⟩
      case measure => simp [intOf]; omega
    · have HT : Hid (use1 (r : Int) e1 p = e1) := hide (by unfold use1; rw [if_neg hx])
      have Ab : (e1.cd r p == 0) = false := by simpa using hx
      generalize e1.cd r p = x at c2 Ab
      clear hx
      go_wp2_with fail
      go_roundw
      case rel => exact ⟨k + 1, by omega, by go_num, hide (by rw [Al.out, HT.out]; exact HEr.out), HFr⟩
      case measure => simp [intOf]; omega
  · have HL : Hid (l.take k = l) := hide (List.take_of_length_le (by omega))
    rw [HL.out] at HEr
    generalize l.foldl (use1 (r : Int)) e = e1 at *
    obtain ⟨Az, Aa⟩ := HEr.out
    obtain ⟨y0, y1, y2⟩ := Ax.out wr (HE.out.stay HFr.out)
    have k2 := Aa.bx.get (i := 2) rfl
    rw [Aw.out] at k2
    have CT := hide (eQ (w := wr) (k := kd) (h := (hm : Int)) (v := bv))
    cases htm : aX T r with
    | false =>
     have Ad : (!decide (kd = 3)) = false := by rw [← Am.out]; exact htm
     rw [Ad] at CT
     have HT : Hid (de T e r = e1) := hide (by rw [HR.out, htm]; rfl)
     clear htm Ad Aa
     go_wp2_with (go_at_call 176; refine CT.out.mono ?_; rintro _ w2 ⟨rfl, hb⟩; have HB := hide hb; clear hb)
     go_end0
     exact ⟨rfl, by rw [HT.out]; exact HEr.out.go HB.out, HFr.out.trans (Fr.of_below HB.out)⟩
    | true =>
     have Ad : (!decide (kd = 3)) = true := by rw [← Am.out]; exact htm
     rw [Ad] at CT
     have At := hide htm
     have Ap : Hid (de T e r = if (defendE T e1 r).ob hm = 0 then tell (defendE T e1 r) hm 3 else defendE T e1 r) := hide (by rw [HR.out, htm]; rfl)
     clear htm Ad Aa
     go_upto_region 9 with (first | (go_at_call 176; refine CT.out.mono ?_; rintro _ w2 ⟨rfl, hb⟩; have HB := hide hb; have CD := hide (po (HEr.out.go hb) hr At.out); clear hb) | (go_at_call 179; refine CD.out.mono ?_; rintro _ w3 ⟨rfl, he, hf⟩; have Ag := hide he; have An := hide ((HFr.out.trans (Fr.of_below HB.out)).trans hf); clear he hf))
     clear k2 y0 y1 y2 CT CD
     generalize defendE T e1 r = e2 at *
     have CL := hide (dS Ag.out Ac tag3)
     obtain ⟨AG, Ak⟩ := Ag.out
     have AB := Ak.bx.get (i := 17) rfl
     have Ar := Ak.ob.get (bz Ac)
     clear Ak
     by_cases hx : e2.ob hm = 0
     · have HT : Hid (de T e r = tell e2 hm 3) := hide (by rw [Ap.out, if_pos hx])
       have Ab : (e2.ob hm == 0) = true := by simpa using hx
       generalize e2.ob hm = x at Ar Ab
       clear hx
       go_wp2_with (go_at_call 213; refine CL.out.mono ?_; rintro _ w4 ⟨rfl, he, hf⟩; have Af := hide he; have Ai := hide hf; clear he hf)
       go_end0
       exact ⟨rfl, by rw [HT.out]; exact Af.out, An.out.trans Ai.out⟩
     · have HT : Hid (de T e r = e2) := hide (by rw [Ap.out, if_neg hx])
       have Ab : (e2.ob hm == 0) = false := by simpa using hx
       generalize e2.ob hm = x at Ar Ab
       clear hx
       go_wp2_with fail
       go_end0
       exact ⟨rfl, by rw [HT.out]; exact Ag.out, An.out⟩
theorem xW {r : Nat} (h : Eg N S A T F n e w) (hr : r < T.rules.length) :
    Calls Tryz.prog 222 #[aa A.K, .int .i64 r] w fun o w' => o = .returned (.tuple #[]) ∧ Eg N S A T F n (ct T e r) w' ∧ Fr (fun k => ¬ S k) w w' := by
 have Ay := hide h
 obtain ⟨tv, h⟩ := h
 have HE := hide h
 have AB : T.rules.length ≤ 4096 := h.pf.ok.rl
 obtain ⟨kd, hm, gr, go, bv, hh, Ab, Ae, er, Ai⟩ := oS h hr
 have x1 := (Ai w fun _ _ => rfl).2.1
 obtain ⟨la, lc, cl, Ag⟩ := h.ro.lv.stay Ab
 have k2 := h.bx.get (i := 2) rfl
 have k6 := h.bx.get (i := 6) rfl
 rw [er] at k2
 obtain ⟨l, hl⟩ : ∃ l, ao T (hm : Int) = l := ⟨_, rfl⟩
 rw [hl] at cl Ag
 have AC : l.length ≤ 64 := by rw [← hl]; exact dI h.pf Ab
 have Aq : Hid (ao T (aj T r) = l) := hide (by rw [hh, hl])
 have AA : Hid (∀ p ∈ l, dE n p) := hide fun p hp => ip h.pf Ab (by rw [hl]; exact hp)
 have Av := hide Ag
 have Ax := hide Ai
 have Aw := hide er
 have Ak := hide Ae
 have HR : Hid (ct T e r = if aX T r then (if ew (withE T (l.foldl (drop1 T (r : Int)) e) r) true hm then aQ (aK (withE T (l.foldl (drop1 T (r : Int)) e) r) true hm) hm else aK (withE T (l.foldl (drop1 T (r : Int)) e) r) true hm) else l.foldl (drop1 T (r : Int)) e) := hide (by unfold ct; rw [hh, hl])
 clear h Ai Ag er hh hl Ae
 go_enter Tryz.func222, Tryz.ntmps222
 go_wp2_with fail
 clear k2 k6 cl x1
 go_loopw [26] (fun x wr => ∃ k : Nat, k ≤ l.length ∧ x = .int .i64 k ∧ Hid (Eg N S A T F n ((l.take k).foldl (drop1 T (r : Int)) e) wr) ∧ Hid (Fr (fun k => ¬ S k) w wr)) (fun x _ => l.length - (intOf x).toNat)
 case atStart => exact ⟨0, by omega, rfl, hide Ay.out, hide (Fr.refl _ _)⟩
 case round =>
  obtain ⟨k, hk, rfl, HEr, HFr⟩ := hrel
  by_cases hlt : k < l.length
  · obtain ⟨p0, hp⟩ := ap hlt
    obtain ⟨Ao, As⟩ := AA.out p0 (List.mem_of_getElem? hp)
    obtain ⟨p, rfl⟩ := Int.eq_ofNat_of_zero_le Ao
    have Al : p < n := by omega
    obtain ⟨gx, ox, rfl, cx⟩ := (Av.out wr (HE.out.stay HFr.out)).get hp
    have Aj : Hid ((l.take (k + 1)).foldl (drop1 T (r : Int)) e = drop1 T (r : Int) ((l.take k).foldl (drop1 T (r : Int)) e) p) := hide (dH hp)
    generalize (l.take k).foldl (drop1 T (r : Int)) e = e1 at HEr Aj
    obtain ⟨Az, Aa⟩ := HEr.out
    have CC := hide (mM Aa Al)
    have AD := Aa.bx.get (i := 16) rfl
    have c1 := Aa.ro.lx.get (i := r) (v := sl (A.cr r) l.length) (by rw [List.getElem?_map, List.getElem?_range hr, ← Aq.out]; rfl)
    have c2 := (Aa.cr r hr).get (gB (k := k) (p := (p : Int)) (by rw [Aq.out]; exact hp)).2
    clear hp Aa Ao As
    cases hx : e1.cb r p with
    | false =>
     have HT : Hid (drop1 T (r : Int) e1 p = bH T (cW e1 p) p) := hide (by unfold drop1; rw [hx]; rfl)
     rw [hx] at c2
     clear hx
     go_wp2_with (first | (go_at_call 212; refine CC.out.mono ?_; rintro _ w4 ⟨rfl, he, hf⟩; have CV := hide (jY (⟨_, he⟩ : Eg N S A T F n _ _) Al); have Ac := hide hf; clear he hf) | (go_at_call 215; refine CV.out.mono ?_; rintro _ w5 ⟨rfl, he, hf⟩; have Af := hide he; have Ah := hide (Ac.out.trans hf); clear he hf))
     go_roundw
     case rel => exact ⟨k + 1, by omega, by go_num, hide (by rw [Aj.out, HT.out]; exact Af.out), hide (HFr.out.trans Ah.out)⟩
     case measure => simp [intOf]; omega
    | true =>
     have HT : Hid (drop1 T (r : Int) e1 p = e1) := hide (by unfold drop1; rw [hx]; rfl)
     rw [hx] at c2
     clear hx
     go_wp2_with fail
     go_roundw
     case rel => exact ⟨k + 1, by omega, by go_num, hide (by rw [Aj.out, HT.out]; exact HEr.out), HFr⟩
     case measure => simp [intOf]; omega
  · have HL : Hid (l.take k = l) := hide (List.take_of_length_le (by omega))
    rw [HL.out] at HEr
    generalize l.foldl (drop1 T (r : Int)) e = e1 at *
    obtain ⟨Az, Aa⟩ := HEr.out
    obtain ⟨y0, y1, y2⟩ := Ax.out wr (HE.out.stay HFr.out)
    have k2 := Aa.bx.get (i := 2) rfl
    rw [Aw.out] at k2
    have CT := hide (eQ (w := wr) (k := kd) (h := (hm : Int)) (v := bv))
    cases htm : aX T r with
    | false =>
     have Ad : (!decide (kd = 3)) = false := by rw [← Ak.out]; exact htm
     rw [Ad] at CT
     have HT : Hid (ct T e r = e1) := hide (by rw [HR.out, htm]; rfl)
     clear htm Ad Aa
     go_wp2_with (go_at_call 176; refine CT.out.mono ?_; rintro _ w2 ⟨rfl, hb⟩; have HB := hide hb; clear hb)
     go_end0
     exact ⟨rfl, by rw [HT.out]; exact HEr.out.go HB.out, HFr.out.trans (Fr.of_below HB.out)⟩
    | true =>
     have Ad : (!decide (kd = 3)) = true := by rw [← Ak.out]; exact htm
     rw [Ad] at CT
     have Au := hide htm
     have Ap : Hid (ct T e r = if ew (withE T e1 r) true hm then aQ (aK (withE T e1 r) true hm) hm else aK (withE T e1 r) true hm) := hide (by rw [HR.out, htm]; rfl)
     clear htm Ad Aa
     go_upto_region 10 with (first | (go_at_call 176; refine CT.out.mono ?_; rintro _ w2 ⟨rfl, hb⟩; have HB := hide hb; have CD := hide (qM (HEr.out.go hb) hr Au.out); clear hb) | (go_at_call 238; refine CD.out.mono ?_; rintro _ w3 ⟨rfl, he, hf⟩; have At := hide he; have Am := hide ((HFr.out.trans (Fr.of_below HB.out)).trans hf); clear he hf))
     clear k2 y0 y1 y2 CT CD
     generalize withE T e1 r = e2 at *
     obtain ⟨AE, An⟩ := At.out
     have CX := hide (sP An Ab)
     clear An
     cases hx : ew e2 true hm with
     | true =>
      have HT : Hid (ct T e r = aQ (aK e2 true hm) hm) := hide (by rw [Ap.out, hx]; rfl)
      rw [hx] at CX
      clear hx
      go_wp2_with (first | (go_at_call 220; refine CX.out.mono ?_; rintro _ w4 ⟨rfl, he, hf⟩; have CL := hide (gt (⟨_, he⟩ : Eg N S A T F n _ _) Ab); have Ac := hide hf; clear he hf) | (go_at_call 218; refine CL.out.mono ?_; rintro _ w5 ⟨rfl, he, hf⟩; have Af := hide he; have Ah := hide (Ac.out.trans hf); clear he hf))
      go_end0
      exact ⟨rfl, by rw [HT.out]; exact Af.out, Am.out.trans Ah.out⟩
     | false =>
      have HT : Hid (ct T e r = aK e2 true hm) := hide (by rw [Ap.out, hx]; rfl)
      rw [hx] at CX
      clear hx
      go_wp2_with (go_at_call 220; refine CX.out.mono ?_; rintro _ w4 ⟨rfl, he, hf⟩; have Ar := hide he; have Ac := hide hf; clear he hf)
      go_end0
      exact ⟨rfl, by rw [HT.out]; exact ⟨_, Ar.out⟩, Am.out.trans Ac.out⟩
end
set_option maxRecDepth 100000
set_option maxHeartbeats 6400000
section
variable {N : Nat} {S : Nat → Prop} {A : Ad} {T : Th} {F : List Int} {n : Nat} {e : Es} {tv : Value} {w w' : World}
theorem Fg {p : RuleM → Bool} {k : Nat} {z x : Int} (h : x ∈ d9 T p k z) : 0 ≤ x ∧ x < (k : Int) := by
 unfold d9 at h
 obtain ⟨a, ha, rfl⟩ := List.mem_map.1 h
 have := List.mem_range.1 (List.mem_filter.1 ha).1
 exact ⟨Int.natCast_nonneg _, by show (a : Int) < k; omega⟩
theorem B0 {p : RuleM → Bool} {k : Nat} {z : Int} : (d9 T p k z).length ≤ k := by
 unfold d9
 rw [List.length_map]
 exact Nat.le_trans (List.length_filter_le _ _) (by simp)
theorem ly (h : En N S A T F n e tv w) (b : Bool) {q : Nat} (hq : q < n) : ∃ l a c, bC T b q = l ∧ l.length ≤ 4096 ∧ (∀ x ∈ l, ∃ r : Nat, x = (r : Int) ∧ r < T.rules.length) ∧ w.cell? ⟨A.us b, q, none⟩ = some (.slice a l.length c) ∧ ∀ w' : World, (∀ k, S k → w'.heap[k]? = w.heap[k]?) → At1 w' a (ay l) := by
 obtain ⟨a, c, h1, h2⟩ := (h.ro.lu b).stay hq
 have Aa := h.pf.ok.rl
 refine ⟨_, a, c, rfl, Nat.le_trans B0 Aa, fun x hx => ?_, h1, h2⟩
 obtain ⟨x0, x1⟩ := Fg hx
 obtain ⟨r, rfl⟩ := Int.eq_ofNat_of_zero_le x0
 exact ⟨r, rfl, by omega⟩
theorem vX (h : En N S A T F n e tv w) {q : Nat} (hq : q < n) : ∃ l a c g o, row T.foes q = l ∧ A.fa = some ⟨g, o, none⟩ ∧ q < T.foes.length ∧ l.length ≤ 64 ∧ (∀ x ∈ l, dE n x) ∧ (∀ w' : World, (∀ k, S k → w'.heap[k]? = w.heap[k]?) → w'.cell? ⟨g, o + q, none⟩ = some (.slice a l.length c) ∧ At1 w' a (ay l)) := by
 obtain ⟨l, hl⟩ := ap (l := T.foes) (i := q) (by have := h.pf.ok.fl; have := h.pf.ln; omega)
 have er : row T.foes (q : Int) = l := bI (by rw [Int.toNat_natCast]; exact hl)
 obtain ⟨g, o, a2, c2, e1, hg, hc, -, -, hI⟩ := ci h.ro.ta.foes hl
 exact ⟨l, a2, c2, g, o, er, e1, (List.getElem?_eq_some_iff.1 hl).1, by rw [← er]; exact (eZ h.pf hq).2, fun x hx => h.pf.foe q hq x (by rw [er]; exact hx), fun w' hk => ⟨by rw [World.cell?_of_block (hk g (h.ro.n0 g hg)), hc], (Ints.keep (fun g hg => hk g (h.ro.n0 g hg)) hI).at1⟩⟩
theorem vM {q : Nat} (h : Eg N S A T F n e w) (hq : q < n) :
    Calls Tryz.prog 183 #[aa A.K, .int .i64 q] w fun o w' => o = .returned (.tuple #[]) ∧ Eg N S A T F n (jw T e q) w' ∧ Fr (fun k => ¬ S k) w w' := by
 have Al := hide h
 obtain ⟨tv, h⟩ := h
 have HE := hide h
 have An : T.rules.length ≤ 4096 := h.pf.ok.rl
 have Ak := h.bx.get (i := 12) rfl
 obtain ⟨l, la, lc, el, Ap, Ac, cl, Af⟩ := ly h true hq
 have Aj := hide Ac
 have Ah := hide Af
 have HR : Hid (jw T e q = l.foldl (plusD1 T) e) := hide (by unfold jw; rw [el])
 clear h Ac Af el
 go_enter Tryz.func183, Tryz.ntmps183
 go_wp2_with fail
 clear Ak cl
 go_loopw [15] (fun x wr => ∃ k : Nat, k ≤ l.length ∧ x = .int .i64 k ∧ Hid (Eg N S A T F n ((l.take k).foldl (plusD1 T) e) wr) ∧ Hid (Fr (fun k => ¬ S k) w wr)) (fun x _ => l.length - (intOf x).toNat)
 case atStart => exact ⟨0, by omega, rfl, hide Al.out, hide (Fr.refl _ _)⟩
 case round =>
  obtain ⟨k, hk, rfl, HEr, HFr⟩ := hrel
  by_cases hlt : k < l.length
  · obtain ⟨r0, hr⟩ := ap hlt
    obtain ⟨r, rfl, Ae⟩ := Aj.out r0 (List.mem_of_getElem? hr)
    obtain ⟨gx, ox, rfl, cx⟩ := (Ah.out wr (HE.out.stay HFr.out)).get hr
    have Ab : Hid ((l.take (k + 1)).foldl (plusD1 T) e = plusD1 T ((l.take k).foldl (plusD1 T) e) r) := hide (dH hr)
    clear hr
    generalize (l.take k).foldl (plusD1 T) e = e1 at HEr Ab
    obtain ⟨Ao, Ad⟩ := HEr.out
    have CM := hide (xY Ad Ae)
    clear Ad
    by_cases hx : (bS e1 true r).ms true r = 0
    · have HT : Hid (plusD1 T e1 r = de T (bS e1 true r) r) := hide (by unfold plusD1; exact if_pos hx)
      rw [decide_eq_true hx] at CM
      clear hx
      go_wp2_with (first | (go_at_call 217; refine CM.out.mono ?_; rintro _ w4 ⟨rfl, he, hf⟩; have CV := hide (A3 (⟨_, he⟩ : Eg N S A T F n _ _) Ae); have Aa := hide hf; clear he hf) | (go_at_call 221; refine CV.out.mono ?_; rintro _ w5 ⟨rfl, he, hf⟩; have Ag := hide he; have Am := hide (Aa.out.trans hf); clear he hf))
      go_roundw
      case rel => exact ⟨k + 1, by omega, by go_num, hide (by rw [Ab.out, HT.out]; exact Ag.out), hide (HFr.out.trans Am.out)⟩
      case measure => simp [intOf]; omega
    · have HT : Hid (plusD1 T e1 r = bS e1 true r) := hide (by unfold plusD1; exact if_neg hx)
      rw [decide_eq_false hx] at CM
      clear hx
      go_wp2_with (go_at_call 217; refine CM.out.mono ?_; rintro _ w4 ⟨rfl, he, hf⟩; have Ai := hide he; have Aa := hide hf; clear he hf)
      go_roundw
      case rel => exact ⟨k + 1, by omega, by go_num, hide (by rw [Ab.out, HT.out]; exact ⟨_, Ai.out⟩), hide (HFr.out.trans Aa.out)⟩
      case measure => simp [intOf]; omega
  · have HL : Hid (l.take k = l) := hide (List.take_of_length_le (by omega))
    go_wp2_with fail
    go_end0
    exact ⟨rfl, by rw [HR.out]; have := HEr.out; rw [HL.out] at this; exact this, HFr.out⟩
theorem uw {q : Nat} (h : Eg N S A T F n e w) (hq : q < n) :
    Calls Tryz.prog 184 #[aa A.K, .int .i64 q] w fun o w' => o = .returned (.tuple #[]) ∧ Eg N S A T F n (ic T e q) w' ∧ Fr (fun k => ¬ S k) w w' := by
 have Al := hide h
 obtain ⟨tv, h⟩ := h
 have HE := hide h
 have An : T.rules.length ≤ 4096 := h.pf.ok.rl
 have Ak := h.bx.get (i := 12) rfl
 obtain ⟨l, la, lc, el, Ap, Ac, cl, Af⟩ := ly h true hq
 have Aj := hide Ac
 have Ah := hide Af
 have HR : Hid (ic T e q = l.foldl (minusD1 T) e) := hide (by unfold ic; rw [el])
 clear h Ac Af el
 go_enter Tryz.func184, Tryz.ntmps184
 go_wp2_with fail
 clear Ak cl
 go_loopw [15] (fun x wr => ∃ k : Nat, k ≤ l.length ∧ x = .int .i64 k ∧ Hid (Eg N S A T F n ((l.take k).foldl (minusD1 T) e) wr) ∧ Hid (Fr (fun k => ¬ S k) w wr)) (fun x _ => l.length - (intOf x).toNat)
 case atStart => exact ⟨0, by omega, rfl, hide Al.out, hide (Fr.refl _ _)⟩
 case round =>
  obtain ⟨k, hk, rfl, HEr, HFr⟩ := hrel
  by_cases hlt : k < l.length
  · obtain ⟨r0, hr⟩ := ap hlt
    obtain ⟨r, rfl, Ae⟩ := Aj.out r0 (List.mem_of_getElem? hr)
    obtain ⟨gx, ox, rfl, cx⟩ := (Ah.out wr (HE.out.stay HFr.out)).get hr
    have Ab : Hid ((l.take (k + 1)).foldl (minusD1 T) e = minusD1 T ((l.take k).foldl (minusD1 T) e) r) := hide (dH hr)
    clear hr
    generalize (l.take k).foldl (minusD1 T) e = e1 at HEr Ab
    obtain ⟨Ao, Ad⟩ := HEr.out
    have CM := hide (sQ Ad Ae)
    clear Ad
    cases hx : e1.rf true r with
    | false =>
     have HT : Hid (minusD1 T e1 r = ct T (refE e1 true r) r) := hide (by unfold minusD1; rw [hx]; rfl)
     rw [hx] at CM
     clear hx
     go_wp2_with (first | (go_at_call 219; refine CM.out.mono ?_; rintro _ w4 ⟨rfl, he, hf⟩; have CV := hide (xW (⟨_, he⟩ : Eg N S A T F n _ _) Ae); have Aa := hide hf; clear he hf) | (go_at_call 222; refine CV.out.mono ?_; rintro _ w5 ⟨rfl, he, hf⟩; have Ag := hide he; have Am := hide (Aa.out.trans hf); clear he hf))
     go_roundw
     case rel => exact ⟨k + 1, by omega, by go_num, hide (by rw [Ab.out, HT.out]; exact Ag.out), hide (HFr.out.trans Am.out)⟩
     case measure => simp [intOf]; omega
    | true =>
     have HT : Hid (minusD1 T e1 r = e1 ∧ refE e1 true r = e1) := hide ⟨by unfold minusD1; rw [hx]; rfl, by unfold refE; rw [hx]; rfl⟩
     rw [hx] at CM
     clear hx
     go_wp2_with (go_at_call 219; refine CM.out.mono ?_; rintro _ w4 ⟨rfl, he, hf⟩; have Ai := hide he; have Aa := hide hf; clear he hf)
     go_roundw
     case rel => exact ⟨k + 1, by omega, by go_num, hide (by rw [Ab.out, HT.out.1]; have := Ai.out; rw [HT.out.2] at this; exact ⟨_, this⟩), hide (HFr.out.trans Aa.out)⟩
     case measure => simp [intOf]; omega
  · have HL : Hid (l.take k = l) := hide (List.take_of_length_le (by omega))
    go_wp2_with fail
    go_end0
    exact ⟨rfl, by rw [HR.out]; have := HEr.out; rw [HL.out] at this; exact this, HFr.out⟩
theorem vB {q : Nat} (h : Eg N S A T F n e w) (hq : q < n) :
    Calls Tryz.prog 181 #[aa A.K, .int .i64 q] w fun o w' => o = .returned (.tuple #[]) ∧ Eg N S A T F n (gG T e q) w' ∧ Fr (fun k => ¬ S k) w w' := by
 have CT := hide (dS h hq tag3)
 obtain ⟨tv, h⟩ := h
 have HE := hide h
 have AH : T.rules.length ≤ 4096 := h.pf.ok.rl
 obtain ⟨l, la, lc, el, AJ, Ai, cl, Al⟩ := ly h false hq
 obtain ⟨fl, fa, fc, gf, of, ef, Ap, AG, AE, Ae, Ag⟩ := vX h hq
 have AB := hide Ai
 have Aw := hide Al
 have Aq := hide Ae
 have Ah := hide Ag
 have AC := hide Ap
 have Au := hide fun (r : Nat) (hr : r < T.rules.length) => jZ h hr
 have Av : Hid (∀ w' : World, (∀ k, S k → w'.heap[k]? = w.heap[k]?) → w'.cell? ⟨A.us false, q, none⟩ = some (.slice la l.length lc)) := hide fun w' hk => by rw [World.cell?_of_block (hk _ (h.ro.lu false).1), cl]
 have HR : Hid (gG T e q = fl.foldl aQ (l.foldl (plusS1 T) (tell e q 3))) := hide (by unfold gG; rw [el, ef])
 clear h Ai Al el Ae Ag ef Ap cl
 go_enter Tryz.func181, Tryz.ntmps181
 go_upto_region 1 with (go_at_call 213; refine CT.out.mono ?_; rintro _ w2 ⟨rfl, he, hf⟩; have Am := hide he; have Ak := hide hf; clear he hf)
 clear CT
 generalize tell e q 3 = e0 at *
 have c8 : w2.cell? ⟨A.K, 8, none⟩ = some (sl (A.us false) n) := by obtain ⟨Ar, h2⟩ := Am.out; exact h2.bx.get (i := 8) rfl
 have cl := Av.out w2 (HE.out.stay Ak.out)
 go_wp2_with fail
 clear c8 cl
 go_loopw [20] (fun x wr => ∃ k : Nat, k ≤ l.length ∧ x = .int .i64 k ∧ Hid (Eg N S A T F n ((l.take k).foldl (plusS1 T) e0) wr) ∧ Hid (Fr (fun k => ¬ S k) w wr)) (fun x _ => l.length - (intOf x).toNat)
 case atStart => exact ⟨0, by omega, rfl, hide Am.out, Ak⟩
 case round =>
  obtain ⟨k, hk, rfl, HEr, HFr⟩ := hrel
  by_cases hlt : k < l.length
  · obtain ⟨r0, hr⟩ := ap hlt
    obtain ⟨r, rfl, Aj⟩ := AB.out r0 (List.mem_of_getElem? hr)
    obtain ⟨gx, ox, rfl, cx⟩ := (Aw.out wr (HE.out.stay HFr.out)).get hr
    have Aa : Hid ((l.take (k + 1)).foldl (plusS1 T) e0 = plusS1 T ((l.take k).foldl (plusS1 T) e0) r) := hide (dH hr)
    clear hr
    generalize (l.take k).foldl (plusS1 T) e0 = e1 at HEr Aa
    obtain ⟨AI, An⟩ := HEr.out
    have CM := hide (wQ An Aj)
    clear An
    by_cases hx : (bS e1 false r).ms false r = 0
    · obtain ⟨hm, gr, go, hh, As, er, Ao⟩ := Au.out r Aj
      have HT : Hid (plusS1 T e1 r = tell (bS e1 false r) hm 1) := hide (by unfold plusS1; rw [hh]; exact if_pos hx)
      rw [decide_eq_true hx] at CM
      have Az := hide Ao
      have Ay := hide er
      clear hx Ao er hh
      go_upto_region 5 with (go_at_call 217; refine CM.out.mono ?_; rintro _ w4 ⟨rfl, he, hf⟩; have Ad := hide he; have CV := hide (dS (⟨_, he⟩ : Eg N S A T F n _ _) As tag1); have Ab := hide hf; clear he hf)
      have c2 := Ad.out.bx.get (i := 2) rfl
      rw [Ay.out] at c2
      have x1 := Az.out w4 (HE.out.stay (HFr.out.trans Ab.out))
      go_wp2_with (go_at_call 213; refine CV.out.mono ?_; rintro _ w5 ⟨rfl, he, hf⟩; have Ac := hide he; have Af := hide (Ab.out.trans hf); clear he hf)
      go_roundw
      case rel => exact ⟨k + 1, by omega, by go_num, hide (by rw [Aa.out, HT.out]; exact Ac.out), hide (HFr.out.trans Af.out)⟩
      case measure => simp [intOf]; omega
    · have HT : Hid (plusS1 T e1 r = bS e1 false r) := hide (by unfold plusS1; exact if_neg hx)
      rw [decide_eq_false hx] at CM
      clear hx
      go_wp2_with (go_at_call 217; refine CM.out.mono ?_; rintro _ w4 ⟨rfl, he, hf⟩; have Ad := hide he; have Ab := hide hf; clear he hf)
      go_roundw
      case rel => exact ⟨k + 1, by omega, by go_num, hide (by rw [Aa.out, HT.out]; exact ⟨_, Ad.out⟩), hide (HFr.out.trans Ab.out)⟩
      case measure => simp [intOf]; omega
  · have HL : Hid (l.take k = l) := hide (List.take_of_length_le (by omega))
    rw [HL.out] at HEr
    generalize l.foldl (plusS1 T) e0 = e1 at *
    have c1 : wr.cell? ⟨A.K, 1, none⟩ = some (.slice (some ⟨gf, of, none⟩) T.foes.length A.fc) := by obtain ⟨Ar, h2⟩ := HEr.out; rw [← AC.out]; exact h2.bx.get (i := 1) rfl
    obtain ⟨cf, -⟩ := Ah.out wr (HE.out.stay HFr.out)
    go_wp2_with fail
    clear c1 cf
    have Ax := hide HEr.out
    have At := hide HFr.out
    clear HEr HFr
    go_loopw [53] (fun x wz => ∃ j : Nat, j ≤ fl.length ∧ x = .int .i64 j ∧ Hid (Eg N S A T F n ((fl.take j).foldl aQ e1) wz) ∧ Hid (Fr (fun k => ¬ S k) w wz)) (fun x _ => fl.length - (intOf x).toNat)
    case atStart => exact ⟨0, by omega, rfl, hide Ax.out, At⟩
    case round =>
     rename World => wz
     obtain ⟨j, hj, rfl, HEr, HFr⟩ := hrel
     by_cases hjl : j < fl.length
     · obtain ⟨p0, hp⟩ := ap hjl
       obtain ⟨AA, AF⟩ := Aq.out p0 (List.mem_of_getElem? hp)
       obtain ⟨p, rfl⟩ := Int.eq_ofNat_of_zero_le AA
       obtain ⟨gx, ox, rfl, cx⟩ := (Ah.out wz (HE.out.stay HFr.out)).2.get hp
       have Aa : Hid ((fl.take (j + 1)).foldl aQ e1 = aQ ((fl.take j).foldl aQ e1) p) := hide (dH hp)
       have CL := hide (gt HEr.out (show p < n by omega))
       clear hp
       go_wp2_with (go_at_call 218; refine CL.out.mono ?_; rintro _ w5 ⟨rfl, he, hf⟩; have Ac := hide he; have Af := hide hf; clear he hf)
       go_roundw
       case rel => exact ⟨j + 1, by omega, by go_num, hide (by rw [Aa.out]; exact Ac.out), hide (HFr.out.trans Af.out)⟩
       case measure => simp [intOf]; omega
     · have AD : Hid (fl.take j = fl) := hide (List.take_of_length_le (by omega))
       go_wp2_with fail
       go_end0
       exact ⟨rfl, by rw [HR.out]; have := HEr.out; rw [AD.out] at this; exact this, HFr.out⟩
end
set_option maxRecDepth 100000
set_option maxHeartbeats 6400000
section
variable {N : Nat} {S : Nat → Prop} {A : Ad} {T : Th} {F : List Int} {n : Nat} {e : Es} {tv : Value} {w w' : World}
theorem uc {e : Es} {r hm : Int} (hh : aj T r = hm) : minusS1 T e r = if e.rf false r then e else if ew (refE e false r) false hm then tell (aK (refE e false r) false hm) hm 2 else aK (refE e false r) false hm := by unfold minusS1; rw [hh]
theorem uB {q : Nat} (h : Eg N S A T F n e w) (hq : q < n) :
    Calls Tryz.prog 182 #[aa A.K, .int .i64 q] w fun o w' => o = .returned (.tuple #[]) ∧ Eg N S A T F n (em T F e q) w' ∧ Fr (fun k => ¬ S k) w w' := by
 have Az := hide h
 obtain ⟨tv, h⟩ := h
 have HE := hide h
 have AG : T.rules.length ≤ 4096 := h.pf.ok.rl
 have k8 := h.bx.get (i := 8) rfl
 obtain ⟨l, la, lc, el, AH, Aj, cl, Al⟩ := ly h false hq
 obtain ⟨va, vc, cv, Ag⟩ := h.ro.lv.stay hq
 obtain ⟨vl, Af⟩ : ∃ vl, ao T (q : Int) = vl := ⟨_, rfl⟩
 rw [Af] at cv Ag
 have AE : vl.length ≤ 64 := by rw [← Af]; exact dI h.pf hq
 have Ap : Hid (∀ p ∈ vl, dE n p) := hide fun p hp => ip h.pf hq (by rw [Af]; exact hp)
 have Aq := hide Ag
 have At : Hid (∀ w' : World, (∀ k, S k → w'.heap[k]? = w.heap[k]?) → w'.cell? ⟨A.rv, q, none⟩ = some (.slice va vl.length vc)) := hide fun w' hk => by rw [World.cell?_of_block (hk _ h.ro.lv.1), cv]
 have AC := hide Aj
 have Aw := hide Al
 have Av := hide fun (r : Nat) (hr : r < T.rules.length) => jZ h hr
 have HR : Hid (em T F e q = aM T (if aG T F q then vl.foldl (jD T) (l.foldl (minusS1 T) e) else l.foldl (minusS1 T) e) q) := hide (by unfold em; rw [el, Af])
 clear h Aj Al el Ag Af cv
 go_enter Tryz.func182, Tryz.ntmps182
 go_wp2_with fail
 clear k8 cl
 go_loopw [18] (fun x wr => ∃ k : Nat, k ≤ l.length ∧ x = .int .i64 k ∧ Hid (Eg N S A T F n ((l.take k).foldl (minusS1 T) e) wr) ∧ Hid (Fr (fun k => ¬ S k) w wr)) (fun x _ => l.length - (intOf x).toNat)
 case atStart => exact ⟨0, by omega, rfl, hide Az.out, hide (Fr.refl _ _)⟩
 case round =>
  obtain ⟨k, hk, rfl, HEr, HFr⟩ := hrel
  by_cases hlt : k < l.length
  · obtain ⟨r0, hr⟩ := ap hlt
    obtain ⟨r, rfl, Ak⟩ := AC.out r0 (List.mem_of_getElem? hr)
    obtain ⟨gx, ox, rfl, cx⟩ := (Aw.out wr (HE.out.stay HFr.out)).get hr
    have Ae : Hid ((l.take (k + 1)).foldl (minusS1 T) e = minusS1 T ((l.take k).foldl (minusS1 T) e) r) := hide (dH hr)
    clear hr
    generalize (l.take k).foldl (minusS1 T) e = e1 at HEr Ae
    obtain ⟨AA, Ab⟩ := HEr.out
    have CM := hide (sO Ab Ak)
    obtain ⟨hm, gr, go, hh, Ah, er, An⟩ := Av.out r Ak
    have c2 := Ab.bx.get (i := 2) rfl
    rw [er] at c2
    have x1 := An wr (HE.out.stay HFr.out)
    have Ai := hide (uc (e := e1) hh)
    clear Ab An er hh
    cases hx : e1.rf false r with
    | true =>
     have HT : Hid (minusS1 T e1 r = e1 ∧ refE e1 false r = e1) := hide ⟨by rw [Ai.out, hx]; rfl, by unfold refE; rw [hx]; rfl⟩
     rw [hx] at CM
     clear hx
     go_wp2_with (go_at_call 219; refine CM.out.mono ?_; rintro _ w4 ⟨rfl, he, hf⟩; have Ar := hide he; have Ad := hide hf; clear he hf)
     go_roundw
     case rel => exact ⟨k + 1, by omega, by go_num, hide (by rw [Ae.out, HT.out.1]; have := Ar.out; rw [HT.out.2] at this; exact ⟨_, this⟩), hide (HFr.out.trans Ad.out)⟩
     case measure => simp [intOf]; omega
    | false =>
     have Ao : Hid (minusS1 T e1 r = if ew (refE e1 false r) false hm then tell (aK (refE e1 false r) false hm) hm 2 else aK (refE e1 false r) false hm) := hide (by rw [Ai.out, hx]; rfl)
     rw [hx] at CM
     clear hx Ai
     generalize refE e1 false r = e2 at *
     cases hc : ew e2 false hm with
     | true =>
      have HT : Hid (minusS1 T e1 r = tell (aK e2 false hm) hm 2) := hide (by rw [Ao.out, hc]; rfl)
      have HC := hide hc
      clear hc
      go_wp2_with (first | (go_at_call 219; refine CM.out.mono ?_; rintro _ w4 ⟨rfl, he, hf⟩; have CX := hide (nj he Ah); rw [HC.out] at CX; have Ad := hide hf; clear he hf) | (go_at_call 220; refine CX.out.mono ?_; rintro _ w5 ⟨rfl, he, hf⟩; have CV := hide (dS (⟨_, he⟩ : Eg N S A T F n _ _) Ah tag2); have Aa := hide (Ad.out.trans hf); clear he hf) | (go_at_call 213; refine CV.out.mono ?_; rintro _ w6 ⟨rfl, he, hf⟩; have AB := hide he; have As := hide (Aa.out.trans hf); clear he hf))
      go_roundw
      case rel => exact ⟨k + 1, by omega, by go_num, hide (by rw [Ae.out, HT.out]; exact AB.out), hide (HFr.out.trans As.out)⟩
      case measure => simp [intOf]; omega
     | false =>
      have HT : Hid (minusS1 T e1 r = aK e2 false hm) := hide (by rw [Ao.out, hc]; rfl)
      have HC := hide hc
      clear hc
      go_wp2_with (first | (go_at_call 219; refine CM.out.mono ?_; rintro _ w4 ⟨rfl, he, hf⟩; have CX := hide (nj he Ah); rw [HC.out] at CX; have Ad := hide hf; clear he hf) | (go_at_call 220; refine CX.out.mono ?_; rintro _ w5 ⟨rfl, he, hf⟩; have Ac := hide he; have Aa := hide (Ad.out.trans hf); clear he hf))
      go_roundw
      case rel => exact ⟨k + 1, by omega, by go_num, hide (by rw [Ae.out, HT.out]; exact ⟨_, Ac.out⟩), hide (HFr.out.trans Aa.out)⟩
      case measure => simp [intOf]; omega
  · have HL : Hid (l.take k = l) := hide (List.take_of_length_le (by omega))
    rw [HL.out] at HEr
    generalize l.foldl (minusS1 T) e = e1 at *
    obtain ⟨AA, Ab⟩ := HEr.out
    have c7 := Ab.bx.get (i := 7) rfl
    have cf := Ab.ro.lf.get (eh hq)
    have c6 := Ab.bx.get (i := 6) rfl
    have cv := At.out wr (HE.out.stay HFr.out)
    clear Ab
    cases hfm : aG T F q with
    | false =>
     have HT : Hid (em T F e q = aM T e1 q) := hide (by rw [HR.out, hfm]; rfl)
     rw [hfm] at cf
     have CD := hide (gR HEr.out hq)
     clear hfm
     go_wp2_with (go_at_call 216; refine CD.out.mono ?_; rintro _ w5 ⟨rfl, he, hf⟩; have Ac := hide he; have Aa := hide hf; clear he hf)
     go_end0
     exact ⟨rfl, by rw [HT.out]; exact Ac.out, HFr.out.trans Aa.out⟩
    | true =>
     have HT : Hid (em T F e q = aM T (vl.foldl (jD T) e1) q) := hide (by rw [HR.out, hfm]; rfl)
     rw [hfm] at cf
     clear hfm
     go_wp2_with fail
     clear c7 cf c6 cv
     have Ax := hide HEr.out
     have Au := hide HFr.out
     clear HEr HFr
     go_loopw [67] (fun x wz => ∃ j : Nat, j ≤ vl.length ∧ x = .int .i64 j ∧ Hid (Eg N S A T F n ((vl.take j).foldl (jD T) e1) wz) ∧ Hid (Fr (fun k => ¬ S k) w wz)) (fun x _ => vl.length - (intOf x).toNat)
     case atStart => exact ⟨0, by omega, rfl, hide Ax.out, Au⟩
     case round =>
      rename World => wz
      obtain ⟨j, hj, rfl, HEr, HFr⟩ := hrel
      by_cases hjl : j < vl.length
      · obtain ⟨p0, hp⟩ := ap hjl
        obtain ⟨Ay, AF⟩ := Ap.out p0 (List.mem_of_getElem? hp)
        obtain ⟨p, rfl⟩ := Int.eq_ofNat_of_zero_le Ay
        have Am : p < n := by omega
        obtain ⟨gx, ox, rfl, cx⟩ := (Aq.out wz (HE.out.stay HFr.out)).get hp
        have Ae : Hid ((vl.take (j + 1)).foldl (jD T) e1 = bH T (cW ((vl.take j).foldl (jD T) e1) p) p) := hide (dH hp)
        obtain ⟨AI, h3⟩ := HEr.out
        have CC := hide (mM h3 Am)
        clear hp h3
        go_wp2_with (first | (go_at_call 212; refine CC.out.mono ?_; rintro _ w4 ⟨rfl, he, hf⟩; have CV := hide (jY (⟨_, he⟩ : Eg N S A T F n _ _) Am); have Ad := hide hf; clear he hf) | (go_at_call 215; refine CV.out.mono ?_; rintro _ w5 ⟨rfl, he, hf⟩; have Ac := hide he; have Aa := hide (Ad.out.trans hf); clear he hf))
        go_roundw
        case rel => exact ⟨j + 1, by omega, by go_num, hide (by rw [Ae.out]; exact Ac.out), hide (HFr.out.trans Aa.out)⟩
        case measure => simp [intOf]; omega
      · have AD : Hid (vl.take j = vl) := hide (List.take_of_length_le (by omega))
        rw [AD.out] at HEr
        have CD := hide (gR HEr.out hq)
        go_wp2_with (go_at_call 216; refine CD.out.mono ?_; rintro _ w5 ⟨rfl, he, hf⟩; have Ac := hide he; have Aa := hide hf; clear he hf)
        go_end0
        exact ⟨rfl, by rw [HT.out]; exact Ac.out, HFr.out.trans Aa.out⟩
theorem lX {f : Es → Nat → Es} {e : Es} {k : Nat} : (List.range (k + 1)).foldl f e = f ((List.range k).foldl f e) k := by rw [List.range_succ, List.foldl_append]; rfl
theorem uS (h : Eg N S A T F n e w) :
    Calls Tryz.prog 180 #[aa A.K] w fun o w' => o = .returned (.tuple #[]) ∧ Eg N S A T F n (beginE T F n e) w' ∧ Fr (fun k => ¬ S k) w w' := by
 have Am := hide h
 obtain ⟨tv, h⟩ := h
 have HE := hide h
 have Aq := h.pf.n4
 have k7 := h.bx.get (i := 7) rfl
 clear h
 go_enter Tryz.func180, Tryz.ntmps180
 go_wp2_with fail
 clear k7
 go_loopw [11] (fun x wr => ∃ k : Nat, k ≤ n ∧ x = .int .i64 k ∧ Hid (Eg N S A T F n ((List.range k).foldl (cj T F) e) wr) ∧ Hid (Fr (fun k => ¬ S k) w wr)) (fun x _ => n - (intOf x).toNat)
 case atStart => exact ⟨0, by omega, rfl, hide Am.out, hide (Fr.refl _ _)⟩
 case round =>
  obtain ⟨k, hk, rfl, HEr, HFr⟩ := hrel
  by_cases hlt : k < n
  · have Ab : Hid ((List.range (k + 1)).foldl (cj T F) e = cj T F ((List.range k).foldl (cj T F) e) k) := hide lX
    generalize (List.range k).foldl (cj T F) e = e1 at HEr Ab
    have C2 := hide (dS HEr.out hlt tag2)
    have C1 := hide (dS HEr.out hlt tag1)
    obtain ⟨Ai, Aa⟩ := HEr.out
    have cf := Aa.ro.lf.get (eh hlt)
    have Ar := Aa.bx.get (i := 11) rfl
    have co := (Aa.op false).get (bz hlt)
    clear Aa
    cases hfm : aG T F k with
    | false =>
     rw [hfm] at cf
     have HT : Hid (cj T F e1 k = tell e1 k 2) := hide (by unfold cj; rw [hfm]; rfl)
     clear hfm
     go_wp2_with (go_at_call 213; refine C2.out.mono ?_; rintro _ w5 ⟨rfl, he, hf⟩; have Ae := hide he; have Ac := hide hf; clear he hf)
     go_roundw
     case rel => exact ⟨k + 1, by omega, by go_num, hide (by rw [Ab.out, HT.out]; exact Ae.out), hide (HFr.out.trans Ac.out)⟩
     case measure => simp [intOf]; omega
    | true =>
     rw [hfm] at cf
     by_cases hx : e1.op false k = 0
     · have HT : Hid (cj T F e1 k = tell e1 k 1) := hide (by unfold cj; rw [hfm]; exact if_pos hx)
       have Ag : (e1.op false k == 0) = true := by simpa using hx
       generalize e1.op false k = x at co Ag
       clear hfm hx
       go_wp2_with (go_at_call 213; refine C1.out.mono ?_; rintro _ w5 ⟨rfl, he, hf⟩; have Ae := hide he; have Ac := hide hf; clear he hf)
       go_roundw
       case rel => exact ⟨k + 1, by omega, by go_num, hide (by rw [Ab.out, HT.out]; exact Ae.out), hide (HFr.out.trans Ac.out)⟩
       case measure => simp [intOf]; omega
     · have HT : Hid (cj T F e1 k = e1) := hide (by unfold cj; rw [hfm]; exact if_neg hx)
       have Ag : (e1.op false k == 0) = false := by simpa using hx
       generalize e1.op false k = x at co Ag
       clear hfm hx
       go_wp2_with fail
       go_roundw
       case rel => exact ⟨k + 1, by omega, by go_num, hide (by rw [Ab.out, HT.out]; exact HEr.out), HFr⟩
       case measure => simp [intOf]; omega
  · have Aj : k = n := by omega
    have HR : Hid (beginE T F n e = (List.range n).foldl (dz T) ((List.range k).foldl (cj T F) e)) := hide (by rw [Aj]; rfl)
    clear Aj
    generalize (List.range k).foldl (cj T F) e = e1 at *
    have Ap : wr.cell? ⟨A.K, 18, none⟩ = some (sl A.mq n) := by obtain ⟨Ai, Aa⟩ := HEr.out; exact Aa.bx.get (i := 18) rfl
    go_wp2_with fail
    clear Ap
    have An := hide HEr.out
    have Ao := hide HFr.out
    clear HEr HFr
    go_loopw [41] (fun x wz => ∃ j : Nat, j ≤ n ∧ x = .int .i64 j ∧ Hid (Eg N S A T F n ((List.range j).foldl (dz T) e1) wz) ∧ Hid (Fr (fun k => ¬ S k) w wz)) (fun x _ => n - (intOf x).toNat)
    case atStart => exact ⟨0, by omega, rfl, hide An.out, Ao⟩
    case round =>
     rename World => wz
     obtain ⟨j, hj, rfl, HEr, HFr⟩ := hrel
     by_cases hjl : j < n
     · have Ab : Hid ((List.range (j + 1)).foldl (dz T) e1 = dz T ((List.range j).foldl (dz T) e1) j) := hide lX
       generalize (List.range j).foldl (dz T) e1 = e2 at HEr Ab
       have CH : Hid (Calls Tryz.prog 214 #[aa A.K, .int .i64 j, .int .i64 1] wz fun r w' => r = .returned (.bool (has e2 j 1)) ∧ Below wz.heap.size wz w') := hide (by obtain ⟨Ai, Aa⟩ := HEr.out; exact dQ Aa hjl tag1)
       cases hh : has e2 j 1 with
       | true =>
        have HT : Hid (dz T e2 j = aM T (bH T (tell e2 j 3) j) j) := hide (by unfold dz; rw [hh]; rfl)
        rw [hh] at CH
        clear hh
        go_wp2_with (first | (go_at_call 214; refine CH.out.mono ?_; rintro _ w3 ⟨rfl, hb⟩; have Ak := hide (Fr.of_below (Z := fun k => ¬ S k) hb); have CT := hide (dS (HEr.out.go hb) hjl tag3); clear hb) | (go_at_call 213; refine CT.out.mono ?_; rintro _ w4 ⟨rfl, he, hf⟩; have CV := hide (jY he hjl); have Ad := hide (Ak.out.trans hf); clear he hf) | (go_at_call 215; refine CV.out.mono ?_; rintro _ w5 ⟨rfl, he, hf⟩; have CD := hide (gR he hjl); have Ac := hide (Ad.out.trans hf); clear he hf) | (go_at_call 216; refine CD.out.mono ?_; rintro _ w6 ⟨rfl, he, hf⟩; have Ah := hide he; have Af := hide (Ac.out.trans hf); clear he hf))
        go_roundw
        case rel => exact ⟨j + 1, by omega, by go_num, hide (by rw [Ab.out, HT.out]; exact Ah.out), hide (HFr.out.trans Af.out)⟩
        case measure => simp [intOf]; omega
       | false =>
        have HT : Hid (dz T e2 j = aM T (bH T e2 j) j) := hide (by unfold dz; rw [hh]; rfl)
        rw [hh] at CH
        clear hh
        go_wp2_with (first | (go_at_call 214; refine CH.out.mono ?_; rintro _ w3 ⟨rfl, hb⟩; have Ad := hide (Fr.of_below (Z := fun k => ¬ S k) hb); have CV := hide (jY (HEr.out.go hb) hjl); clear hb) | (go_at_call 215; refine CV.out.mono ?_; rintro _ w5 ⟨rfl, he, hf⟩; have CD := hide (gR he hjl); have Ac := hide (Ad.out.trans hf); clear he hf) | (go_at_call 216; refine CD.out.mono ?_; rintro _ w6 ⟨rfl, he, hf⟩; have Ah := hide he; have Af := hide (Ac.out.trans hf); clear he hf))
        go_roundw
        case rel => exact ⟨j + 1, by omega, by go_num, hide (by rw [Ab.out, HT.out]; exact Ah.out), hide (HFr.out.trans Af.out)⟩
        case measure => simp [intOf]; omega
     · have Al : j = n := by omega
       subst Al
       go_wp2_with fail
       go_end0
       exact ⟨rfl, by rw [HR.out]; exact HEr.out, HFr.out⟩
end
end Go.Proofs.YtmlhcncagdfjfaaGreat.Fa
