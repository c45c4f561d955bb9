import Derived.Test.YtmlhcncagdfjfaaGreatFs2
set_option maxRecDepth 100000
set_option maxHeartbeats 6400000
namespace Go.Proofs.YtmlhcncagdfjfaaGreat.Fa
open Go.RowKit
section
variable {N : Nat} {S : Nat → Prop} {A : Ad} {T : Th} {F : List Int} {n : Nat} {e : Es} {tv : Value} {w w' : World}
theorem nz (h : En N S A T F n e tv w) {r : Nat} (hr : r < T.rules.length) : ∃ (kd : Int) (hm g o : Nat) (bv : Value), aj T r = (hm : Int) ∧ hm < n ∧ bS T r = (!decide (kd = 3)) ∧ A.ra = some ⟨g, o, none⟩ ∧ ∀ w' : World, (∀ k, S k → w'.heap[k]? = w.heap[k]?) → w'.cell? ⟨g, o + r * 3, none⟩ = some (.int .i64 kd) ∧ w'.cell? ⟨g, o + r * 3 + 1, none⟩ = some (.int .i64 hm) ∧ w'.cell? ⟨g, o + r * 3 + 2, none⟩ = some bv := by
 obtain ⟨x, hx, Ac, Ab, Ad⟩ := fg h.pf hr
 obtain ⟨hm, Aa⟩ := Int.eq_ofNat_of_zero_le Ab
 obtain ⟨gr, go, bd, bp, er, hg, x0, x1, x2, -, -, -⟩ := dI h.ro.ta.rules hx
 refine ⟨x.kind, hm, gr, go, _, by rw [Ac, Aa], by omega, ?_, er, fun w' hk => ⟨by rw [World.cell?_of_block (hk gr (h.ro.n0 gr hg)), x0], by rw [World.cell?_of_block (hk gr (h.ro.n0 gr hg)), x1, Aa], by rw [World.cell?_of_block (hk gr (h.ro.n0 gr hg)), x2]⟩⟩
 unfold bS
 rw [Int.toNat_natCast, hx]
 rfl
theorem xU {r : Nat} (h : Eg N S A T F n e w) (hr : r < T.rules.length) :
    Calls Tryz.prog 221 #[aa A.K, .int .i64 r] w fun o w' => o = .returned (.tuple #[]) ∧ Eg N S A T F n (iN T e r) w' ∧ Fr (fun k => ¬ S k) w w' := by
 have Az := hide h
 obtain ⟨tv, h⟩ := h
 have HE := hide h
 have AD : T.rules.length ≤ 4096 := h.pf.ok.rl
 obtain ⟨kd, hm, gr, go, bv, hh, Ad, Ae, er, Ak⟩ := nz h hr
 have x1 := (Ak w fun _ _ => rfl).2.1
 obtain ⟨la, lc, cl, Aj⟩ := h.ro.lv.stay Ad
 have k2 := h.bx.get (i := 2) rfl
 have k6 := h.bx.get (i := 6) rfl
 rw [er] at k2
 obtain ⟨l, hl⟩ : ∃ l, ao T (hm : Int) = l := ⟨_, rfl⟩
 rw [hl] at cl Aj
 have AG : l.length ≤ 64 := by rw [← hl]; exact cV h.pf Ad
 have Ap : Hid (ao T (aj T r) = l) := hide (by rw [hh, hl])
 have Ay : Hid (∀ p ∈ l, cS n p) := hide fun p hp => mw h.pf Ad (by rw [hl]; exact hp)
 have Au := hide Aj
 have AA := hide Ak
 have Av := hide er
 have AB := hide hh
 have Ao := hide Ae
 have HR : Hid (iN T e r = if bS T r then (if (defendE T (l.foldl (eJ (r : Int)) e) r).ob hm = 0 then tell (defendE T (l.foldl (eJ (r : Int)) e) r) hm 3 else defendE T (l.foldl (eJ (r : Int)) e) r) else l.foldl (eJ (r : Int)) e) := hide (by unfold iN; rw [hh, hl])
 clear h Ak Aj er hh hl Ae
 go_enter Tryz.func221, Tryz.ntmps221
 go_wp2_with fail
 clear k2 k6 cl x1
 go_loopw [26] (fun x wr => ∃ k : Nat, k ≤ l.length ∧ x = .int .i64 k ∧ Hid (Eg N S A T F n ((l.take k).foldl (eJ (r : Int)) e) wr) ∧ Hid (Fr (fun k => ¬ S k) w wr)) (fun x _ => l.length - (intOf x).toNat)
 case atStart => exact ⟨0, by omega, rfl, hide Az.out, hide (Fr.refl _ _)⟩
 case round =>
  obtain ⟨k, hk, rfl, HEr, HFr⟩ := hrel
  by_cases hlt : k < l.length
  · obtain ⟨p0, hp⟩ := am hlt
    obtain ⟨An, As⟩ := Ay.out p0 (List.mem_of_getElem? hp)
    obtain ⟨p, rfl⟩ := Int.eq_ofNat_of_zero_le An
    have At : p < n := by omega
    obtain ⟨gx, ox, rfl, cx⟩ := (Au.out wr (HE.out.stay HFr.out)).get hp
    have Ah : Hid ((l.take (k + 1)).foldl (eJ (r : Int)) e = eJ (r : Int) ((l.take k).foldl (eJ (r : Int)) e) p) := hide (cT hp)
    generalize (l.take k).foldl (eJ (r : Int)) e = e1 at HEr Ah
    have CL := hide (fC HEr.out At)
    obtain ⟨Ax, Aa⟩ := HEr.out
    have AE := Aa.bx.get (i := 16) rfl
    have c1 := Aa.ro.lx.get (i := r) (v := sl (A.cr r) l.length) (by rw [List.getElem?_map, List.getElem?_range hr, ← Ap.out]; rfl)
    have c2 := (Aa.cr r hr).get (fF (k := k) (p := (p : Int)) (by rw [Ap.out]; exact hp)).1
    clear hp Aa An As
    by_cases hx : e1.cd r p = 0
    · have HT : Hid (eJ (r : Int) e1 p = bJ e1 p) := hide (by unfold eJ; rw [if_pos hx])
      have Ab : (e1.cd r p == 0) = true := by simpa using hx
      generalize e1.cd r p = x at c2 Ab
      clear hx
      go_wp2_with (go_at_call 218; refine CL.out.mono ?_; rintro _ w4 ⟨rfl, he, hf⟩; have Ag := hide he; have Ai := hide hf; clear he hf)
      go_roundw
      case rel => exact ⟨k + 1, by omega, by go_num, hide (by rw [Ah.out, HT.out]; exact Ag.out), hide (HFr.out.trans Ai.out)⟩
      case measure => simp [intOf]; omega
    · have HT : Hid (eJ (r : Int) e1 p = e1) := hide (by unfold eJ; rw [if_neg hx])
      have Ab : (e1.cd r p == 0) = false := by simpa using hx
      generalize e1.cd r p = x at c2 Ab
      clear hx
      go_wp2_with fail
      go_roundw
      case rel => exact ⟨k + 1, by omega, by go_num, hide (by rw [Ah.out, HT.out]; exact HEr.out), HFr⟩
      case measure => simp [intOf]; omega
  · have HL : Hid (l.take k = l) := hide (List.take_of_length_le (by omega))
    rw [HL.out] at HEr
    generalize l.foldl (eJ (r : Int)) e = e1 at *
    obtain ⟨Ax, Aa⟩ := HEr.out
    obtain ⟨y0, y1, y2⟩ := AA.out wr (HE.out.stay HFr.out)
    have k2 := Aa.bx.get (i := 2) rfl
    rw [Av.out] at k2
    have CT := hide (fh (w := wr) (k := kd) (h := (hm : Int)) (v := bv))
    cases htm : bS T r with
    | false =>
     have Ac : (!decide (kd = 3)) = false := by rw [← Ao.out]; exact htm
     rw [Ac] at CT
     have HT : Hid (iN T e r = e1) := hide (by rw [HR.out, htm]; rfl)
     clear htm Ac Aa
     go_wp2_with (go_at_call 176; refine CT.out.mono ?_; rintro _ w2 ⟨rfl, hb⟩; have HB := hide hb; clear hb)
     go_end0
     exact ⟨rfl, by rw [HT.out]; exact HEr.out.go HB.out, HFr.out.trans (Fr.of_below HB.out)⟩
    | true =>
     have Ac : (!decide (kd = 3)) = true := by rw [← Ao.out]; exact htm
     rw [Ac] at CT
     have Aw := hide htm
     have Am : Hid (iN T e r = if (defendE T e1 r).ob hm = 0 then tell (defendE T e1 r) hm 3 else defendE T e1 r) := hide (by rw [HR.out, htm]; rfl)
     clear htm Ac Aa
     go_upto_region 9 with (first | (go_at_call 176; refine CT.out.mono ?_; rintro _ w2 ⟨rfl, hb⟩; have HB := hide hb; have CD := hide (nU (HEr.out.go hb) hr Aw.out); clear hb) | (go_at_call 179; refine CD.out.mono ?_; rintro _ w3 ⟨rfl, he, hf⟩; have Af := hide he; have Ar := hide ((HFr.out.trans (Fr.of_below HB.out)).trans hf); clear he hf))
     clear k2 y0 y1 y2 CT CD
     generalize defendE T e1 r = e2 at *
     have CL := hide (dp Af.out Ad tag3)
     obtain ⟨AF, Al⟩ := Af.out
     have AC := Al.bx.get (i := 17) rfl
     have Aq := Al.ob.get (aX Ad)
     clear Al
     by_cases hx : e2.ob hm = 0
     · have HT : Hid (iN T e r = tell e2 hm 3) := hide (by rw [Am.out, if_pos hx])
       have Ab : (e2.ob hm == 0) = true := by simpa using hx
       generalize e2.ob hm = x at Aq Ab
       clear hx
       go_wp2_with (go_at_call 213; refine CL.out.mono ?_; rintro _ w4 ⟨rfl, he, hf⟩; have Ag := hide he; have Ai := hide hf; clear he hf)
       go_end0
       exact ⟨rfl, by rw [HT.out]; exact Ag.out, Ar.out.trans Ai.out⟩
     · have HT : Hid (iN T e r = e2) := hide (by rw [Am.out, if_neg hx])
       have Ab : (e2.ob hm == 0) = false := by simpa using hx
       generalize e2.ob hm = x at Aq Ab
       clear hx
       go_wp2_with fail
       go_end0
       exact ⟨rfl, by rw [HT.out]; exact Af.out, Ar.out⟩
theorem vv {r : Nat} (h : Eg N S A T F n e w) (hr : r < T.rules.length) :
    Calls Tryz.prog 222 #[aa A.K, .int .i64 r] w fun o w' => o = .returned (.tuple #[]) ∧ Eg N S A T F n (gi T e r) w' ∧ Fr (fun k => ¬ S k) w w' := by
 have Az := hide h
 obtain ⟨tv, h⟩ := h
 have HE := hide h
 have AB : T.rules.length ≤ 4096 := h.pf.ok.rl
 obtain ⟨kd, hm, gr, go, bv, hh, Ad, Ae, er, Ai⟩ := nz h hr
 have x1 := (Ai w fun _ _ => rfl).2.1
 obtain ⟨la, lc, cl, Ah⟩ := h.ro.lv.stay Ad
 have k2 := h.bx.get (i := 2) rfl
 have k6 := h.bx.get (i := 6) rfl
 rw [er] at k2
 obtain ⟨l, hl⟩ : ∃ l, ao T (hm : Int) = l := ⟨_, rfl⟩
 rw [hl] at cl Ah
 have AE : l.length ≤ 64 := by rw [← hl]; exact cV h.pf Ad
 have Ao : Hid (ao T (aj T r) = l) := hide (by rw [hh, hl])
 have Ay : Hid (∀ p ∈ l, cS n p) := hide fun p hp => mw h.pf Ad (by rw [hl]; exact hp)
 have Au := hide Ah
 have AA := hide Ai
 have Av := hide er
 have An := hide Ae
 have HR : Hid (gi T e r = if bS T r then (if ep (withE T (l.foldl (dD T (r : Int)) e) r) true hm then bJ (cu (withE T (l.foldl (dD T (r : Int)) e) r) true hm) hm else cu (withE T (l.foldl (dD T (r : Int)) e) r) true hm) else l.foldl (dD T (r : Int)) e) := hide (by unfold gi; rw [hh, hl])
 clear h Ai Ah er hh hl Ae
 go_enter Tryz.func222, Tryz.ntmps222
 go_wp2_with fail
 clear k2 k6 cl x1
 go_loopw [26] (fun x wr => ∃ k : Nat, k ≤ l.length ∧ x = .int .i64 k ∧ Hid (Eg N S A T F n ((l.take k).foldl (dD T (r : Int)) e) wr) ∧ Hid (Fr (fun k => ¬ S k) w wr)) (fun x _ => l.length - (intOf x).toNat)
 case atStart => exact ⟨0, by omega, rfl, hide Az.out, hide (Fr.refl _ _)⟩
 case round =>
  obtain ⟨k, hk, rfl, HEr, HFr⟩ := hrel
  by_cases hlt : k < l.length
  · obtain ⟨p0, hp⟩ := am hlt
    obtain ⟨Am, As⟩ := Ay.out p0 (List.mem_of_getElem? hp)
    obtain ⟨p, rfl⟩ := Int.eq_ofNat_of_zero_le Am
    have Ak : p < n := by omega
    obtain ⟨gx, ox, rfl, cx⟩ := (Au.out wr (HE.out.stay HFr.out)).get hp
    have Ag : Hid ((l.take (k + 1)).foldl (dD T (r : Int)) e = dD T (r : Int) ((l.take k).foldl (dD T (r : Int)) e) p) := hide (cT hp)
    generalize (l.take k).foldl (dD T (r : Int)) e = e1 at HEr Ag
    obtain ⟨Ax, Aa⟩ := HEr.out
    have CC := hide (lp Aa Ak)
    have AC := Aa.bx.get (i := 16) rfl
    have c1 := Aa.ro.lx.get (i := r) (v := sl (A.cr r) l.length) (by rw [List.getElem?_map, List.getElem?_range hr, ← Ao.out]; rfl)
    have c2 := (Aa.cr r hr).get (fF (k := k) (p := (p : Int)) (by rw [Ao.out]; exact hp)).2
    clear hp Aa Am As
    cases hx : e1.cb r p with
    | false =>
     have HT : Hid (dD T (r : Int) e1 p = dm T (fV e1 p) p) := hide (by unfold dD; rw [hx]; rfl)
     rw [hx] at c2
     clear hx
     go_wp2_with (first | (go_at_call 212; refine CC.out.mono ?_; rintro _ w4 ⟨rfl, he, hf⟩; have CV := hide (iR (⟨_, he⟩ : Eg N S A T F n _ _) Ak); have Ab := hide hf; clear he hf) | (go_at_call 215; refine CV.out.mono ?_; rintro _ w5 ⟨rfl, he, hf⟩; have Af := hide he; have Aj := hide (Ab.out.trans hf); clear he hf))
     go_roundw
     case rel => exact ⟨k + 1, by omega, by go_num, hide (by rw [Ag.out, HT.out]; exact Af.out), hide (HFr.out.trans Aj.out)⟩
     case measure => simp [intOf]; omega
    | true =>
     have HT : Hid (dD T (r : Int) e1 p = e1) := hide (by unfold dD; rw [hx]; rfl)
     rw [hx] at c2
     clear hx
     go_wp2_with fail
     go_roundw
     case rel => exact ⟨k + 1, by omega, by go_num, hide (by rw [Ag.out, HT.out]; exact HEr.out), HFr⟩
     case measure => simp [intOf]; omega
  · have HL : Hid (l.take k = l) := hide (List.take_of_length_le (by omega))
    rw [HL.out] at HEr
    generalize l.foldl (dD T (r : Int)) e = e1 at *
    obtain ⟨Ax, Aa⟩ := HEr.out
    obtain ⟨y0, y1, y2⟩ := AA.out wr (HE.out.stay HFr.out)
    have k2 := Aa.bx.get (i := 2) rfl
    rw [Av.out] at k2
    have CT := hide (fh (w := wr) (k := kd) (h := (hm : Int)) (v := bv))
    cases htm : bS T r with
    | false =>
     have Ac : (!decide (kd = 3)) = false := by rw [← An.out]; exact htm
     rw [Ac] at CT
     have HT : Hid (gi T e r = e1) := hide (by rw [HR.out, htm]; rfl)
     clear htm Ac Aa
     go_wp2_with (go_at_call 176; refine CT.out.mono ?_; rintro _ w2 ⟨rfl, hb⟩; have HB := hide hb; clear hb)
     go_end0
     exact ⟨rfl, by rw [HT.out]; exact HEr.out.go HB.out, HFr.out.trans (Fr.of_below HB.out)⟩
    | true =>
     have Ac : (!decide (kd = 3)) = true := by rw [← An.out]; exact htm
     rw [Ac] at CT
     have Aw := hide htm
     have Al : Hid (gi T e r = if ep (withE T e1 r) true hm then bJ (cu (withE T e1 r) true hm) hm else cu (withE T e1 r) true hm) := hide (by rw [HR.out, htm]; rfl)
     clear htm Ac Aa
     go_upto_region 10 with (first | (go_at_call 176; refine CT.out.mono ?_; rintro _ w2 ⟨rfl, hb⟩; have HB := hide hb; have CD := hide (qW (HEr.out.go hb) hr Aw.out); clear hb) | (go_at_call 238; refine CD.out.mono ?_; rintro _ w3 ⟨rfl, he, hf⟩; have Ar := hide he; have Aq := hide ((HFr.out.trans (Fr.of_below HB.out)).trans hf); clear he hf))
     clear k2 y0 y1 y2 CT CD
     generalize withE T e1 r = e2 at *
     obtain ⟨AD, Ap⟩ := Ar.out
     have CX := hide (rz Ap Ad)
     clear Ap
     cases hx : ep e2 true hm with
     | true =>
      have HT : Hid (gi T e r = bJ (cu e2 true hm) hm) := hide (by rw [Al.out, hx]; rfl)
      rw [hx] at CX
      clear hx
      go_wp2_with (first | (go_at_call 220; refine CX.out.mono ?_; rintro _ w4 ⟨rfl, he, hf⟩; have CL := hide (fC (⟨_, he⟩ : Eg N S A T F n _ _) Ad); have Ab := hide hf; clear he hf) | (go_at_call 218; refine CL.out.mono ?_; rintro _ w5 ⟨rfl, he, hf⟩; have Af := hide he; have Aj := hide (Ab.out.trans hf); clear he hf))
      go_end0
      exact ⟨rfl, by rw [HT.out]; exact Af.out, Aq.out.trans Aj.out⟩
     | false =>
      have HT : Hid (gi T e r = cu e2 true hm) := hide (by rw [Al.out, hx]; rfl)
      rw [hx] at CX
      clear hx
      go_wp2_with (go_at_call 220; refine CX.out.mono ?_; rintro _ w4 ⟨rfl, he, hf⟩; have At := hide he; have Ab := hide hf; clear he hf)
      go_end0
      exact ⟨rfl, by rw [HT.out]; exact ⟨_, At.out⟩, Aq.out.trans Ab.out⟩
end
set_option maxRecDepth 100000
set_option maxHeartbeats 6400000
section
variable {N : Nat} {S : Nat → Prop} {A : Ad} {T : Th} {F : List Int} {n : Nat} {e : Es} {tv : Value} {w w' : World}
theorem yW {p : RuleM → Bool} {k : Nat} {z x : Int} (h : x ∈ dQ T p k z) : 0 ≤ x ∧ x < (k : Int) := by
 unfold dQ at h
 obtain ⟨a, ha, rfl⟩ := List.mem_map.1 h
 have := List.mem_range.1 (List.mem_filter.1 ha).1
 exact ⟨Int.natCast_nonneg _, by show (a : Int) < k; omega⟩
theorem yi {p : RuleM → Bool} {k : Nat} {z : Int} : (dQ T p k z).length ≤ k := by
 unfold dQ
 rw [List.length_map]
 exact Nat.le_trans (List.length_filter_le _ _) (by simp)
theorem jZ (h : En N S A T F n e tv w) (b : Bool) {q : Nat} (hq : q < n) : ∃ l a c, io T b q = l ∧ l.length ≤ 4096 ∧ (∀ x ∈ l, ∃ r : Nat, x = (r : Int) ∧ r < T.rules.length) ∧ w.cell? ⟨A.us b, q, none⟩ = some (.slice a l.length c) ∧ ∀ w' : World, (∀ k, S k → w'.heap[k]? = w.heap[k]?) → At1 w' a (aq l) := by
 obtain ⟨a, c, h1, h2⟩ := (h.ro.lu b).stay hq
 have Aa := h.pf.ok.rl
 refine ⟨_, a, c, rfl, Nat.le_trans yi Aa, fun x hx => ?_, h1, h2⟩
 obtain ⟨x0, x1⟩ := yW hx
 obtain ⟨r, rfl⟩ := Int.eq_ofNat_of_zero_le x0
 exact ⟨r, rfl, by omega⟩
theorem um (h : En N S A T F n e tv w) {q : Nat} (hq : q < n) : ∃ l a c g o, row T.foes q = l ∧ A.fa = some ⟨g, o, none⟩ ∧ q < T.foes.length ∧ l.length ≤ 64 ∧ (∀ x ∈ l, cS n x) ∧ (∀ w' : World, (∀ k, S k → w'.heap[k]? = w.heap[k]?) → w'.cell? ⟨g, o + q, none⟩ = some (.slice a l.length c) ∧ At1 w' a (aq l)) := by
 obtain ⟨l, hl⟩ := am (l := T.foes) (i := q) (by have := h.pf.ok.fl; have := h.pf.ln; omega)
 have er : row T.foes (q : Int) = l := bn (by rw [Int.toNat_natCast]; exact hl)
 obtain ⟨g, o, a2, c2, e1, hg, hc, -, -, hI⟩ := bH h.ro.ta.foes hl
 exact ⟨l, a2, c2, g, o, er, e1, (List.getElem?_eq_some_iff.1 hl).1, by rw [← er]; exact (gG h.pf hq).2, fun x hx => h.pf.foe q hq x (by rw [er]; exact hx), fun w' hk => ⟨by rw [World.cell?_of_block (hk g (h.ro.n0 g hg)), hc], (Ints.keep (fun g hg => hk g (h.ro.n0 g hg)) hI).at1⟩⟩
theorem uj {q : Nat} (h : Eg N S A T F n e w) (hq : q < n) :
    Calls Tryz.prog 183 #[aa A.K, .int .i64 q] w fun o w' => o = .returned (.tuple #[]) ∧ Eg N S A T F n (li T e q) w' ∧ Fr (fun k => ¬ S k) w w' := by
 have Ag := hide h
 obtain ⟨tv, h⟩ := h
 have HE := hide h
 have An : T.rules.length ≤ 4096 := h.pf.ok.rl
 have Ah := h.bx.get (i := 12) rfl
 obtain ⟨l, la, lc, el, Ao, Ae, cl, Ac⟩ := jZ h true hq
 have Am := hide Ae
 have Al := hide Ac
 have HR : Hid (li T e q = l.foldl (ed T) e) := hide (by unfold li; rw [el])
 clear h Ae Ac el
 go_enter Tryz.func183, Tryz.ntmps183
 go_wp2_with fail
 clear Ah cl
 go_loopw [15] (fun x wr => ∃ k : Nat, k ≤ l.length ∧ x = .int .i64 k ∧ Hid (Eg N S A T F n ((l.take k).foldl (ed T) e) wr) ∧ Hid (Fr (fun k => ¬ S k) w wr)) (fun x _ => l.length - (intOf x).toNat)
 case atStart => exact ⟨0, by omega, rfl, hide Ag.out, hide (Fr.refl _ _)⟩
 case round =>
  obtain ⟨k, hk, rfl, HEr, HFr⟩ := hrel
  by_cases hlt : k < l.length
  · obtain ⟨r0, hr⟩ := am hlt
    obtain ⟨r, rfl, Ad⟩ := Am.out r0 (List.mem_of_getElem? hr)
    obtain ⟨gx, ox, rfl, cx⟩ := (Al.out wr (HE.out.stay HFr.out)).get hr
    have Aa : Hid ((l.take (k + 1)).foldl (ed T) e = ed T ((l.take k).foldl (ed T) e) r) := hide (cT hr)
    clear hr
    generalize (l.take k).foldl (ed T) e = e1 at HEr Aa
    obtain ⟨Ap, Af⟩ := HEr.out
    have CM := hide (vZ Af Ad)
    clear Af
    by_cases hx : (du e1 true r).ms true r = 0
    · have HT : Hid (ed T e1 r = iN T (du e1 true r) r) := hide (by unfold ed; exact if_pos hx)
      rw [decide_eq_true hx] at CM
      clear hx
      go_wp2_with (first | (go_at_call 217; refine CM.out.mono ?_; rintro _ w4 ⟨rfl, he, hf⟩; have CV := hide (xU (⟨_, he⟩ : Eg N S A T F n _ _) Ad); have Ab := hide hf; clear he hf) | (go_at_call 221; refine CV.out.mono ?_; rintro _ w5 ⟨rfl, he, hf⟩; have Aj := hide he; have Ak := hide (Ab.out.trans hf); clear he hf))
      go_roundw
      case rel => exact ⟨k + 1, by omega, by go_num, hide (by rw [Aa.out, HT.out]; exact Aj.out), hide (HFr.out.trans Ak.out)⟩
      case measure => simp [intOf]; omega
    · have HT : Hid (ed T e1 r = du e1 true r) := hide (by unfold ed; exact if_neg hx)
      rw [decide_eq_false hx] at CM
      clear hx
      go_wp2_with (go_at_call 217; refine CM.out.mono ?_; rintro _ w4 ⟨rfl, he, hf⟩; have Ai := hide he; have Ab := hide hf; clear he hf)
      go_roundw
      case rel => exact ⟨k + 1, by omega, by go_num, hide (by rw [Aa.out, HT.out]; exact ⟨_, Ai.out⟩), hide (HFr.out.trans Ab.out)⟩
      case measure => simp [intOf]; omega
  · have HL : Hid (l.take k = l) := hide (List.take_of_length_le (by omega))
    go_wp2_with fail
    go_end0
    exact ⟨rfl, by rw [HR.out]; have := HEr.out; rw [HL.out] at this; exact this, HFr.out⟩
theorem sA {q : Nat} (h : Eg N S A T F n e w) (hq : q < n) :
    Calls Tryz.prog 184 #[aa A.K, .int .i64 q] w fun o w' => o = .returned (.tuple #[]) ∧ Eg N S A T F n (js T e q) w' ∧ Fr (fun k => ¬ S k) w w' := by
 have Ag := hide h
 obtain ⟨tv, h⟩ := h
 have HE := hide h
 have An : T.rules.length ≤ 4096 := h.pf.ok.rl
 have Ah := h.bx.get (i := 12) rfl
 obtain ⟨l, la, lc, el, Ao, Ae, cl, Ac⟩ := jZ h true hq
 have Am := hide Ae
 have Al := hide Ac
 have HR : Hid (js T e q = l.foldl (dw T) e) := hide (by unfold js; rw [el])
 clear h Ae Ac el
 go_enter Tryz.func184, Tryz.ntmps184
 go_wp2_with fail
 clear Ah cl
 go_loopw [15] (fun x wr => ∃ k : Nat, k ≤ l.length ∧ x = .int .i64 k ∧ Hid (Eg N S A T F n ((l.take k).foldl (dw T) e) wr) ∧ Hid (Fr (fun k => ¬ S k) w wr)) (fun x _ => l.length - (intOf x).toNat)
 case atStart => exact ⟨0, by omega, rfl, hide Ag.out, hide (Fr.refl _ _)⟩
 case round =>
  obtain ⟨k, hk, rfl, HEr, HFr⟩ := hrel
  by_cases hlt : k < l.length
  · obtain ⟨r0, hr⟩ := am hlt
    obtain ⟨r, rfl, Ad⟩ := Am.out r0 (List.mem_of_getElem? hr)
    obtain ⟨gx, ox, rfl, cx⟩ := (Al.out wr (HE.out.stay HFr.out)).get hr
    have Aa : Hid ((l.take (k + 1)).foldl (dw T) e = dw T ((l.take k).foldl (dw T) e) r) := hide (cT hr)
    clear hr
    generalize (l.take k).foldl (dw T) e = e1 at HEr Aa
    obtain ⟨Ap, Af⟩ := HEr.out
    have CM := hide (rp Af Ad)
    clear Af
    cases hx : e1.rf true r with
    | false =>
     have HT : Hid (dw T e1 r = gi T (refE e1 true r) r) := hide (by unfold dw; rw [hx]; rfl)
     rw [hx] at CM
     clear hx
     go_wp2_with (first | (go_at_call 219; refine CM.out.mono ?_; rintro _ w4 ⟨rfl, he, hf⟩; have CV := hide (vv (⟨_, he⟩ : Eg N S A T F n _ _) Ad); have Ab := hide hf; clear he hf) | (go_at_call 222; refine CV.out.mono ?_; rintro _ w5 ⟨rfl, he, hf⟩; have Aj := hide he; have Ak := hide (Ab.out.trans hf); clear he hf))
     go_roundw
     case rel => exact ⟨k + 1, by omega, by go_num, hide (by rw [Aa.out, HT.out]; exact Aj.out), hide (HFr.out.trans Ak.out)⟩
     case measure => simp [intOf]; omega
    | true =>
     have HT : Hid (dw T e1 r = e1 ∧ refE e1 true r = e1) := hide ⟨by unfold dw; rw [hx]; rfl, by unfold refE; rw [hx]; rfl⟩
     rw [hx] at CM
     clear hx
     go_wp2_with (go_at_call 219; refine CM.out.mono ?_; rintro _ w4 ⟨rfl, he, hf⟩; have Ai := hide he; have Ab := hide hf; clear he hf)
     go_roundw
     case rel => exact ⟨k + 1, by omega, by go_num, hide (by rw [Aa.out, HT.out.1]; have := Ai.out; rw [HT.out.2] at this; exact ⟨_, this⟩), hide (HFr.out.trans Ab.out)⟩
     case measure => simp [intOf]; omega
  · have HL : Hid (l.take k = l) := hide (List.take_of_length_le (by omega))
    go_wp2_with fail
    go_end0
    exact ⟨rfl, by rw [HR.out]; have := HEr.out; rw [HL.out] at this; exact this, HFr.out⟩
theorem uB {q : Nat} (h : Eg N S A T F n e w) (hq : q < n) :
    Calls Tryz.prog 181 #[aa A.K, .int .i64 q] w fun o w' => o = .returned (.tuple #[]) ∧ Eg N S A T F n (lq T e q) w' ∧ Fr (fun k => ¬ S k) w w' := by
 have CT := hide (dp h hq tag3)
 obtain ⟨tv, h⟩ := h
 have HE := hide h
 have AI : T.rules.length ≤ 4096 := h.pf.ok.rl
 obtain ⟨l, la, lc, el, AJ, Al, cl, Am⟩ := jZ h false hq
 obtain ⟨fl, fa, fc, gf, of, ef, Aj, AG, AE, Af, Ag⟩ := um h hq
 have Ax := hide Al
 have Ar := hide Am
 have Aq := hide Af
 have Ae := hide Ag
 have Ay := hide Aj
 have Av := hide fun (r : Nat) (hr : r < T.rules.length) => jb h hr
 have Az : Hid (∀ w' : World, (∀ k, S k → w'.heap[k]? = w.heap[k]?) → w'.cell? ⟨A.us false, q, none⟩ = some (.slice la l.length lc)) := hide fun w' hk => by rw [World.cell?_of_block (hk _ (h.ro.lu false).1), cl]
 have HR : Hid (lq T e q = fl.foldl bJ (l.foldl (dP T) (tell e q 3))) := hide (by unfold lq; rw [el, ef])
 clear h Al Am el Af Ag ef Aj cl
 go_enter Tryz.func181, Tryz.ntmps181
 go_upto_region 1 with (go_at_call 213; refine CT.out.mono ?_; rintro _ w2 ⟨rfl, he, hf⟩; have Ao := hide he; have An := hide hf; clear he hf)
 clear CT
 generalize tell e q 3 = e0 at *
 have c8 : w2.cell? ⟨A.K, 8, none⟩ = some (sl (A.us false) n) := by obtain ⟨Aw, h2⟩ := Ao.out; exact h2.bx.get (i := 8) rfl
 have cl := Az.out w2 (HE.out.stay An.out)
 go_wp2_with fail
 clear c8 cl
 go_loopw [20] (fun x wr => ∃ k : Nat, k ≤ l.length ∧ x = .int .i64 k ∧ Hid (Eg N S A T F n ((l.take k).foldl (dP T) e0) wr) ∧ Hid (Fr (fun k => ¬ S k) w wr)) (fun x _ => l.length - (intOf x).toNat)
 case atStart => exact ⟨0, by omega, rfl, hide Ao.out, An⟩
 case round =>
  obtain ⟨k, hk, rfl, HEr, HFr⟩ := hrel
  by_cases hlt : k < l.length
  · obtain ⟨r0, hr⟩ := am hlt
    obtain ⟨r, rfl, Ak⟩ := Ax.out r0 (List.mem_of_getElem? hr)
    obtain ⟨gx, ox, rfl, cx⟩ := (Ar.out wr (HE.out.stay HFr.out)).get hr
    have Aa : Hid ((l.take (k + 1)).foldl (dP T) e0 = dP T ((l.take k).foldl (dP T) e0) r) := hide (cT hr)
    clear hr
    generalize (l.take k).foldl (dP T) e0 = e1 at HEr Aa
    obtain ⟨AH, Ai⟩ := HEr.out
    have CM := hide (ve Ai Ak)
    clear Ai
    by_cases hx : (du e1 false r).ms false r = 0
    · obtain ⟨hm, gr, go, hh, AB, er, Ap⟩ := Av.out r Ak
      have HT : Hid (dP T e1 r = tell (du e1 false r) hm 1) := hide (by unfold dP; rw [hh]; exact if_pos hx)
      rw [decide_eq_true hx] at CM
      have AD := hide Ap
      have Au := hide er
      clear hx Ap er hh
      go_upto_region 5 with (go_at_call 217; refine CM.out.mono ?_; rintro _ w4 ⟨rfl, he, hf⟩; have Ac := hide he; have CV := hide (dp (⟨_, he⟩ : Eg N S A T F n _ _) AB tag1); have Ab := hide hf; clear he hf)
      have c2 := Ac.out.bx.get (i := 2) rfl
      rw [Au.out] at c2
      have x1 := AD.out w4 (HE.out.stay (HFr.out.trans Ab.out))
      go_wp2_with (go_at_call 213; refine CV.out.mono ?_; rintro _ w5 ⟨rfl, he, hf⟩; have Ad := hide he; have Ah := hide (Ab.out.trans hf); clear he hf)
      go_roundw
      case rel => exact ⟨k + 1, by omega, by go_num, hide (by rw [Aa.out, HT.out]; exact Ad.out), hide (HFr.out.trans Ah.out)⟩
      case measure => simp [intOf]; omega
    · have HT : Hid (dP T e1 r = du e1 false r) := hide (by unfold dP; exact if_neg hx)
      rw [decide_eq_false hx] at CM
      clear hx
      go_wp2_with (go_at_call 217; refine CM.out.mono ?_; rintro _ w4 ⟨rfl, he, hf⟩; have Ac := hide he; have Ab := hide hf; clear he hf)
      go_roundw
      case rel => exact ⟨k + 1, by omega, by go_num, hide (by rw [Aa.out, HT.out]; exact ⟨_, Ac.out⟩), hide (HFr.out.trans Ab.out)⟩
      case measure => simp [intOf]; omega
  · have HL : Hid (l.take k = l) := hide (List.take_of_length_le (by omega))
    rw [HL.out] at HEr
    generalize l.foldl (dP T) e0 = e1 at *
    have c1 : wr.cell? ⟨A.K, 1, none⟩ = some (.slice (some ⟨gf, of, none⟩) T.foes.length A.fc) := by obtain ⟨Aw, h2⟩ := HEr.out; rw [← Ay.out]; exact h2.bx.get (i := 1) rfl
    obtain ⟨cf, -⟩ := Ae.out wr (HE.out.stay HFr.out)
    go_wp2_with fail
    clear c1 cf
    have At := hide HEr.out
    have AC := hide HFr.out
    clear HEr HFr
    go_loopw [53] (fun x wz => ∃ j : Nat, j ≤ fl.length ∧ x = .int .i64 j ∧ Hid (Eg N S A T F n ((fl.take j).foldl bJ e1) wz) ∧ Hid (Fr (fun k => ¬ S k) w wz)) (fun x _ => fl.length - (intOf x).toNat)
    case atStart => exact ⟨0, by omega, rfl, hide At.out, AC⟩
    case round =>
     rename World => wz
     obtain ⟨j, hj, rfl, HEr, HFr⟩ := hrel
     by_cases hjl : j < fl.length
     · obtain ⟨p0, hp⟩ := am hjl
       obtain ⟨AA, AF⟩ := Aq.out p0 (List.mem_of_getElem? hp)
       obtain ⟨p, rfl⟩ := Int.eq_ofNat_of_zero_le AA
       obtain ⟨gx, ox, rfl, cx⟩ := (Ae.out wz (HE.out.stay HFr.out)).2.get hp
       have Aa : Hid ((fl.take (j + 1)).foldl bJ e1 = bJ ((fl.take j).foldl bJ e1) p) := hide (cT hp)
       have CL := hide (fC HEr.out (show p < n by omega))
       clear hp
       go_wp2_with (go_at_call 218; refine CL.out.mono ?_; rintro _ w5 ⟨rfl, he, hf⟩; have Ad := hide he; have Ah := hide hf; clear he hf)
       go_roundw
       case rel => exact ⟨j + 1, by omega, by go_num, hide (by rw [Aa.out]; exact Ad.out), hide (HFr.out.trans Ah.out)⟩
       case measure => simp [intOf]; omega
     · have As : Hid (fl.take j = fl) := hide (List.take_of_length_le (by omega))
       go_wp2_with fail
       go_end0
       exact ⟨rfl, by rw [HR.out]; have := HEr.out; rw [As.out] at this; exact this, HFr.out⟩
end
set_option maxRecDepth 100000
set_option maxHeartbeats 6400000
section
variable {N : Nat} {S : Nat → Prop} {A : Ad} {T : Th} {F : List Int} {n : Nat} {e : Es} {tv : Value} {w w' : World}
theorem sP {e : Es} {r hm : Int} (hh : aj T r = hm) : bY T e r = if e.rf false r then e else if ep (refE e false r) false hm then tell (cu (refE e false r) false hm) hm 2 else cu (refE e false r) false hm := by unfold bY; rw [hh]
theorem sK {q : Nat} (h : Eg N S A T F n e w) (hq : q < n) :
    Calls Tryz.prog 182 #[aa A.K, .int .i64 q] w fun o w' => o = .returned (.tuple #[]) ∧ Eg N S A T F n (gt T F e q) w' ∧ Fr (fun k => ¬ S k) w w' := by
 have AC := hide h
 obtain ⟨tv, h⟩ := h
 have HE := hide h
 have AG : T.rules.length ≤ 4096 := h.pf.ok.rl
 have k8 := h.bx.get (i := 8) rfl
 obtain ⟨l, la, lc, el, AI, Al, cl, Am⟩ := jZ h false hq
 obtain ⟨va, vc, cv, Ag⟩ := h.ro.lv.stay hq
 obtain ⟨vl, Af⟩ : ∃ vl, ao T (q : Int) = vl := ⟨_, rfl⟩
 rw [Af] at cv Ag
 have AE : vl.length ≤ 64 := by rw [← Af]; exact cV h.pf hq
 have Ap : Hid (∀ p ∈ vl, cS n p) := hide fun p hp => mw h.pf hq (by rw [Af]; exact hp)
 have Aq := hide Ag
 have AB : Hid (∀ w' : World, (∀ k, S k → w'.heap[k]? = w.heap[k]?) → w'.cell? ⟨A.rv, q, none⟩ = some (.slice va vl.length vc)) := hide fun w' hk => by rw [World.cell?_of_block (hk _ h.ro.lv.1), cv]
 have Ay := hide Al
 have As := hide Am
 have Aw := hide fun (r : Nat) (hr : r < T.rules.length) => jb h hr
 have HR : Hid (gt T F e q = aW T (if bI T F q then vl.foldl (mO T) (l.foldl (bY T) e) else l.foldl (bY T) e) q) := hide (by unfold gt; rw [el, Af])
 clear h Al Am el Ag Af cv
 go_enter Tryz.func182, Tryz.ntmps182
 go_wp2_with fail
 clear k8 cl
 go_loopw [18] (fun x wr => ∃ k : Nat, k ≤ l.length ∧ x = .int .i64 k ∧ Hid (Eg N S A T F n ((l.take k).foldl (bY T) e) wr) ∧ Hid (Fr (fun k => ¬ S k) w wr)) (fun x _ => l.length - (intOf x).toNat)
 case atStart => exact ⟨0, by omega, rfl, hide AC.out, hide (Fr.refl _ _)⟩
 case round =>
  obtain ⟨k, hk, rfl, HEr, HFr⟩ := hrel
  by_cases hlt : k < l.length
  · obtain ⟨r0, hr⟩ := am hlt
    obtain ⟨r, rfl, Ak⟩ := Ay.out r0 (List.mem_of_getElem? hr)
    obtain ⟨gx, ox, rfl, cx⟩ := (As.out wr (HE.out.stay HFr.out)).get hr
    have Ae : Hid ((l.take (k + 1)).foldl (bY T) e = bY T ((l.take k).foldl (bY T) e) r) := hide (cT hr)
    clear hr
    generalize (l.take k).foldl (bY T) e = e1 at HEr Ae
    obtain ⟨Ax, Ab⟩ := HEr.out
    have CM := hide (qZ Ab Ak)
    obtain ⟨hm, gr, go, hh, Ai, er, An⟩ := Aw.out r Ak
    have c2 := Ab.bx.get (i := 2) rfl
    rw [er] at c2
    have x1 := An wr (HE.out.stay HFr.out)
    have Ah := hide (sP (e := e1) hh)
    clear Ab An er hh
    cases hx : e1.rf false r with
    | true =>
     have HT : Hid (bY T e1 r = e1 ∧ refE e1 false r = e1) := hide ⟨by rw [Ah.out, hx]; rfl, by unfold refE; rw [hx]; rfl⟩
     rw [hx] at CM
     clear hx
     go_wp2_with (go_at_call 219; refine CM.out.mono ?_; rintro _ w4 ⟨rfl, he, hf⟩; have Ar := hide he; have Ad := hide hf; clear he hf)
     go_roundw
     case rel => exact ⟨k + 1, by omega, by go_num, hide (by rw [Ae.out, HT.out.1]; have := Ar.out; rw [HT.out.2] at this; exact ⟨_, this⟩), hide (HFr.out.trans Ad.out)⟩
     case measure => simp [intOf]; omega
    | false =>
     have Ao : Hid (bY T e1 r = if ep (refE e1 false r) false hm then tell (cu (refE e1 false r) false hm) hm 2 else cu (refE e1 false r) false hm) := hide (by rw [Ah.out, hx]; rfl)
     rw [hx] at CM
     clear hx Ah
     generalize refE e1 false r = e2 at *
     cases hc : ep e2 false hm with
     | true =>
      have HT : Hid (bY T e1 r = tell (cu e2 false hm) hm 2) := hide (by rw [Ao.out, hc]; rfl)
      have HC := hide hc
      clear hc
      go_wp2_with (first | (go_at_call 219; refine CM.out.mono ?_; rintro _ w4 ⟨rfl, he, hf⟩; have CX := hide (lT he Ai); rw [HC.out] at CX; have Ad := hide hf; clear he hf) | (go_at_call 220; refine CX.out.mono ?_; rintro _ w5 ⟨rfl, he, hf⟩; have CV := hide (dp (⟨_, he⟩ : Eg N S A T F n _ _) Ai tag2); have Aa := hide (Ad.out.trans hf); clear he hf) | (go_at_call 213; refine CV.out.mono ?_; rintro _ w6 ⟨rfl, he, hf⟩; have AA := hide he; have Av := hide (Aa.out.trans hf); clear he hf))
      go_roundw
      case rel => exact ⟨k + 1, by omega, by go_num, hide (by rw [Ae.out, HT.out]; exact AA.out), hide (HFr.out.trans Av.out)⟩
      case measure => simp [intOf]; omega
     | false =>
      have HT : Hid (bY T e1 r = cu e2 false hm) := hide (by rw [Ao.out, hc]; rfl)
      have HC := hide hc
      clear hc
      go_wp2_with (first | (go_at_call 219; refine CM.out.mono ?_; rintro _ w4 ⟨rfl, he, hf⟩; have CX := hide (lT he Ai); rw [HC.out] at CX; have Ad := hide hf; clear he hf) | (go_at_call 220; refine CX.out.mono ?_; rintro _ w5 ⟨rfl, he, hf⟩; have Ac := hide he; have Aa := hide (Ad.out.trans hf); clear he hf))
      go_roundw
      case rel => exact ⟨k + 1, by omega, by go_num, hide (by rw [Ae.out, HT.out]; exact ⟨_, Ac.out⟩), hide (HFr.out.trans Aa.out)⟩
      case measure => simp [intOf]; omega
  · have HL : Hid (l.take k = l) := hide (List.take_of_length_le (by omega))
    rw [HL.out] at HEr
    generalize l.foldl (bY T) e = e1 at *
    obtain ⟨Ax, Ab⟩ := HEr.out
    have c7 := Ab.bx.get (i := 7) rfl
    have cf := Ab.ro.lf.get (dv hq)
    have c6 := Ab.bx.get (i := 6) rfl
    have cv := AB.out wr (HE.out.stay HFr.out)
    clear Ab
    cases hfm : bI T F q with
    | false =>
     have HT : Hid (gt T F e q = aW T e1 q) := hide (by rw [HR.out, hfm]; rfl)
     rw [hfm] at cf
     have CD := hide (gh HEr.out hq)
     clear hfm
     go_wp2_with (go_at_call 216; refine CD.out.mono ?_; rintro _ w5 ⟨rfl, he, hf⟩; have Ac := hide he; have Aa := hide hf; clear he hf)
     go_end0
     exact ⟨rfl, by rw [HT.out]; exact Ac.out, HFr.out.trans Aa.out⟩
    | true =>
     have HT : Hid (gt T F e q = aW T (vl.foldl (mO T) e1) q) := hide (by rw [HR.out, hfm]; rfl)
     rw [hfm] at cf
     clear hfm
     go_wp2_with fail
     clear c7 cf c6 cv
     have Au := hide HEr.out
     have AD := hide HFr.out
     clear HEr HFr
     go_loopw [67] (fun x wz => ∃ j : Nat, j ≤ vl.length ∧ x = .int .i64 j ∧ Hid (Eg N S A T F n ((vl.take j).foldl (mO T) e1) wz) ∧ Hid (Fr (fun k => ¬ S k) w wz)) (fun x _ => vl.length - (intOf x).toNat)
     case atStart => exact ⟨0, by omega, rfl, hide Au.out, AD⟩
     case round =>
      rename World => wz
      obtain ⟨j, hj, rfl, HEr, HFr⟩ := hrel
      by_cases hjl : j < vl.length
      · obtain ⟨p0, hp⟩ := am hjl
        obtain ⟨Az, AF⟩ := Ap.out p0 (List.mem_of_getElem? hp)
        obtain ⟨p, rfl⟩ := Int.eq_ofNat_of_zero_le Az
        have Aj : p < n := by omega
        obtain ⟨gx, ox, rfl, cx⟩ := (Aq.out wz (HE.out.stay HFr.out)).get hp
        have Ae : Hid ((vl.take (j + 1)).foldl (mO T) e1 = dm T (fV ((vl.take j).foldl (mO T) e1) p) p) := hide (cT hp)
        obtain ⟨AH, h3⟩ := HEr.out
        have CC := hide (lp h3 Aj)
        clear hp h3
        go_wp2_with (first | (go_at_call 212; refine CC.out.mono ?_; rintro _ w4 ⟨rfl, he, hf⟩; have CV := hide (iR (⟨_, he⟩ : Eg N S A T F n _ _) Aj); have Ad := hide hf; clear he hf) | (go_at_call 215; refine CV.out.mono ?_; rintro _ w5 ⟨rfl, he, hf⟩; have Ac := hide he; have Aa := hide (Ad.out.trans hf); clear he hf))
        go_roundw
        case rel => exact ⟨j + 1, by omega, by go_num, hide (by rw [Ae.out]; exact Ac.out), hide (HFr.out.trans Aa.out)⟩
        case measure => simp [intOf]; omega
      · have At : Hid (vl.take j = vl) := hide (List.take_of_length_le (by omega))
        rw [At.out] at HEr
        have CD := hide (gh HEr.out hq)
        go_wp2_with (go_at_call 216; refine CD.out.mono ?_; rintro _ w5 ⟨rfl, he, hf⟩; have Ac := hide he; have Aa := hide hf; clear he hf)
        go_end0
        exact ⟨rfl, by rw [HT.out]; exact Ac.out, HFr.out.trans Aa.out⟩
theorem jE {f : Es → Nat → Es} {e : Es} {k : Nat} : (List.range (k + 1)).foldl f e = f ((List.range k).foldl f e) k := by rw [List.range_succ, List.foldl_append]; rfl
theorem tz (h : Eg N S A T F n e w) :
    Calls Tryz.prog 180 #[aa A.K] w fun o w' => o = .returned (.tuple #[]) ∧ Eg N S A T F n (beginE T F n e) w' ∧ Fr (fun k => ¬ S k) w w' := by
 have Ak := hide h
 obtain ⟨tv, h⟩ := h
 have HE := hide h
 have Ar := h.pf.n4
 have k7 := h.bx.get (i := 7) rfl
 clear h
 go_enter Tryz.func180, Tryz.ntmps180
 go_wp2_with fail
 clear k7
 go_loopw [11] (fun x wr => ∃ k : Nat, k ≤ n ∧ x = .int .i64 k ∧ Hid (Eg N S A T F n ((List.range k).foldl (fR T F) e) wr) ∧ Hid (Fr (fun k => ¬ S k) w wr)) (fun x _ => n - (intOf x).toNat)
 case atStart => exact ⟨0, by omega, rfl, hide Ak.out, hide (Fr.refl _ _)⟩
 case round =>
  obtain ⟨k, hk, rfl, HEr, HFr⟩ := hrel
  by_cases hlt : k < n
  · have Aa : Hid ((List.range (k + 1)).foldl (fR T F) e = fR T F ((List.range k).foldl (fR T F) e) k) := hide jE
    generalize (List.range k).foldl (fR T F) e = e1 at HEr Aa
    have C2 := hide (dp HEr.out hlt tag2)
    have C1 := hide (dp HEr.out hlt tag1)
    obtain ⟨Aj, Ab⟩ := HEr.out
    have cf := Ab.ro.lf.get (dv hlt)
    have Aq := Ab.bx.get (i := 11) rfl
    have co := (Ab.op false).get (aX hlt)
    clear Ab
    cases hfm : bI T F k with
    | false =>
     rw [hfm] at cf
     have HT : Hid (fR T F e1 k = tell e1 k 2) := hide (by unfold fR; rw [hfm]; rfl)
     clear hfm
     go_wp2_with (go_at_call 213; refine C2.out.mono ?_; rintro _ w5 ⟨rfl, he, hf⟩; have Ad := hide he; have Ac := hide hf; clear he hf)
     go_roundw
     case rel => exact ⟨k + 1, by omega, by go_num, hide (by rw [Aa.out, HT.out]; exact Ad.out), hide (HFr.out.trans Ac.out)⟩
     case measure => simp [intOf]; omega
    | true =>
     rw [hfm] at cf
     by_cases hx : e1.op false k = 0
     · have HT : Hid (fR T F e1 k = tell e1 k 1) := hide (by unfold fR; rw [hfm]; exact if_pos hx)
       have Ae : (e1.op false k == 0) = true := by simpa using hx
       generalize e1.op false k = x at co Ae
       clear hfm hx
       go_wp2_with (go_at_call 213; refine C1.out.mono ?_; rintro _ w5 ⟨rfl, he, hf⟩; have Ad := hide he; have Ac := hide hf; clear he hf)
       go_roundw
       case rel => exact ⟨k + 1, by omega, by go_num, hide (by rw [Aa.out, HT.out]; exact Ad.out), hide (HFr.out.trans Ac.out)⟩
       case measure => simp [intOf]; omega
     · have HT : Hid (fR T F e1 k = e1) := hide (by unfold fR; rw [hfm]; exact if_neg hx)
       have Ae : (e1.op false k == 0) = false := by simpa using hx
       generalize e1.op false k = x at co Ae
       clear hfm hx
       go_wp2_with fail
       go_roundw
       case rel => exact ⟨k + 1, by omega, by go_num, hide (by rw [Aa.out, HT.out]; exact HEr.out), HFr⟩
       case measure => simp [intOf]; omega
  · have Ai : k = n := by omega
    have HR : Hid (beginE T F n e = (List.range n).foldl (iO T) ((List.range k).foldl (fR T F) e)) := hide (by rw [Ai]; rfl)
    clear Ai
    generalize (List.range k).foldl (fR T F) e = e1 at *
    have An : wr.cell? ⟨A.K, 18, none⟩ = some (sl A.mq n) := by obtain ⟨Aj, Ab⟩ := HEr.out; exact Ab.bx.get (i := 18) rfl
    go_wp2_with fail
    clear An
    have Ao := hide HEr.out
    have Al := hide HFr.out
    clear HEr HFr
    go_loopw [41] (fun x wz => ∃ j : Nat, j ≤ n ∧ x = .int .i64 j ∧ Hid (Eg N S A T F n ((List.range j).foldl (iO T) e1) wz) ∧ Hid (Fr (fun k => ¬ S k) w wz)) (fun x _ => n - (intOf x).toNat)
    case atStart => exact ⟨0, by omega, rfl, hide Ao.out, Al⟩
    case round =>
     rename World => wz
     obtain ⟨j, hj, rfl, HEr, HFr⟩ := hrel
     by_cases hjl : j < n
     · have Aa : Hid ((List.range (j + 1)).foldl (iO T) e1 = iO T ((List.range j).foldl (iO T) e1) j) := hide jE
       generalize (List.range j).foldl (iO T) e1 = e2 at HEr Aa
       have CH : Hid (Calls Tryz.prog 214 #[aa A.K, .int .i64 j, .int .i64 1] wz fun r w' => r = .returned (.bool (has e2 j 1)) ∧ Below wz.heap.size wz w') := hide (by obtain ⟨Aj, Ab⟩ := HEr.out; exact da Ab hjl tag1)
       cases hh : has e2 j 1 with
       | true =>
        have HT : Hid (iO T e2 j = aW T (dm T (tell e2 j 3) j) j) := hide (by unfold iO; rw [hh]; rfl)
        rw [hh] at CH
        clear hh
        go_wp2_with (first | (go_at_call 214; refine CH.out.mono ?_; rintro _ w3 ⟨rfl, hb⟩; have Am := hide (Fr.of_below (Z := fun k => ¬ S k) hb); have CT := hide (dp (HEr.out.go hb) hjl tag3); clear hb) | (go_at_call 213; refine CT.out.mono ?_; rintro _ w4 ⟨rfl, he, hf⟩; have CV := hide (iR he hjl); have Af := hide (Am.out.trans hf); clear he hf) | (go_at_call 215; refine CV.out.mono ?_; rintro _ w5 ⟨rfl, he, hf⟩; have CD := hide (gh he hjl); have Ac := hide (Af.out.trans hf); clear he hf) | (go_at_call 216; refine CD.out.mono ?_; rintro _ w6 ⟨rfl, he, hf⟩; have Ag := hide he; have Ah := hide (Ac.out.trans hf); clear he hf))
        go_roundw
        case rel => exact ⟨j + 1, by omega, by go_num, hide (by rw [Aa.out, HT.out]; exact Ag.out), hide (HFr.out.trans Ah.out)⟩
        case measure => simp [intOf]; omega
       | false =>
        have HT : Hid (iO T e2 j = aW T (dm T e2 j) j) := hide (by unfold iO; rw [hh]; rfl)
        rw [hh] at CH
        clear hh
        go_wp2_with (first | (go_at_call 214; refine CH.out.mono ?_; rintro _ w3 ⟨rfl, hb⟩; have Af := hide (Fr.of_below (Z := fun k => ¬ S k) hb); have CV := hide (iR (HEr.out.go hb) hjl); clear hb) | (go_at_call 215; refine CV.out.mono ?_; rintro _ w5 ⟨rfl, he, hf⟩; have CD := hide (gh he hjl); have Ac := hide (Af.out.trans hf); clear he hf) | (go_at_call 216; refine CD.out.mono ?_; rintro _ w6 ⟨rfl, he, hf⟩; have Ag := hide he; have Ah := hide (Ac.out.trans hf); clear he hf))
        go_roundw
        case rel => exact ⟨j + 1, by omega, by go_num, hide (by rw [Aa.out, HT.out]; exact Ag.out), hide (HFr.out.trans Ah.out)⟩
        case measure => simp [intOf]; omega
     · have Ap : j = n := by omega
       subst Ap
       go_wp2_with fail
       go_end0
       exact ⟨rfl, by rw [HR.out]; exact HEr.out, HFr.out⟩
end
end Go.Proofs.YtmlhcncagdfjfaaGreat.Fa
