import Derived.Test.YtmlhcncagdfjfaaGreatFs2
set_option maxRecDepth 100000
set_option maxHeartbeats 6400000
namespace Go.Proofs.YtmlhcncagdfjfaaGreat.Fa
open Go.RowKit
section
variable {N : Nat} {S : Nat → Prop} {A : Ad} {T : Th} {F : List Int} {n : Nat} {e : Es} {tv : Value} {w w' : World}
theorem mY (h : En N S A T F n e tv w) {r : Nat} (hr : r < T.rules.length) : ∃ (kd : Int) (hm g o : Nat) (bv : Value), ag T r = (hm : Int) ∧ hm < n ∧ aQ T r = (!decide (kd = 3)) ∧ A.ra = some ⟨g, o, none⟩ ∧ ∀ w' : World, (∀ k, S k → w'.heap[k]? = w.heap[k]?) → w'.cell? ⟨g, o + r * 3, none⟩ = some (.int .i64 kd) ∧ w'.cell? ⟨g, o + r * 3 + 1, none⟩ = some (.int .i64 hm) ∧ w'.cell? ⟨g, o + r * 3 + 2, none⟩ = some bv := by
 obtain ⟨x, hx, Ac, Ab, Ad⟩ := cV h.pf hr
 obtain ⟨hm, Aa⟩ := Int.eq_ofNat_of_zero_le Ab
 obtain ⟨gr, go, bd, bp, er, hg, x0, x1, x2, -, -, -⟩ := dZ h.ro.ta.rules hx
 refine ⟨x.kind, hm, gr, go, _, by rw [Ac, Aa], by omega, ?_, er, fun w' hk => ⟨by rw [World.cell?_of_block (hk gr (h.ro.n0 gr hg)), x0], by rw [World.cell?_of_block (hk gr (h.ro.n0 gr hg)), x1, Aa], by rw [World.cell?_of_block (hk gr (h.ro.n0 gr hg)), x2]⟩⟩
 unfold aQ
 rw [Int.toNat_natCast, hx]
 rfl
theorem xw {r : Nat} (h : Eg N S A T F n e w) (hr : r < T.rules.length) :
    Calls Tryz.prog 221 #[ab A.K, .int .i64 r] w fun o w' => o = .returned (.tuple #[]) ∧ Eg N S A T F n (cF T e r) w' ∧ Fr (fun k => ¬ S k) w w' := by
 have AA := hide h
 obtain ⟨tv, h⟩ := h
 have HE := hide h
 have AD : T.rules.length ≤ 4096 := h.pf.ok.rl
 obtain ⟨kd, hm, gr, go, bv, hh, Ad, Ae, er, Af⟩ := mY h hr
 have x1 := (Af w fun _ _ => rfl).2.1
 obtain ⟨la, lc, cl, Ah⟩ := h.ro.lv.stay Ad
 have k2 := h.bx.get (i := 2) rfl
 have k6 := h.bx.get (i := 6) rfl
 rw [er] at k2
 obtain ⟨l, hl⟩ : ∃ l, al T (hm : Int) = l := ⟨_, rfl⟩
 rw [hl] at cl Ah
 have AF : l.length ≤ 64 := by rw [← hl]; exact dl h.pf Ad
 have Ar : Hid (al T (ag T r) = l) := hide (by rw [hh, hl])
 have Au : Hid (∀ p ∈ l, lI n p) := hide fun p hp => gG h.pf Ad (by rw [hl]; exact hp)
 have Ax := hide Ah
 have Az := hide Af
 have At := hide er
 have AG := hide hh
 have Ap := hide Ae
 have HR : Hid (cF T e r = if aQ T r then (if (defendE T (l.foldl (use1 (r : Int)) e) r).ob hm = 0 then tell (defendE T (l.foldl (use1 (r : Int)) e) r) hm 3 else defendE T (l.foldl (use1 (r : Int)) e) r) else l.foldl (use1 (r : Int)) e) := hide (by unfold cF; rw [hh, hl])
 clear h Af Ah er hh hl Ae
 go_enter Tryz.func221, Tryz.ntmps221
 go_wp2_with fail
 clear k2 k6 cl x1
 go_loopw [26] (fun x wr => ∃ k : Nat, k ≤ l.length ∧ x = .int .i64 k ∧ Hid (Eg N S A T F n ((l.take k).foldl (use1 (r : Int)) e) wr) ∧ Hid (Fr (fun k => ¬ S k) w wr)) (fun x _ => l.length - (intOf x).toNat)
 case atStart => exact ⟨0, by omega, rfl, hide AA.out, hide (Fr.refl _ _)⟩
 case round =>
  obtain ⟨k, hk, rfl, HEr, HFr⟩ := hrel
  by_cases hlt : k < l.length
  · obtain ⟨p0, hp⟩ := am hlt
    obtain ⟨Aq, Av⟩ := Au.out p0 (List.mem_of_getElem? hp)
    obtain ⟨p, rfl⟩ := Int.eq_ofNat_of_zero_le Aq
    have Aw : p < n := by omega
    obtain ⟨gx, ox, rfl, cx⟩ := (Ax.out wr (HE.out.stay HFr.out)).get hp
    have Ak : Hid ((l.take (k + 1)).foldl (use1 (r : Int)) e = use1 (r : Int) ((l.take k).foldl (use1 (r : Int)) e) p) := hide (dk hp)
    generalize (l.take k).foldl (use1 (r : Int)) e = e1 at HEr Ak
    have CL := hide (fQ HEr.out Aw)
    obtain ⟨Ay, Aa⟩ := HEr.out
    have AB := Aa.bx.get (i := 16) rfl
    have c1 := Aa.ro.lx.get (i := r) (v := sl (A.cr r) l.length) (by rw [List.getElem?_map, List.getElem?_range hr, ← Ar.out]; rfl)
    have c2 := (Aa.cr r hr).get (fY (k := k) (p := (p : Int)) (by rw [Ar.out]; exact hp)).1
    clear hp Aa Aq Av
    by_cases hx : e1.cd r p = 0
    · have HT : Hid (use1 (r : Int) e1 p = aL e1 p) := hide (by unfold use1; rw [if_pos hx])
      have Ab : (e1.cd r p == 0) = true := by simpa using hx
      generalize e1.cd r p = x at c2 Ab
      clear hx
      go_wp2_with (go_at_call 218; refine CL.out.mono ?_; rintro _ w4 ⟨rfl, he, hf⟩; have Ag := hide he; have Al := hide hf; clear he hf)
      go_roundw
      case rel => exact ⟨k + 1, by omega, by go_num, hide (by rw [Ak.out, HT.out]; exact Ag.out), hide (HFr.out.trans Al.out)⟩
      case measure => simp [intOf]; omega
    · have HT : Hid (use1 (r : Int) e1 p = e1) := hide (by unfold use1; rw [if_neg hx])
      have Ab : (e1.cd r p == 0) = false := by simpa using hx
      generalize e1.cd r p = x at c2 Ab
      clear hx
      go_wp2_with fail
      go_roundw
      case rel => exact ⟨k + 1, by omega, by go_num, hide (by rw [Ak.out, HT.out]; exact HEr.out), HFr⟩
      case measure => simp [intOf]; omega
  · have HL : Hid (l.take k = l) := hide (List.take_of_length_le (by omega))
    rw [HL.out] at HEr
    generalize l.foldl (use1 (r : Int)) e = e1 at *
    obtain ⟨Ay, Aa⟩ := HEr.out
    obtain ⟨y0, y1, y2⟩ := Az.out wr (HE.out.stay HFr.out)
    have k2 := Aa.bx.get (i := 2) rfl
    rw [At.out] at k2
    have CT := hide (eJ (w := wr) (k := kd) (h := (hm : Int)) (v := bv))
    cases htm : aQ T r with
    | false =>
     have Ac : (!decide (kd = 3)) = false := by rw [← Ap.out]; exact htm
     rw [Ac] at CT
     have HT : Hid (cF T e r = e1) := hide (by rw [HR.out, htm]; rfl)
     clear htm Ac Aa
     go_wp2_with (go_at_call 176; refine CT.out.mono ?_; rintro _ w2 ⟨rfl, hb⟩; have HB := hide hb; clear hb)
     go_end0
     exact ⟨rfl, by rw [HT.out]; exact HEr.out.go HB.out, HFr.out.trans (Fr.of_below HB.out)⟩
    | true =>
     have Ac : (!decide (kd = 3)) = true := by rw [← Ap.out]; exact htm
     rw [Ac] at CT
     have As := hide htm
     have An : Hid (cF T e r = if (defendE T e1 r).ob hm = 0 then tell (defendE T e1 r) hm 3 else defendE T e1 r) := hide (by rw [HR.out, htm]; rfl)
     clear htm Ac Aa
     go_upto_region 9 with (first | (go_at_call 176; refine CT.out.mono ?_; rintro _ w2 ⟨rfl, hb⟩; have HB := hide hb; have CD := hide (mO (HEr.out.go hb) hr As.out); clear hb) | (go_at_call 179; refine CD.out.mono ?_; rintro _ w3 ⟨rfl, he, hf⟩; have Aj := hide he; have Ao := hide ((HFr.out.trans (Fr.of_below HB.out)).trans hf); clear he hf))
     clear k2 y0 y1 y2 CT CD
     generalize defendE T e1 r = e2 at *
     have CL := hide (dx Aj.out Ad be)
     obtain ⟨AE, Ai⟩ := Aj.out
     have AC := Ai.bx.get (i := 17) rfl
     have Am := Ai.ob.get (aY Ad)
     clear Ai
     by_cases hx : e2.ob hm = 0
     · have HT : Hid (cF T e r = tell e2 hm 3) := hide (by rw [An.out, if_pos hx])
       have Ab : (e2.ob hm == 0) = true := by simpa using hx
       generalize e2.ob hm = x at Am Ab
       clear hx
       go_wp2_with (go_at_call 213; refine CL.out.mono ?_; rintro _ w4 ⟨rfl, he, hf⟩; have Ag := hide he; have Al := hide hf; clear he hf)
       go_end0
       exact ⟨rfl, by rw [HT.out]; exact Ag.out, Ao.out.trans Al.out⟩
     · have HT : Hid (cF T e r = e2) := hide (by rw [An.out, if_neg hx])
       have Ab : (e2.ob hm == 0) = false := by simpa using hx
       generalize e2.ob hm = x at Am Ab
       clear hx
       go_wp2_with fail
       go_end0
       exact ⟨rfl, by rw [HT.out]; exact Aj.out, Ao.out⟩
theorem wn {r : Nat} (h : Eg N S A T F n e w) (hr : r < T.rules.length) :
    Calls Tryz.prog 222 #[ab A.K, .int .i64 r] w fun o w' => o = .returned (.tuple #[]) ∧ Eg N S A T F n (bR T e r) w' ∧ Fr (fun k => ¬ S k) w w' := by
 have AA := hide h
 obtain ⟨tv, h⟩ := h
 have HE := hide h
 have AC : T.rules.length ≤ 4096 := h.pf.ok.rl
 obtain ⟨kd, hm, gr, go, bv, hh, Ad, Ae, er, Ag⟩ := mY h hr
 have x1 := (Ag w fun _ _ => rfl).2.1
 obtain ⟨la, lc, cl, Ah⟩ := h.ro.lv.stay Ad
 have k2 := h.bx.get (i := 2) rfl
 have k6 := h.bx.get (i := 6) rfl
 rw [er] at k2
 obtain ⟨l, hl⟩ : ∃ l, al T (hm : Int) = l := ⟨_, rfl⟩
 rw [hl] at cl Ah
 have AE : l.length ≤ 64 := by rw [← hl]; exact dl h.pf Ad
 have Aq : Hid (al T (ag T r) = l) := hide (by rw [hh, hl])
 have At : Hid (∀ p ∈ l, lI n p) := hide fun p hp => gG h.pf Ad (by rw [hl]; exact hp)
 have Aw := hide Ah
 have Ay := hide Ag
 have As := hide er
 have Ao := hide Ae
 have HR : Hid (bR T e r = if aQ T r then (if dY (withE T (l.foldl (drop1 T (r : Int)) e) r) true hm then aL (aF (withE T (l.foldl (drop1 T (r : Int)) e) r) true hm) hm else aF (withE T (l.foldl (drop1 T (r : Int)) e) r) true hm) else l.foldl (drop1 T (r : Int)) e) := hide (by unfold bR; rw [hh, hl])
 clear h Ag Ah er hh hl Ae
 go_enter Tryz.func222, Tryz.ntmps222
 go_wp2_with fail
 clear k2 k6 cl x1
 go_loopw [26] (fun x wr => ∃ k : Nat, k ≤ l.length ∧ x = .int .i64 k ∧ Hid (Eg N S A T F n ((l.take k).foldl (drop1 T (r : Int)) e) wr) ∧ Hid (Fr (fun k => ¬ S k) w wr)) (fun x _ => l.length - (intOf x).toNat)
 case atStart => exact ⟨0, by omega, rfl, hide AA.out, hide (Fr.refl _ _)⟩
 case round =>
  obtain ⟨k, hk, rfl, HEr, HFr⟩ := hrel
  by_cases hlt : k < l.length
  · obtain ⟨p0, hp⟩ := am hlt
    obtain ⟨Ap, Au⟩ := At.out p0 (List.mem_of_getElem? hp)
    obtain ⟨p, rfl⟩ := Int.eq_ofNat_of_zero_le Ap
    have Ak : p < n := by omega
    obtain ⟨gx, ox, rfl, cx⟩ := (Aw.out wr (HE.out.stay HFr.out)).get hp
    have Aj : Hid ((l.take (k + 1)).foldl (drop1 T (r : Int)) e = drop1 T (r : Int) ((l.take k).foldl (drop1 T (r : Int)) e) p) := hide (dk hp)
    generalize (l.take k).foldl (drop1 T (r : Int)) e = e1 at HEr Aj
    obtain ⟨Ax, Aa⟩ := HEr.out
    have CC := hide (lp Aa Ak)
    have AB := Aa.bx.get (i := 16) rfl
    have c1 := Aa.ro.lx.get (i := r) (v := sl (A.cr r) l.length) (by rw [List.getElem?_map, List.getElem?_range hr, ← Aq.out]; rfl)
    have c2 := (Aa.cr r hr).get (fY (k := k) (p := (p : Int)) (by rw [Aq.out]; exact hp)).2
    clear hp Aa Ap Au
    cases hx : e1.cb r p with
    | false =>
     have HT : Hid (drop1 T (r : Int) e1 p = bz T (ci e1 p) p) := hide (by unfold drop1; rw [hx]; rfl)
     rw [hx] at c2
     clear hx
     go_wp2_with (first | (go_at_call 212; refine CC.out.mono ?_; rintro _ w4 ⟨rfl, he, hf⟩; have CV := hide (jq (⟨_, he⟩ : Eg N S A T F n _ _) Ak); have Ac := hide hf; clear he hf) | (go_at_call 215; refine CV.out.mono ?_; rintro _ w5 ⟨rfl, he, hf⟩; have Ai := hide he; have Af := hide (Ac.out.trans hf); clear he hf))
     go_roundw
     case rel => exact ⟨k + 1, by omega, by go_num, hide (by rw [Aj.out, HT.out]; exact Ai.out), hide (HFr.out.trans Af.out)⟩
     case measure => simp [intOf]; omega
    | true =>
     have HT : Hid (drop1 T (r : Int) e1 p = e1) := hide (by unfold drop1; rw [hx]; rfl)
     rw [hx] at c2
     clear hx
     go_wp2_with fail
     go_roundw
     case rel => exact ⟨k + 1, by omega, by go_num, hide (by rw [Aj.out, HT.out]; exact HEr.out), HFr⟩
     case measure => simp [intOf]; omega
  · have HL : Hid (l.take k = l) := hide (List.take_of_length_le (by omega))
    rw [HL.out] at HEr
    generalize l.foldl (drop1 T (r : Int)) e = e1 at *
    obtain ⟨Ax, Aa⟩ := HEr.out
    obtain ⟨y0, y1, y2⟩ := Ay.out wr (HE.out.stay HFr.out)
    have k2 := Aa.bx.get (i := 2) rfl
    rw [As.out] at k2
    have CT := hide (eJ (w := wr) (k := kd) (h := (hm : Int)) (v := bv))
    cases htm : aQ T r with
    | false =>
     have Ab : (!decide (kd = 3)) = false := by rw [← Ao.out]; exact htm
     rw [Ab] at CT
     have HT : Hid (bR T e r = e1) := hide (by rw [HR.out, htm]; rfl)
     clear htm Ab Aa
     go_wp2_with (go_at_call 176; refine CT.out.mono ?_; rintro _ w2 ⟨rfl, hb⟩; have HB := hide hb; clear hb)
     go_end0
     exact ⟨rfl, by rw [HT.out]; exact HEr.out.go HB.out, HFr.out.trans (Fr.of_below HB.out)⟩
    | true =>
     have Ab : (!decide (kd = 3)) = true := by rw [← Ao.out]; exact htm
     rw [Ab] at CT
     have Ar := hide htm
     have Al : Hid (bR T e r = if dY (withE T e1 r) true hm then aL (aF (withE T e1 r) true hm) hm else aF (withE T e1 r) true hm) := hide (by rw [HR.out, htm]; rfl)
     clear htm Ab Aa
     go_upto_region 10 with (first | (go_at_call 176; refine CT.out.mono ?_; rintro _ w2 ⟨rfl, hb⟩; have HB := hide hb; have CD := hide (pB (HEr.out.go hb) hr Ar.out); clear hb) | (go_at_call 238; refine CD.out.mono ?_; rintro _ w3 ⟨rfl, he, hf⟩; have Az := hide he; have Am := hide ((HFr.out.trans (Fr.of_below HB.out)).trans hf); clear he hf))
     clear k2 y0 y1 y2 CT CD
     generalize withE T e1 r = e2 at *
     obtain ⟨AD, An⟩ := Az.out
     have CX := hide (qV An Ad)
     clear An
     cases hx : dY e2 true hm with
     | true =>
      have HT : Hid (bR T e r = aL (aF e2 true hm) hm) := hide (by rw [Al.out, hx]; rfl)
      rw [hx] at CX
      clear hx
      go_wp2_with (first | (go_at_call 220; refine CX.out.mono ?_; rintro _ w4 ⟨rfl, he, hf⟩; have CL := hide (fQ (⟨_, he⟩ : Eg N S A T F n _ _) Ad); have Ac := hide hf; clear he hf) | (go_at_call 218; refine CL.out.mono ?_; rintro _ w5 ⟨rfl, he, hf⟩; have Ai := hide he; have Af := hide (Ac.out.trans hf); clear he hf))
      go_end0
      exact ⟨rfl, by rw [HT.out]; exact Ai.out, Am.out.trans Af.out⟩
     | false =>
      have HT : Hid (bR T e r = aF e2 true hm) := hide (by rw [Al.out, hx]; rfl)
      rw [hx] at CX
      clear hx
      go_wp2_with (go_at_call 220; refine CX.out.mono ?_; rintro _ w4 ⟨rfl, he, hf⟩; have Av := hide he; have Ac := hide hf; clear he hf)
      go_end0
      exact ⟨rfl, by rw [HT.out]; exact ⟨_, Av.out⟩, Am.out.trans Ac.out⟩
end
set_option maxRecDepth 100000
set_option maxHeartbeats 6400000
section
variable {N : Nat} {S : Nat → Prop} {A : Ad} {T : Th} {F : List Int} {n : Nat} {e : Es} {tv : Value} {w w' : World}
theorem yY {p : RuleM → Bool} {k : Nat} {z x : Int} (h : x ∈ dK T p k z) : 0 ≤ x ∧ x < (k : Int) := by
 unfold dK at h
 obtain ⟨a, ha, rfl⟩ := List.mem_map.1 h
 have := List.mem_range.1 (List.mem_filter.1 ha).1
 exact ⟨Int.natCast_nonneg _, by show (a : Int) < k; omega⟩
theorem yf {p : RuleM → Bool} {k : Nat} {z : Int} : (dK T p k z).length ≤ k := by
 unfold dK
 rw [List.length_map]
 exact Nat.le_trans (List.length_filter_le _ _) (by simp)
theorem kF (h : En N S A T F n e tv w) (b : Bool) {q : Nat} (hq : q < n) : ∃ l a c, br T b q = l ∧ l.length ≤ 4096 ∧ (∀ x ∈ l, ∃ r : Nat, x = (r : Int) ∧ r < T.rules.length) ∧ w.cell? ⟨A.us b, q, none⟩ = some (.slice a l.length c) ∧ ∀ w' : World, (∀ k, S k → w'.heap[k]? = w.heap[k]?) → At1 w' a (aw l) := by
 obtain ⟨a, c, h1, h2⟩ := (h.ro.lu b).stay hq
 have Aa := h.pf.ok.rl
 refine ⟨_, a, c, rfl, Nat.le_trans yf Aa, fun x hx => ?_, h1, h2⟩
 obtain ⟨x0, x1⟩ := yY hx
 obtain ⟨r, rfl⟩ := Int.eq_ofNat_of_zero_le x0
 exact ⟨r, rfl, by omega⟩
theorem tI (h : En N S A T F n e tv w) {q : Nat} (hq : q < n) : ∃ l a c g o, row T.foes q = l ∧ A.fa = some ⟨g, o, none⟩ ∧ q < T.foes.length ∧ l.length ≤ 64 ∧ (∀ x ∈ l, lI n x) ∧ (∀ w' : World, (∀ k, S k → w'.heap[k]? = w.heap[k]?) → w'.cell? ⟨g, o + q, none⟩ = some (.slice a l.length c) ∧ At1 w' a (aw l)) := by
 obtain ⟨l, hl⟩ := am (l := T.foes) (i := q) (by have := h.pf.ok.fl; have := h.pf.ln; omega)
 have er : row T.foes (q : Int) = l := bW (by rw [Int.toNat_natCast]; exact hl)
 obtain ⟨g, o, a2, c2, e1, hg, hc, -, -, hI⟩ := eq h.ro.ta.foes hl
 exact ⟨l, a2, c2, g, o, er, e1, (List.getElem?_eq_some_iff.1 hl).1, by rw [← er]; exact (eP h.pf hq).2, fun x hx => h.pf.foe q hq x (by rw [er]; exact hx), fun w' hk => ⟨by rw [World.cell?_of_block (hk g (h.ro.n0 g hg)), hc], (Ints.keep (fun g hg => hk g (h.ro.n0 g hg)) hI).at1⟩⟩
theorem tK {q : Nat} (h : Eg N S A T F n e w) (hq : q < n) :
    Calls Tryz.prog 183 #[ab A.K, .int .i64 q] w fun o w' => o = .returned (.tuple #[]) ∧ Eg N S A T F n (iT T e q) w' ∧ Fr (fun k => ¬ S k) w w' := by
 have Al := hide h
 obtain ⟨tv, h⟩ := h
 have HE := hide h
 have Ap : T.rules.length ≤ 4096 := h.pf.ok.rl
 have Ak := h.bx.get (i := 12) rfl
 obtain ⟨l, la, lc, el, Ao, Ad, cl, Af⟩ := kF h true hq
 have Am := hide Ad
 have Ag := hide Af
 have HR : Hid (iT T e q = l.foldl (plusD1 T) e) := hide (by unfold iT; rw [el])
 clear h Ad Af el
 go_enter Tryz.func183, Tryz.ntmps183
 go_wp2_with fail
 clear Ak cl
 go_loopw [15] (fun x wr => ∃ k : Nat, k ≤ l.length ∧ x = .int .i64 k ∧ Hid (Eg N S A T F n ((l.take k).foldl (plusD1 T) e) wr) ∧ Hid (Fr (fun k => ¬ S k) w wr)) (fun x _ => l.length - (intOf x).toNat)
 case atStart => exact ⟨0, by omega, rfl, hide Al.out, hide (Fr.refl _ _)⟩
 case round =>
  obtain ⟨k, hk, rfl, HEr, HFr⟩ := hrel
  by_cases hlt : k < l.length
  · obtain ⟨r0, hr⟩ := am hlt
    obtain ⟨r, rfl, Ae⟩ := Am.out r0 (List.mem_of_getElem? hr)
    obtain ⟨gx, ox, rfl, cx⟩ := (Ag.out wr (HE.out.stay HFr.out)).get hr
    have Aa : Hid ((l.take (k + 1)).foldl (plusD1 T) e = plusD1 T ((l.take k).foldl (plusD1 T) e) r) := hide (dk hr)
    clear hr
    generalize (l.take k).foldl (plusD1 T) e = e1 at HEr Aa
    obtain ⟨An, Ac⟩ := HEr.out
    have CM := hide (uN Ac Ae)
    clear Ac
    by_cases hx : (bJ e1 true r).ms true r = 0
    · have HT : Hid (plusD1 T e1 r = cF T (bJ e1 true r) r) := hide (by unfold plusD1; exact if_pos hx)
      rw [decide_eq_true hx] at CM
      clear hx
      go_wp2_with (first | (go_at_call 217; refine CM.out.mono ?_; rintro _ w4 ⟨rfl, he, hf⟩; have CV := hide (xw (⟨_, he⟩ : Eg N S A T F n _ _) Ae); have Ab := hide hf; clear he hf) | (go_at_call 221; refine CV.out.mono ?_; rintro _ w5 ⟨rfl, he, hf⟩; have Ai := hide he; have Aj := hide (Ab.out.trans hf); clear he hf))
      go_roundw
      case rel => exact ⟨k + 1, by omega, by go_num, hide (by rw [Aa.out, HT.out]; exact Ai.out), hide (HFr.out.trans Aj.out)⟩
      case measure => simp [intOf]; omega
    · have HT : Hid (plusD1 T e1 r = bJ e1 true r) := hide (by unfold plusD1; exact if_neg hx)
      rw [decide_eq_false hx] at CM
      clear hx
      go_wp2_with (go_at_call 217; refine CM.out.mono ?_; rintro _ w4 ⟨rfl, he, hf⟩; have Ah := hide he; have Ab := hide hf; clear he hf)
      go_roundw
      case rel => exact ⟨k + 1, by omega, by go_num, hide (by rw [Aa.out, HT.out]; exact ⟨_, Ah.out⟩), hide (HFr.out.trans Ab.out)⟩
      case measure => simp [intOf]; omega
  · have HL : Hid (l.take k = l) := hide (List.take_of_length_le (by omega))
    go_wp2_with fail
    go_end0
    exact ⟨rfl, by rw [HR.out]; have := HEr.out; rw [HL.out] at this; exact this, HFr.out⟩
theorem sW {q : Nat} (h : Eg N S A T F n e w) (hq : q < n) :
    Calls Tryz.prog 184 #[ab A.K, .int .i64 q] w fun o w' => o = .returned (.tuple #[]) ∧ Eg N S A T F n (gJ T e q) w' ∧ Fr (fun k => ¬ S k) w w' := by
 have Al := hide h
 obtain ⟨tv, h⟩ := h
 have HE := hide h
 have Ap : T.rules.length ≤ 4096 := h.pf.ok.rl
 have Ak := h.bx.get (i := 12) rfl
 obtain ⟨l, la, lc, el, Ao, Ad, cl, Af⟩ := kF h true hq
 have Am := hide Ad
 have Ag := hide Af
 have HR : Hid (gJ T e q = l.foldl (minusD1 T) e) := hide (by unfold gJ; rw [el])
 clear h Ad Af el
 go_enter Tryz.func184, Tryz.ntmps184
 go_wp2_with fail
 clear Ak cl
 go_loopw [15] (fun x wr => ∃ k : Nat, k ≤ l.length ∧ x = .int .i64 k ∧ Hid (Eg N S A T F n ((l.take k).foldl (minusD1 T) e) wr) ∧ Hid (Fr (fun k => ¬ S k) w wr)) (fun x _ => l.length - (intOf x).toNat)
 case atStart => exact ⟨0, by omega, rfl, hide Al.out, hide (Fr.refl _ _)⟩
 case round =>
  obtain ⟨k, hk, rfl, HEr, HFr⟩ := hrel
  by_cases hlt : k < l.length
  · obtain ⟨r0, hr⟩ := am hlt
    obtain ⟨r, rfl, Ae⟩ := Am.out r0 (List.mem_of_getElem? hr)
    obtain ⟨gx, ox, rfl, cx⟩ := (Ag.out wr (HE.out.stay HFr.out)).get hr
    have Aa : Hid ((l.take (k + 1)).foldl (minusD1 T) e = minusD1 T ((l.take k).foldl (minusD1 T) e) r) := hide (dk hr)
    clear hr
    generalize (l.take k).foldl (minusD1 T) e = e1 at HEr Aa
    obtain ⟨An, Ac⟩ := HEr.out
    have CM := hide (ri Ac Ae)
    clear Ac
    cases hx : e1.rf true r with
    | false =>
     have HT : Hid (minusD1 T e1 r = bR T (refE e1 true r) r) := hide (by unfold minusD1; rw [hx]; rfl)
     rw [hx] at CM
     clear hx
     go_wp2_with (first | (go_at_call 219; refine CM.out.mono ?_; rintro _ w4 ⟨rfl, he, hf⟩; have CV := hide (wn (⟨_, he⟩ : Eg N S A T F n _ _) Ae); have Ab := hide hf; clear he hf) | (go_at_call 222; refine CV.out.mono ?_; rintro _ w5 ⟨rfl, he, hf⟩; have Ai := hide he; have Aj := hide (Ab.out.trans hf); clear he hf))
     go_roundw
     case rel => exact ⟨k + 1, by omega, by go_num, hide (by rw [Aa.out, HT.out]; exact Ai.out), hide (HFr.out.trans Aj.out)⟩
     case measure => simp [intOf]; omega
    | true =>
     have HT : Hid (minusD1 T e1 r = e1 ∧ refE e1 true r = e1) := hide ⟨by unfold minusD1; rw [hx]; rfl, by unfold refE; rw [hx]; rfl⟩
     rw [hx] at CM
     clear hx
     go_wp2_with (go_at_call 219; refine CM.out.mono ?_; rintro _ w4 ⟨rfl, he, hf⟩; have Ah := hide he; have Ab := hide hf; clear he hf)
     go_roundw
     case rel => exact ⟨k + 1, by omega, by go_num, hide (by rw [Aa.out, HT.out.1]; have := Ah.out; rw [HT.out.2] at this; exact ⟨_, this⟩), hide (HFr.out.trans Ab.out)⟩
     case measure => simp [intOf]; omega
  · have HL : Hid (l.take k = l) := hide (List.take_of_length_le (by omega))
    go_wp2_with fail
    go_end0
    exact ⟨rfl, by rw [HR.out]; have := HEr.out; rw [HL.out] at this; exact this, HFr.out⟩
theorem tA {q : Nat} (h : Eg N S A T F n e w) (hq : q < n) :
    Calls Tryz.prog 181 #[ab A.K, .int .i64 q] w fun o w' => o = .returned (.tuple #[]) ∧ Eg N S A T F n (gj T e q) w' ∧ Fr (fun k => ¬ S k) w w' := by
 have CT := hide (dx h hq be)
 obtain ⟨tv, h⟩ := h
 have HE := hide h
 have AI : T.rules.length ≤ 4096 := h.pf.ok.rl
 obtain ⟨l, la, lc, el, AJ, Ap, cl, Al⟩ := kF h false hq
 obtain ⟨fl, fa, fc, gf, of, ef, Ao, AH, AE, Ah, Ad⟩ := tI h hq
 have Av := hide Ap
 have Ax := hide Al
 have Aq := hide Ah
 have Af := hide Ad
 have Au := hide Ao
 have AD := hide fun (r : Nat) (hr : r < T.rules.length) => jk h hr
 have As : Hid (∀ w' : World, (∀ k, S k → w'.heap[k]? = w.heap[k]?) → w'.cell? ⟨A.us false, q, none⟩ = some (.slice la l.length lc)) := hide fun w' hk => by rw [World.cell?_of_block (hk _ (h.ro.lu false).1), cl]
 have HR : Hid (gj T e q = fl.foldl aL (l.foldl (plusS1 T) (tell e q 3))) := hide (by unfold gj; rw [el, ef])
 clear h Ap Al el Ah Ad ef Ao cl
 go_enter Tryz.func181, Tryz.ntmps181
 go_upto_region 1 with (go_at_call 213; refine CT.out.mono ?_; rintro _ w2 ⟨rfl, he, hf⟩; have Am := hide he; have Ai := hide hf; clear he hf)
 clear CT
 generalize tell e q 3 = e0 at *
 have c8 : w2.cell? ⟨A.K, 8, none⟩ = some (sl (A.us false) n) := by obtain ⟨Az, h2⟩ := Am.out; exact h2.bx.get (i := 8) rfl
 have cl := As.out w2 (HE.out.stay Ai.out)
 go_wp2_with fail
 clear c8 cl
 go_loopw [20] (fun x wr => ∃ k : Nat, k ≤ l.length ∧ x = .int .i64 k ∧ Hid (Eg N S A T F n ((l.take k).foldl (plusS1 T) e0) wr) ∧ Hid (Fr (fun k => ¬ S k) w wr)) (fun x _ => l.length - (intOf x).toNat)
 case atStart => exact ⟨0, by omega, rfl, hide Am.out, Ai⟩
 case round =>
  obtain ⟨k, hk, rfl, HEr, HFr⟩ := hrel
  by_cases hlt : k < l.length
  · obtain ⟨r0, hr⟩ := am hlt
    obtain ⟨r, rfl, Ak⟩ := Av.out r0 (List.mem_of_getElem? hr)
    obtain ⟨gx, ox, rfl, cx⟩ := (Ax.out wr (HE.out.stay HFr.out)).get hr
    have Aa : Hid ((l.take (k + 1)).foldl (plusS1 T) e0 = plusS1 T ((l.take k).foldl (plusS1 T) e0) r) := hide (dk hr)
    clear hr
    generalize (l.take k).foldl (plusS1 T) e0 = e1 at HEr Aa
    obtain ⟨AG, An⟩ := HEr.out
    have CM := hide (wl An Ak)
    clear An
    by_cases hx : (bJ e1 false r).ms false r = 0
    · obtain ⟨hm, gr, go, hh, Aw, er, Aj⟩ := AD.out r Ak
      have HT : Hid (plusS1 T e1 r = tell (bJ e1 false r) hm 1) := hide (by unfold plusS1; rw [hh]; exact if_pos hx)
      rw [decide_eq_true hx] at CM
      have Ay := hide Aj
      have Ar := hide er
      clear hx Aj er hh
      go_upto_region 5 with (go_at_call 217; refine CM.out.mono ?_; rintro _ w4 ⟨rfl, he, hf⟩; have Ae := hide he; have CV := hide (dx (⟨_, he⟩ : Eg N S A T F n _ _) Aw aM); have Ab := hide hf; clear he hf)
      have c2 := Ae.out.bx.get (i := 2) rfl
      rw [Ar.out] at c2
      have x1 := Ay.out w4 (HE.out.stay (HFr.out.trans Ab.out))
      go_wp2_with (go_at_call 213; refine CV.out.mono ?_; rintro _ w5 ⟨rfl, he, hf⟩; have Ag := hide he; have Ac := hide (Ab.out.trans hf); clear he hf)
      go_roundw
      case rel => exact ⟨k + 1, by omega, by go_num, hide (by rw [Aa.out, HT.out]; exact Ag.out), hide (HFr.out.trans Ac.out)⟩
      case measure => simp [intOf]; omega
    · have HT : Hid (plusS1 T e1 r = bJ e1 false r) := hide (by unfold plusS1; exact if_neg hx)
      rw [decide_eq_false hx] at CM
      clear hx
      go_wp2_with (go_at_call 217; refine CM.out.mono ?_; rintro _ w4 ⟨rfl, he, hf⟩; have Ae := hide he; have Ab := hide hf; clear he hf)
      go_roundw
      case rel => exact ⟨k + 1, by omega, by go_num, hide (by rw [Aa.out, HT.out]; exact ⟨_, Ae.out⟩), hide (HFr.out.trans Ab.out)⟩
      case measure => simp [intOf]; omega
  · have HL : Hid (l.take k = l) := hide (List.take_of_length_le (by omega))
    rw [HL.out] at HEr
    generalize l.foldl (plusS1 T) e0 = e1 at *
    have c1 : wr.cell? ⟨A.K, 1, none⟩ = some (.slice (some ⟨gf, of, none⟩) T.foes.length A.fc) := by obtain ⟨Az, h2⟩ := HEr.out; rw [← Au.out]; exact h2.bx.get (i := 1) rfl
    obtain ⟨cf, -⟩ := Af.out wr (HE.out.stay HFr.out)
    go_wp2_with fail
    clear c1 cf
    have At := hide HEr.out
    have AB := hide HFr.out
    clear HEr HFr
    go_loopw [53] (fun x wz => ∃ j : Nat, j ≤ fl.length ∧ x = .int .i64 j ∧ Hid (Eg N S A T F n ((fl.take j).foldl aL e1) wz) ∧ Hid (Fr (fun k => ¬ S k) w wz)) (fun x _ => fl.length - (intOf x).toNat)
    case atStart => exact ⟨0, by omega, rfl, hide At.out, AB⟩
    case round =>
     rename World => wz
     obtain ⟨j, hj, rfl, HEr, HFr⟩ := hrel
     by_cases hjl : j < fl.length
     · obtain ⟨p0, hp⟩ := am hjl
       obtain ⟨AA, AF⟩ := Aq.out p0 (List.mem_of_getElem? hp)
       obtain ⟨p, rfl⟩ := Int.eq_ofNat_of_zero_le AA
       obtain ⟨gx, ox, rfl, cx⟩ := (Af.out wz (HE.out.stay HFr.out)).2.get hp
       have Aa : Hid ((fl.take (j + 1)).foldl aL e1 = aL ((fl.take j).foldl aL e1) p) := hide (dk hp)
       have CL := hide (fQ HEr.out (show p < n by omega))
       clear hp
       go_wp2_with (go_at_call 218; refine CL.out.mono ?_; rintro _ w5 ⟨rfl, he, hf⟩; have Ag := hide he; have Ac := hide hf; clear he hf)
       go_roundw
       case rel => exact ⟨j + 1, by omega, by go_num, hide (by rw [Aa.out]; exact Ag.out), hide (HFr.out.trans Ac.out)⟩
       case measure => simp [intOf]; omega
     · have AC : Hid (fl.take j = fl) := hide (List.take_of_length_le (by omega))
       go_wp2_with fail
       go_end0
       exact ⟨rfl, by rw [HR.out]; have := HEr.out; rw [AC.out] at this; exact this, HFr.out⟩
end
set_option maxRecDepth 100000
set_option maxHeartbeats 6400000
section
variable {N : Nat} {S : Nat → Prop} {A : Ad} {T : Th} {F : List Int} {n : Nat} {e : Es} {tv : Value} {w w' : World}
theorem sp {e : Es} {r hm : Int} (hh : ag T r = hm) : minusS1 T e r = if e.rf false r then e else if dY (refE e false r) false hm then tell (aF (refE e false r) false hm) hm 2 else aF (refE e false r) false hm := by unfold minusS1; rw [hh]
theorem sJ {q : Nat} (h : Eg N S A T F n e w) (hq : q < n) :
    Calls Tryz.prog 182 #[ab A.K, .int .i64 q] w fun o w' => o = .returned (.tuple #[]) ∧ Eg N S A T F n (dP T F e q) w' ∧ Fr (fun k => ¬ S k) w w' := by
 have AC := hide h
 obtain ⟨tv, h⟩ := h
 have HE := hide h
 have AG : T.rules.length ≤ 4096 := h.pf.ok.rl
 have k8 := h.bx.get (i := 8) rfl
 obtain ⟨l, la, lc, el, AI, An, cl, Al⟩ := kF h false hq
 obtain ⟨va, vc, cv, Ag⟩ := h.ro.lv.stay hq
 obtain ⟨vl, Af⟩ : ∃ vl, al T (q : Int) = vl := ⟨_, rfl⟩
 rw [Af] at cv Ag
 have AE : vl.length ≤ 64 := by rw [← Af]; exact dl h.pf hq
 have Aq : Hid (∀ p ∈ vl, lI n p) := hide fun p hp => gG h.pf hq (by rw [Af]; exact hp)
 have Ap := hide Ag
 have As : Hid (∀ w' : World, (∀ k, S k → w'.heap[k]? = w.heap[k]?) → w'.cell? ⟨A.rv, q, none⟩ = some (.slice va vl.length vc)) := hide fun w' hk => by rw [World.cell?_of_block (hk _ h.ro.lv.1), cv]
 have Av := hide An
 have Ax := hide Al
 have AD := hide fun (r : Nat) (hr : r < T.rules.length) => jk h hr
 have HR : Hid (dP T F e q = aH T (if aB T F q then vl.foldl (i7 T) (l.foldl (minusS1 T) e) else l.foldl (minusS1 T) e) q) := hide (by unfold dP; rw [el, Af])
 clear h An Al el Ag Af cv
 go_enter Tryz.func182, Tryz.ntmps182
 go_wp2_with fail
 clear k8 cl
 go_loopw [18] (fun x wr => ∃ k : Nat, k ≤ l.length ∧ x = .int .i64 k ∧ Hid (Eg N S A T F n ((l.take k).foldl (minusS1 T) e) wr) ∧ Hid (Fr (fun k => ¬ S k) w wr)) (fun x _ => l.length - (intOf x).toNat)
 case atStart => exact ⟨0, by omega, rfl, hide AC.out, hide (Fr.refl _ _)⟩
 case round =>
  obtain ⟨k, hk, rfl, HEr, HFr⟩ := hrel
  by_cases hlt : k < l.length
  · obtain ⟨r0, hr⟩ := am hlt
    obtain ⟨r, rfl, Ak⟩ := Av.out r0 (List.mem_of_getElem? hr)
    obtain ⟨gx, ox, rfl, cx⟩ := (Ax.out wr (HE.out.stay HFr.out)).get hr
    have Ae : Hid ((l.take (k + 1)).foldl (minusS1 T) e = minusS1 T ((l.take k).foldl (minusS1 T) e) r) := hide (dk hr)
    clear hr
    generalize (l.take k).foldl (minusS1 T) e = e1 at HEr Ae
    obtain ⟨Ay, Ab⟩ := HEr.out
    have CM := hide (qU Ab Ak)
    obtain ⟨hm, gr, go, hh, Ai, er, Aj⟩ := AD.out r Ak
    have c2 := Ab.bx.get (i := 2) rfl
    rw [er] at c2
    have x1 := Aj wr (HE.out.stay HFr.out)
    have Ah := hide (sp (e := e1) hh)
    clear Ab Aj er hh
    cases hx : e1.rf false r with
    | true =>
     have HT : Hid (minusS1 T e1 r = e1 ∧ refE e1 false r = e1) := hide ⟨by rw [Ah.out, hx]; rfl, by unfold refE; rw [hx]; rfl⟩
     rw [hx] at CM
     clear hx
     go_wp2_with (go_at_call 219; refine CM.out.mono ?_; rintro _ w4 ⟨rfl, he, hf⟩; have Aw := hide he; have Ac := hide hf; clear he hf)
     go_roundw
     case rel => exact ⟨k + 1, by omega, by go_num, hide (by rw [Ae.out, HT.out.1]; have := Aw.out; rw [HT.out.2] at this; exact ⟨_, this⟩), hide (HFr.out.trans Ac.out)⟩
     case measure => simp [intOf]; omega
    | false =>
     have Am : Hid (minusS1 T e1 r = if dY (refE e1 false r) false hm then tell (aF (refE e1 false r) false hm) hm 2 else aF (refE e1 false r) false hm) := hide (by rw [Ah.out, hx]; rfl)
     rw [hx] at CM
     clear hx Ah
     generalize refE e1 false r = e2 at *
     cases hc : dY e2 false hm with
     | true =>
      have HT : Hid (minusS1 T e1 r = tell (aF e2 false hm) hm 2) := hide (by rw [Am.out, hc]; rfl)
      have HC := hide hc
      clear hc
      go_wp2_with (first | (go_at_call 219; refine CM.out.mono ?_; rintro _ w4 ⟨rfl, he, hf⟩; have CX := hide (lQ he Ai); rw [HC.out] at CX; have Ac := hide hf; clear he hf) | (go_at_call 220; refine CX.out.mono ?_; rintro _ w5 ⟨rfl, he, hf⟩; have CV := hide (dx (⟨_, he⟩ : Eg N S A T F n _ _) Ai aN); have Aa := hide (Ac.out.trans hf); clear he hf) | (go_at_call 213; refine CV.out.mono ?_; rintro _ w6 ⟨rfl, he, hf⟩; have Ar := hide he; have Au := hide (Aa.out.trans hf); clear he hf))
      go_roundw
      case rel => exact ⟨k + 1, by omega, by go_num, hide (by rw [Ae.out, HT.out]; exact Ar.out), hide (HFr.out.trans Au.out)⟩
      case measure => simp [intOf]; omega
     | false =>
      have HT : Hid (minusS1 T e1 r = aF e2 false hm) := hide (by rw [Am.out, hc]; rfl)
      have HC := hide hc
      clear hc
      go_wp2_with (first | (go_at_call 219; refine CM.out.mono ?_; rintro _ w4 ⟨rfl, he, hf⟩; have CX := hide (lQ he Ai); rw [HC.out] at CX; have Ac := hide hf; clear he hf) | (go_at_call 220; refine CX.out.mono ?_; rintro _ w5 ⟨rfl, he, hf⟩; have Ad := hide he; have Aa := hide (Ac.out.trans hf); clear he hf))
      go_roundw
      case rel => exact ⟨k + 1, by omega, by go_num, hide (by rw [Ae.out, HT.out]; exact ⟨_, Ad.out⟩), hide (HFr.out.trans Aa.out)⟩
      case measure => simp [intOf]; omega
  · have HL : Hid (l.take k = l) := hide (List.take_of_length_le (by omega))
    rw [HL.out] at HEr
    generalize l.foldl (minusS1 T) e = e1 at *
    obtain ⟨Ay, Ab⟩ := HEr.out
    have c7 := Ab.bx.get (i := 7) rfl
    have cf := Ab.ro.lf.get (dL hq)
    have c6 := Ab.bx.get (i := 6) rfl
    have cv := As.out wr (HE.out.stay HFr.out)
    clear Ab
    cases hfm : aB T F q with
    | false =>
     have HT : Hid (dP T F e q = aH T e1 q) := hide (by rw [HR.out, hfm]; rfl)
     rw [hfm] at cf
     have CD := hide (gu HEr.out hq)
     clear hfm
     go_wp2_with (go_at_call 216; refine CD.out.mono ?_; rintro _ w5 ⟨rfl, he, hf⟩; have Ad := hide he; have Aa := hide hf; clear he hf)
     go_end0
     exact ⟨rfl, by rw [HT.out]; exact Ad.out, HFr.out.trans Aa.out⟩
    | true =>
     have HT : Hid (dP T F e q = aH T (vl.foldl (i7 T) e1) q) := hide (by rw [HR.out, hfm]; rfl)
     rw [hfm] at cf
     clear hfm
     go_wp2_with fail
     clear c7 cf c6 cv
     have At := hide HEr.out
     have AA := hide HFr.out
     clear HEr HFr
     go_loopw [67] (fun x wz => ∃ j : Nat, j ≤ vl.length ∧ x = .int .i64 j ∧ Hid (Eg N S A T F n ((vl.take j).foldl (i7 T) e1) wz) ∧ Hid (Fr (fun k => ¬ S k) w wz)) (fun x _ => vl.length - (intOf x).toNat)
     case atStart => exact ⟨0, by omega, rfl, hide At.out, AA⟩
     case round =>
      rename World => wz
      obtain ⟨j, hj, rfl, HEr, HFr⟩ := hrel
      by_cases hjl : j < vl.length
      · obtain ⟨p0, hp⟩ := am hjl
        obtain ⟨Az, AF⟩ := Aq.out p0 (List.mem_of_getElem? hp)
        obtain ⟨p, rfl⟩ := Int.eq_ofNat_of_zero_le Az
        have Ao : p < n := by omega
        obtain ⟨gx, ox, rfl, cx⟩ := (Ap.out wz (HE.out.stay HFr.out)).get hp
        have Ae : Hid ((vl.take (j + 1)).foldl (i7 T) e1 = bz T (ci ((vl.take j).foldl (i7 T) e1) p) p) := hide (dk hp)
        obtain ⟨AH, h3⟩ := HEr.out
        have CC := hide (lp h3 Ao)
        clear hp h3
        go_wp2_with (first | (go_at_call 212; refine CC.out.mono ?_; rintro _ w4 ⟨rfl, he, hf⟩; have CV := hide (jq (⟨_, he⟩ : Eg N S A T F n _ _) Ao); have Ac := hide hf; clear he hf) | (go_at_call 215; refine CV.out.mono ?_; rintro _ w5 ⟨rfl, he, hf⟩; have Ad := hide he; have Aa := hide (Ac.out.trans hf); clear he hf))
        go_roundw
        case rel => exact ⟨j + 1, by omega, by go_num, hide (by rw [Ae.out]; exact Ad.out), hide (HFr.out.trans Aa.out)⟩
        case measure => simp [intOf]; omega
      · have AB : Hid (vl.take j = vl) := hide (List.take_of_length_le (by omega))
        rw [AB.out] at HEr
        have CD := hide (gu HEr.out hq)
        go_wp2_with (go_at_call 216; refine CD.out.mono ?_; rintro _ w5 ⟨rfl, he, hf⟩; have Ad := hide he; have Aa := hide hf; clear he hf)
        go_end0
        exact ⟨rfl, by rw [HT.out]; exact Ad.out, HFr.out.trans Aa.out⟩
theorem j7 {f : Es → Nat → Es} {e : Es} {k : Nat} : (List.range (k + 1)).foldl f e = f ((List.range k).foldl f e) k := by rw [List.range_succ, List.foldl_append]; rfl
theorem uJ (h : Eg N S A T F n e w) :
    Calls Tryz.prog 180 #[ab A.K] w fun o w' => o = .returned (.tuple #[]) ∧ Eg N S A T F n (beginE T F n e) w' ∧ Fr (fun k => ¬ S k) w w' := by
 have Ao := hide h
 obtain ⟨tv, h⟩ := h
 have HE := hide h
 have Aq := h.pf.n4
 have k7 := h.bx.get (i := 7) rfl
 clear h
 go_enter Tryz.func180, Tryz.ntmps180
 go_wp2_with fail
 clear k7
 go_loopw [11] (fun x wr => ∃ k : Nat, k ≤ n ∧ x = .int .i64 k ∧ Hid (Eg N S A T F n ((List.range k).foldl (bQ T F) e) wr) ∧ Hid (Fr (fun k => ¬ S k) w wr)) (fun x _ => n - (intOf x).toNat)
 case atStart => exact ⟨0, by omega, rfl, hide Ao.out, hide (Fr.refl _ _)⟩
 case round =>
  obtain ⟨k, hk, rfl, HEr, HFr⟩ := hrel
  by_cases hlt : k < n
  · have Ab : Hid ((List.range (k + 1)).foldl (bQ T F) e = bQ T F ((List.range k).foldl (bQ T F) e) k) := hide j7
    generalize (List.range k).foldl (bQ T F) e = e1 at HEr Ab
    have C2 := hide (dx HEr.out hlt aN)
    have C1 := hide (dx HEr.out hlt aM)
    obtain ⟨Aj, Aa⟩ := HEr.out
    have cf := Aa.ro.lf.get (dL hlt)
    have Ar := Aa.bx.get (i := 11) rfl
    have co := (Aa.op false).get (aY hlt)
    clear Aa
    cases hfm : aB T F k with
    | false =>
     rw [hfm] at cf
     have HT : Hid (bQ T F e1 k = tell e1 k 2) := hide (by unfold bQ; rw [hfm]; rfl)
     clear hfm
     go_wp2_with (go_at_call 213; refine C2.out.mono ?_; rintro _ w5 ⟨rfl, he, hf⟩; have Af := hide he; have Ac := hide hf; clear he hf)
     go_roundw
     case rel => exact ⟨k + 1, by omega, by go_num, hide (by rw [Ab.out, HT.out]; exact Af.out), hide (HFr.out.trans Ac.out)⟩
     case measure => simp [intOf]; omega
    | true =>
     rw [hfm] at cf
     by_cases hx : e1.op false k = 0
     · have HT : Hid (bQ T F e1 k = tell e1 k 1) := hide (by unfold bQ; rw [hfm]; exact if_pos hx)
       have Ae : (e1.op false k == 0) = true := by simpa using hx
       generalize e1.op false k = x at co Ae
       clear hfm hx
       go_wp2_with (go_at_call 213; refine C1.out.mono ?_; rintro _ w5 ⟨rfl, he, hf⟩; have Af := hide he; have Ac := hide hf; clear he hf)
       go_roundw
       case rel => exact ⟨k + 1, by omega, by go_num, hide (by rw [Ab.out, HT.out]; exact Af.out), hide (HFr.out.trans Ac.out)⟩
       case measure => simp [intOf]; omega
     · have HT : Hid (bQ T F e1 k = e1) := hide (by unfold bQ; rw [hfm]; exact if_neg hx)
       have Ae : (e1.op false k == 0) = false := by simpa using hx
       generalize e1.op false k = x at co Ae
       clear hfm hx
       go_wp2_with fail
       go_roundw
       case rel => exact ⟨k + 1, by omega, by go_num, hide (by rw [Ab.out, HT.out]; exact HEr.out), HFr⟩
       case measure => simp [intOf]; omega
  · have Ai : k = n := by omega
    have HR : Hid (beginE T F n e = (List.range n).foldl (da T) ((List.range k).foldl (bQ T F) e)) := hide (by rw [Ai]; rfl)
    clear Ai
    generalize (List.range k).foldl (bQ T F) e = e1 at *
    have Ap : wr.cell? ⟨A.K, 18, none⟩ = some (sl A.mq n) := by obtain ⟨Aj, Aa⟩ := HEr.out; exact Aa.bx.get (i := 18) rfl
    go_wp2_with fail
    clear Ap
    have Al := hide HEr.out
    have An := hide HFr.out
    clear HEr HFr
    go_loopw [41] (fun x wz => ∃ j : Nat, j ≤ n ∧ x = .int .i64 j ∧ Hid (Eg N S A T F n ((List.range j).foldl (da T) e1) wz) ∧ Hid (Fr (fun k => ¬ S k) w wz)) (fun x _ => n - (intOf x).toNat)
    case atStart => exact ⟨0, by omega, rfl, hide Al.out, An⟩
    case round =>
     rename World => wz
     obtain ⟨j, hj, rfl, HEr, HFr⟩ := hrel
     by_cases hjl : j < n
     · have Ab : Hid ((List.range (j + 1)).foldl (da T) e1 = da T ((List.range j).foldl (da T) e1) j) := hide j7
       generalize (List.range j).foldl (da T) e1 = e2 at HEr Ab
       have CH : Hid (Calls Tryz.prog 214 #[ab A.K, .int .i64 j, .int .i64 1] wz fun r w' => r = .returned (.bool (has e2 j 1)) ∧ Below wz.heap.size wz w') := hide (by obtain ⟨Aj, Aa⟩ := HEr.out; exact dt Aa hjl aM)
       cases hh : has e2 j 1 with
       | true =>
        have HT : Hid (da T e2 j = aH T (bz T (tell e2 j 3) j) j) := hide (by unfold da; rw [hh]; rfl)
        rw [hh] at CH
        clear hh
        go_wp2_with (first | (go_at_call 214; refine CH.out.mono ?_; rintro _ w3 ⟨rfl, hb⟩; have Am := hide (Fr.of_below (Z := fun k => ¬ S k) hb); have CT := hide (dx (HEr.out.go hb) hjl be); clear hb) | (go_at_call 213; refine CT.out.mono ?_; rintro _ w4 ⟨rfl, he, hf⟩; have CV := hide (jq he hjl); have Ag := hide (Am.out.trans hf); clear he hf) | (go_at_call 215; refine CV.out.mono ?_; rintro _ w5 ⟨rfl, he, hf⟩; have CD := hide (gu he hjl); have Ac := hide (Ag.out.trans hf); clear he hf) | (go_at_call 216; refine CD.out.mono ?_; rintro _ w6 ⟨rfl, he, hf⟩; have Ad := hide he; have Ah := hide (Ac.out.trans hf); clear he hf))
        go_roundw
        case rel => exact ⟨j + 1, by omega, by go_num, hide (by rw [Ab.out, HT.out]; exact Ad.out), hide (HFr.out.trans Ah.out)⟩
        case measure => simp [intOf]; omega
       | false =>
        have HT : Hid (da T e2 j = aH T (bz T e2 j) j) := hide (by unfold da; rw [hh]; rfl)
        rw [hh] at CH
        clear hh
        go_wp2_with (first | (go_at_call 214; refine CH.out.mono ?_; rintro _ w3 ⟨rfl, hb⟩; have Ag := hide (Fr.of_below (Z := fun k => ¬ S k) hb); have CV := hide (jq (HEr.out.go hb) hjl); clear hb) | (go_at_call 215; refine CV.out.mono ?_; rintro _ w5 ⟨rfl, he, hf⟩; have CD := hide (gu he hjl); have Ac := hide (Ag.out.trans hf); clear he hf) | (go_at_call 216; refine CD.out.mono ?_; rintro _ w6 ⟨rfl, he, hf⟩; have Ad := hide he; have Ah := hide (Ac.out.trans hf); clear he hf))
        go_roundw
        case rel => exact ⟨j + 1, by omega, by go_num, hide (by rw [Ab.out, HT.out]; exact Ad.out), hide (HFr.out.trans Ah.out)⟩
        case measure => simp [intOf]; omega
     · have Ak : j = n := by omega
       subst Ak
       go_wp2_with fail
       go_end0
       exact ⟨rfl, by rw [HR.out]; exact HEr.out, HFr.out⟩
end
end Go.Proofs.YtmlhcncagdfjfaaGreat.Fa
