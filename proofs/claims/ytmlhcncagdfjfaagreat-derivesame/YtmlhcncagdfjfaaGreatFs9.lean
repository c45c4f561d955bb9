import Derived.Test.YtmlhcncagdfjfaaGreatFs2
set_option maxRecDepth 100000
set_option maxHeartbeats 6400000
namespace Go.Proofs.YtmlhcncagdfjfaaGreat.Fa
open Go.RowKit
section
variable {N : Nat} {S : Nat → Prop} {A : Ad} {T : Th} {F : List Int} {n : Nat} {e : Es} {tv : Value} {w w' : World}
theorem nD (h : En N S A T F n e tv w) {r : Nat} (hr : r < T.rules.length) : ∃ (kd : Int) (hm g o : Nat) (bv : Value), ag T r = (hm : Int) ∧ hm < n ∧ aQ T r = (!decide (kd = 3)) ∧ A.ra = some ⟨g, o, none⟩ ∧ ∀ w' : World, (∀ k, S k → w'.heap[k]? = w.heap[k]?) → w'.cell? ⟨g, o + r * 3, none⟩ = some (.int .i64 kd) ∧ w'.cell? ⟨g, o + r * 3 + 1, none⟩ = some (.int .i64 hm) ∧ w'.cell? ⟨g, o + r * 3 + 2, none⟩ = some bv := by
 obtain ⟨x, hx, Ac, Ab, Ad⟩ := cX h.pf hr
 obtain ⟨hm, Aa⟩ := Int.eq_ofNat_of_zero_le Ab
 obtain ⟨gr, go, bd, bp, er, hg, x0, x1, x2, -, -, -⟩ := dY h.ro.ta.rules hx
 refine ⟨x.kind, hm, gr, go, _, by rw [Ac, Aa], by omega, ?_, er, fun w' hk => ⟨by rw [World.cell?_of_block (hk gr (h.ro.n0 gr hg)), x0], by rw [World.cell?_of_block (hk gr (h.ro.n0 gr hg)), x1, Aa], by rw [World.cell?_of_block (hk gr (h.ro.n0 gr hg)), x2]⟩⟩
 unfold aQ
 rw [Int.toNat_natCast, hx]
 rfl
theorem xD {r : Nat} (h : Eg N S A T F n e w) (hr : r < T.rules.length) :
    Calls Tryz.prog 221 #[ab A.K, .int .i64 r] w fun o w' => o = .returned (.tuple #[]) ∧ Eg N S A T F n (cF T e r) w' ∧ Fr (fun k => ¬ S k) w w' := by
 have Au := hide h
 obtain ⟨tv, h⟩ := h
 have HE := hide h
 have AD : T.rules.length ≤ 4096 := h.pf.ok.rl
 obtain ⟨kd, hm, gr, go, bv, hh, Ad, Ae, er, Al⟩ := nD h hr
 have x1 := (Al w fun _ _ => rfl).2.1
 obtain ⟨la, lc, cl, Ah⟩ := h.ro.lv.stay Ad
 have k2 := h.bx.get (i := 2) rfl
 have k6 := h.bx.get (i := 6) rfl
 rw [er] at k2
 obtain ⟨l, hl⟩ : ∃ l, al T (hm : Int) = l := ⟨_, rfl⟩
 rw [hl] at cl Ah
 have AB : l.length ≤ 64 := by rw [← hl]; exact dk h.pf Ad
 have An : Hid (al T (ag T r) = l) := hide (by rw [hh, hl])
 have As : Hid (∀ p ∈ l, lF n p) := hide fun p hp => gH h.pf Ad (by rw [hl]; exact hp)
 have Aw := hide Ah
 have Ay := hide Al
 have AA := hide er
 have AE := hide hh
 have Ap := hide Ae
 have HR : Hid (cF T e r = if aQ T r then (if (defendE T (l.foldl (use1 (r : Int)) e) r).ob hm = 0 then tell (defendE T (l.foldl (use1 (r : Int)) e) r) hm 3 else defendE T (l.foldl (use1 (r : Int)) e) r) else l.foldl (use1 (r : Int)) e) := hide (by unfold cF; rw [hh, hl])
 clear h Al Ah er hh hl Ae
 go_enter Tryz.func221, Tryz.ntmps221
 go_wp2_with fail
 clear k2 k6 cl x1
 go_loopw [26] (fun x wr => ∃ k : Nat, k ≤ l.length ∧ x = .int .i64 k ∧ Hid (Eg N S A T F n ((l.take k).foldl (use1 (r : Int)) e) wr) ∧ Hid (Fr (fun k => ¬ S k) w wr)) (fun x _ => l.length - (intOf x).toNat)
 case atStart => exact ⟨0, by omega, rfl, hide Au.out, hide (Fr.refl _ _)⟩
 case round =>
  obtain ⟨k, hk, rfl, HEr, HFr⟩ := hrel
  by_cases hlt : k < l.length
  · obtain ⟨p0, hp⟩ := am hlt
    obtain ⟨Am, Az⟩ := As.out p0 (List.mem_of_getElem? hp)
    obtain ⟨p, rfl⟩ := Int.eq_ofNat_of_zero_le Am
    have Av : p < n := by omega
    obtain ⟨gx, ox, rfl, cx⟩ := (Aw.out wr (HE.out.stay HFr.out)).get hp
    have Aj : Hid ((l.take (k + 1)).foldl (use1 (r : Int)) e = use1 (r : Int) ((l.take k).foldl (use1 (r : Int)) e) p) := hide (dj hp)
    generalize (l.take k).foldl (use1 (r : Int)) e = e1 at HEr Aj
    have CL := hide (fO HEr.out Av)
    obtain ⟨Ax, Aa⟩ := HEr.out
    have AF := Aa.bx.get (i := 16) rfl
    have c1 := Aa.ro.lx.get (i := r) (v := sl (A.cr r) l.length) (by rw [List.getElem?_map, List.getElem?_range hr, ← An.out]; rfl)
    have c2 := (Aa.cr r hr).get (fW (k := k) (p := (p : Int)) (by rw [An.out]; exact hp)).1
    clear hp Aa Am Az
    by_cases hx : e1.cd r p = 0
    · have HT : Hid (use1 (r : Int) e1 p = aL e1 p) := hide (by unfold use1; rw [if_pos hx])
      have Ab : (e1.cd r p == 0) = true := by simpa using hx
      generalize e1.cd r p = x at c2 Ab
      clear hx
      go_wp2_with (go_at_call 218; refine CL.out.mono ?_; rintro _ w4 ⟨rfl, he, hf⟩; have Af := hide he; have Ai := hide hf; clear he hf)
      go_roundw
      case rel => exact ⟨k + 1, by omega, by go_num, hide (by rw [Aj.out, HT.out]; exact Af.out), hide (HFr.out.trans Ai.out)⟩
      case measure => simp [intOf]; omega
    · have HT : Hid (use1 (r : Int) e1 p = e1) := hide (by unfold use1; rw [if_neg hx])
      have Ab : (e1.cd r p == 0) = false := by simpa using hx
      generalize e1.cd r p = x at c2 Ab
      clear hx
      go_wp2_with fail
      go_roundw
      case rel => exact ⟨k + 1, by omega, by go_num, hide (by rw [Aj.out, HT.out]; exact HEr.out), HFr⟩
      case measure => simp [intOf]; omega
  · have HL : Hid (l.take k = l) := hide (List.take_of_length_le (by omega))
    rw [HL.out] at HEr
    generalize l.foldl (use1 (r : Int)) e = e1 at *
    obtain ⟨Ax, Aa⟩ := HEr.out
    obtain ⟨y0, y1, y2⟩ := Ay.out wr (HE.out.stay HFr.out)
    have k2 := Aa.bx.get (i := 2) rfl
    rw [AA.out] at k2
    have CT := hide (eF (w := wr) (k := kd) (h := (hm : Int)) (v := bv))
    cases htm : aQ T r with
    | false =>
     have Ac : (!decide (kd = 3)) = false := by rw [← Ap.out]; exact htm
     rw [Ac] at CT
     have HT : Hid (cF T e r = e1) := hide (by rw [HR.out, htm]; rfl)
     clear htm Ac Aa
     go_wp2_with (go_at_call 176; refine CT.out.mono ?_; rintro _ w2 ⟨rfl, hb⟩; have HB := hide hb; clear hb)
     go_end0
     exact ⟨rfl, by rw [HT.out]; exact HEr.out.go HB.out, HFr.out.trans (Fr.of_below HB.out)⟩
    | true =>
     have Ac : (!decide (kd = 3)) = true := by rw [← Ap.out]; exact htm
     rw [Ac] at CT
     have At := hide htm
     have Ar : Hid (cF T e r = if (defendE T e1 r).ob hm = 0 then tell (defendE T e1 r) hm 3 else defendE T e1 r) := hide (by rw [HR.out, htm]; rfl)
     clear htm Ac Aa
     go_upto_region 9 with (first | (go_at_call 176; refine CT.out.mono ?_; rintro _ w2 ⟨rfl, hb⟩; have HB := hide hb; have CD := hide (nI (HEr.out.go hb) hr At.out); clear hb) | (go_at_call 179; refine CD.out.mono ?_; rintro _ w3 ⟨rfl, he, hf⟩; have Ak := hide he; have Ao := hide ((HFr.out.trans (Fr.of_below HB.out)).trans hf); clear he hf))
     clear k2 y0 y1 y2 CT CD
     generalize defendE T e1 r = e2 at *
     have CL := hide (dA Ak.out Ad be)
     obtain ⟨AG, Ag⟩ := Ak.out
     have AC := Ag.bx.get (i := 17) rfl
     have Aq := Ag.ob.get (aY Ad)
     clear Ag
     by_cases hx : e2.ob hm = 0
     · have HT : Hid (cF T e r = tell e2 hm 3) := hide (by rw [Ar.out, if_pos hx])
       have Ab : (e2.ob hm == 0) = true := by simpa using hx
       generalize e2.ob hm = x at Aq Ab
       clear hx
       go_wp2_with (go_at_call 213; refine CL.out.mono ?_; rintro _ w4 ⟨rfl, he, hf⟩; have Af := hide he; have Ai := hide hf; clear he hf)
       go_end0
       exact ⟨rfl, by rw [HT.out]; exact Af.out, Ao.out.trans Ai.out⟩
     · have HT : Hid (cF T e r = e2) := hide (by rw [Ar.out, if_neg hx])
       have Ab : (e2.ob hm == 0) = false := by simpa using hx
       generalize e2.ob hm = x at Aq Ab
       clear hx
       go_wp2_with fail
       go_end0
       exact ⟨rfl, by rw [HT.out]; exact Ak.out, Ao.out⟩
theorem uL {r : Nat} (h : Eg N S A T F n e w) (hr : r < T.rules.length) :
    Calls Tryz.prog 222 #[ab A.K, .int .i64 r] w fun o w' => o = .returned (.tuple #[]) ∧ Eg N S A T F n (bR T e r) w' ∧ Fr (fun k => ¬ S k) w w' := by
 have Au := hide h
 obtain ⟨tv, h⟩ := h
 have HE := hide h
 have AC : T.rules.length ≤ 4096 := h.pf.ok.rl
 obtain ⟨kd, hm, gr, go, bv, hh, Ad, Ae, er, Aj⟩ := nD h hr
 have x1 := (Aj w fun _ _ => rfl).2.1
 obtain ⟨la, lc, cl, Af⟩ := h.ro.lv.stay Ad
 have k2 := h.bx.get (i := 2) rfl
 have k6 := h.bx.get (i := 6) rfl
 rw [er] at k2
 obtain ⟨l, hl⟩ : ∃ l, al T (hm : Int) = l := ⟨_, rfl⟩
 rw [hl] at cl Af
 have AB : l.length ≤ 64 := by rw [← hl]; exact dk h.pf Ad
 have An : Hid (al T (ag T r) = l) := hide (by rw [hh, hl])
 have As : Hid (∀ p ∈ l, lF n p) := hide fun p hp => gH h.pf Ad (by rw [hl]; exact hp)
 have Av := hide Af
 have Ax := hide Aj
 have Az := hide er
 have Ap := hide Ae
 have HR : Hid (bR T e r = if aQ T r then (if dZ (withE T (l.foldl (drop1 T (r : Int)) e) r) true hm then aL (aF (withE T (l.foldl (drop1 T (r : Int)) e) r) true hm) hm else aF (withE T (l.foldl (drop1 T (r : Int)) e) r) true hm) else l.foldl (drop1 T (r : Int)) e) := hide (by unfold bR; rw [hh, hl])
 clear h Aj Af er hh hl Ae
 go_enter Tryz.func222, Tryz.ntmps222
 go_wp2_with fail
 clear k2 k6 cl x1
 go_loopw [26] (fun x wr => ∃ k : Nat, k ≤ l.length ∧ x = .int .i64 k ∧ Hid (Eg N S A T F n ((l.take k).foldl (drop1 T (r : Int)) e) wr) ∧ Hid (Fr (fun k => ¬ S k) w wr)) (fun x _ => l.length - (intOf x).toNat)
 case atStart => exact ⟨0, by omega, rfl, hide Au.out, hide (Fr.refl _ _)⟩
 case round =>
  obtain ⟨k, hk, rfl, HEr, HFr⟩ := hrel
  by_cases hlt : k < l.length
  · obtain ⟨p0, hp⟩ := am hlt
    obtain ⟨Am, Ay⟩ := As.out p0 (List.mem_of_getElem? hp)
    obtain ⟨p, rfl⟩ := Int.eq_ofNat_of_zero_le Am
    have Al : p < n := by omega
    obtain ⟨gx, ox, rfl, cx⟩ := (Av.out wr (HE.out.stay HFr.out)).get hp
    have Ag : Hid ((l.take (k + 1)).foldl (drop1 T (r : Int)) e = drop1 T (r : Int) ((l.take k).foldl (drop1 T (r : Int)) e) p) := hide (dj hp)
    generalize (l.take k).foldl (drop1 T (r : Int)) e = e1 at HEr Ag
    obtain ⟨Aw, Aa⟩ := HEr.out
    have CC := hide (lq Aa Al)
    have AD := Aa.bx.get (i := 16) rfl
    have c1 := Aa.ro.lx.get (i := r) (v := sl (A.cr r) l.length) (by rw [List.getElem?_map, List.getElem?_range hr, ← An.out]; rfl)
    have c2 := (Aa.cr r hr).get (fW (k := k) (p := (p : Int)) (by rw [An.out]; exact hp)).2
    clear hp Aa Am Ay
    cases hx : e1.cb r p with
    | false =>
     have HT : Hid (drop1 T (r : Int) e1 p = bz T (ci e1 p) p) := hide (by unfold drop1; rw [hx]; rfl)
     rw [hx] at c2
     clear hx
     go_wp2_with (first | (go_at_call 212; refine CC.out.mono ?_; rintro _ w4 ⟨rfl, he, hf⟩; have CV := hide (jk (⟨_, he⟩ : Eg N S A T F n _ _) Al); have Ac := hide hf; clear he hf) | (go_at_call 215; refine CV.out.mono ?_; rintro _ w5 ⟨rfl, he, hf⟩; have Ai := hide he; have Ah := hide (Ac.out.trans hf); clear he hf))
     go_roundw
     case rel => exact ⟨k + 1, by omega, by go_num, hide (by rw [Ag.out, HT.out]; exact Ai.out), hide (HFr.out.trans Ah.out)⟩
     case measure => simp [intOf]; omega
    | true =>
     have HT : Hid (drop1 T (r : Int) e1 p = e1) := hide (by unfold drop1; rw [hx]; rfl)
     rw [hx] at c2
     clear hx
     go_wp2_with fail
     go_roundw
     case rel => exact ⟨k + 1, by omega, by go_num, hide (by rw [Ag.out, HT.out]; exact HEr.out), HFr⟩
     case measure => simp [intOf]; omega
  · have HL : Hid (l.take k = l) := hide (List.take_of_length_le (by omega))
    rw [HL.out] at HEr
    generalize l.foldl (drop1 T (r : Int)) e = e1 at *
    obtain ⟨Aw, Aa⟩ := HEr.out
    obtain ⟨y0, y1, y2⟩ := Ax.out wr (HE.out.stay HFr.out)
    have k2 := Aa.bx.get (i := 2) rfl
    rw [Az.out] at k2
    have CT := hide (eF (w := wr) (k := kd) (h := (hm : Int)) (v := bv))
    cases htm : aQ T r with
    | false =>
     have Ab : (!decide (kd = 3)) = false := by rw [← Ap.out]; exact htm
     rw [Ab] at CT
     have HT : Hid (bR T e r = e1) := hide (by rw [HR.out, htm]; rfl)
     clear htm Ab Aa
     go_wp2_with (go_at_call 176; refine CT.out.mono ?_; rintro _ w2 ⟨rfl, hb⟩; have HB := hide hb; clear hb)
     go_end0
     exact ⟨rfl, by rw [HT.out]; exact HEr.out.go HB.out, HFr.out.trans (Fr.of_below HB.out)⟩
    | true =>
     have Ab : (!decide (kd = 3)) = true := by rw [← Ap.out]; exact htm
     rw [Ab] at CT
     have At := hide htm
     have Aq : Hid (bR T e r = if dZ (withE T e1 r) true hm then aL (aF (withE T e1 r) true hm) hm else aF (withE T e1 r) true hm) := hide (by rw [HR.out, htm]; rfl)
     clear htm Ab Aa
     go_upto_region 10 with (first | (go_at_call 176; refine CT.out.mono ?_; rintro _ w2 ⟨rfl, hb⟩; have HB := hide hb; have CD := hide (qb (HEr.out.go hb) hr At.out); clear hb) | (go_at_call 238; refine CD.out.mono ?_; rintro _ w3 ⟨rfl, he, hf⟩; have AA := hide he; have Ao := hide ((HFr.out.trans (Fr.of_below HB.out)).trans hf); clear he hf))
     clear k2 y0 y1 y2 CT CD
     generalize withE T e1 r = e2 at *
     obtain ⟨AE, Ak⟩ := AA.out
     have CX := hide (qW Ak Ad)
     clear Ak
     cases hx : dZ e2 true hm with
     | true =>
      have HT : Hid (bR T e r = aL (aF e2 true hm) hm) := hide (by rw [Aq.out, hx]; rfl)
      rw [hx] at CX
      clear hx
      go_wp2_with (first | (go_at_call 220; refine CX.out.mono ?_; rintro _ w4 ⟨rfl, he, hf⟩; have CL := hide (fO (⟨_, he⟩ : Eg N S A T F n _ _) Ad); have Ac := hide hf; clear he hf) | (go_at_call 218; refine CL.out.mono ?_; rintro _ w5 ⟨rfl, he, hf⟩; have Ai := hide he; have Ah := hide (Ac.out.trans hf); clear he hf))
      go_end0
      exact ⟨rfl, by rw [HT.out]; exact Ai.out, Ao.out.trans Ah.out⟩
     | false =>
      have HT : Hid (bR T e r = aF e2 true hm) := hide (by rw [Aq.out, hx]; rfl)
      rw [hx] at CX
      clear hx
      go_wp2_with (go_at_call 220; refine CX.out.mono ?_; rintro _ w4 ⟨rfl, he, hf⟩; have Ar := hide he; have Ac := hide hf; clear he hf)
      go_end0
      exact ⟨rfl, by rw [HT.out]; exact ⟨_, Ar.out⟩, Ao.out.trans Ac.out⟩
end
set_option maxRecDepth 100000
set_option maxHeartbeats 6400000
section
variable {N : Nat} {S : Nat → Prop} {A : Ad} {T : Th} {F : List Int} {n : Nat} {e : Es} {tv : Value} {w w' : World}
theorem yQ {p : RuleM → Bool} {k : Nat} {z x : Int} (h : x ∈ dI T p k z) : 0 ≤ x ∧ x < (k : Int) := by
 unfold dI at h
 obtain ⟨a, ha, rfl⟩ := List.mem_map.1 h
 have := List.mem_range.1 (List.mem_filter.1 ha).1
 exact ⟨Int.natCast_nonneg _, by show (a : Int) < k; omega⟩
theorem xH {p : RuleM → Bool} {k : Nat} {z : Int} : (dI T p k z).length ≤ k := by
 unfold dI
 rw [List.length_map]
 exact Nat.le_trans (List.length_filter_le _ _) (by simp)
theorem kK (h : En N S A T F n e tv w) (b : Bool) {q : Nat} (hq : q < n) : ∃ l a c, br T b q = l ∧ l.length ≤ 4096 ∧ (∀ x ∈ l, ∃ r : Nat, x = (r : Int) ∧ r < T.rules.length) ∧ w.cell? ⟨A.us b, q, none⟩ = some (.slice a l.length c) ∧ ∀ w' : World, (∀ k, S k → w'.heap[k]? = w.heap[k]?) → At1 w' a (aw l) := by
 obtain ⟨a, c, h1, h2⟩ := (h.ro.lu b).stay hq
 have Aa := h.pf.ok.rl
 refine ⟨_, a, c, rfl, Nat.le_trans xH Aa, fun x hx => ?_, h1, h2⟩
 obtain ⟨x0, x1⟩ := yQ hx
 obtain ⟨r, rfl⟩ := Int.eq_ofNat_of_zero_le x0
 exact ⟨r, rfl, by omega⟩
theorem tQ (h : En N S A T F n e tv w) {q : Nat} (hq : q < n) : ∃ l a c g o, row T.foes q = l ∧ A.fa = some ⟨g, o, none⟩ ∧ q < T.foes.length ∧ l.length ≤ 64 ∧ (∀ x ∈ l, lF n x) ∧ (∀ w' : World, (∀ k, S k → w'.heap[k]? = w.heap[k]?) → w'.cell? ⟨g, o + q, none⟩ = some (.slice a l.length c) ∧ At1 w' a (aw l)) := by
 obtain ⟨l, hl⟩ := am (l := T.foes) (i := q) (by have := h.pf.ok.fl; have := h.pf.ln; omega)
 have er : row T.foes (q : Int) = l := bW (by rw [Int.toNat_natCast]; exact hl)
 obtain ⟨g, o, a2, c2, e1, hg, hc, -, -, hI⟩ := ew h.ro.ta.foes hl
 exact ⟨l, a2, c2, g, o, er, e1, (List.getElem?_eq_some_iff.1 hl).1, by rw [← er]; exact (eO h.pf hq).2, fun x hx => h.pf.foe q hq x (by rw [er]; exact hx), fun w' hk => ⟨by rw [World.cell?_of_block (hk g (h.ro.n0 g hg)), hc], (Ints.keep (fun g hg => hk g (h.ro.n0 g hg)) hI).at1⟩⟩
theorem uo {q : Nat} (h : Eg N S A T F n e w) (hq : q < n) :
    Calls Tryz.prog 183 #[ab A.K, .int .i64 q] w fun o w' => o = .returned (.tuple #[]) ∧ Eg N S A T F n (iZ T e q) w' ∧ Fr (fun k => ¬ S k) w w' := by
 have Am := hide h
 obtain ⟨tv, h⟩ := h
 have HE := hide h
 have An : T.rules.length ≤ 4096 := h.pf.ok.rl
 have Al := h.bx.get (i := 12) rfl
 obtain ⟨l, la, lc, el, Ao, Af, cl, Ac⟩ := kK h true hq
 have Ah := hide Af
 have Ak := hide Ac
 have HR : Hid (iZ T e q = l.foldl (plusD1 T) e) := hide (by unfold iZ; rw [el])
 clear h Af Ac el
 go_enter Tryz.func183, Tryz.ntmps183
 go_wp2_with fail
 clear Al cl
 go_loopw [15] (fun x wr => ∃ k : Nat, k ≤ l.length ∧ x = .int .i64 k ∧ Hid (Eg N S A T F n ((l.take k).foldl (plusD1 T) e) wr) ∧ Hid (Fr (fun k => ¬ S k) w wr)) (fun x _ => l.length - (intOf x).toNat)
 case atStart => exact ⟨0, by omega, rfl, hide Am.out, hide (Fr.refl _ _)⟩
 case round =>
  obtain ⟨k, hk, rfl, HEr, HFr⟩ := hrel
  by_cases hlt : k < l.length
  · obtain ⟨r0, hr⟩ := am hlt
    obtain ⟨r, rfl, Ae⟩ := Ah.out r0 (List.mem_of_getElem? hr)
    obtain ⟨gx, ox, rfl, cx⟩ := (Ak.out wr (HE.out.stay HFr.out)).get hr
    have Ab : Hid ((l.take (k + 1)).foldl (plusD1 T) e = plusD1 T ((l.take k).foldl (plusD1 T) e) r) := hide (dj hr)
    clear hr
    generalize (l.take k).foldl (plusD1 T) e = e1 at HEr Ab
    obtain ⟨Ap, Ad⟩ := HEr.out
    have CM := hide (vm Ad Ae)
    clear Ad
    by_cases hx : (bI e1 true r).ms true r = 0
    · have HT : Hid (plusD1 T e1 r = cF T (bI e1 true r) r) := hide (by unfold plusD1; exact if_pos hx)
      rw [decide_eq_true hx] at CM
      clear hx
      go_wp2_with (first | (go_at_call 217; refine CM.out.mono ?_; rintro _ w4 ⟨rfl, he, hf⟩; have CV := hide (xD (⟨_, he⟩ : Eg N S A T F n _ _) Ae); have Aa := hide hf; clear he hf) | (go_at_call 221; refine CV.out.mono ?_; rintro _ w5 ⟨rfl, he, hf⟩; have Aj := hide he; have Ag := hide (Aa.out.trans hf); clear he hf))
      go_roundw
      case rel => exact ⟨k + 1, by omega, by go_num, hide (by rw [Ab.out, HT.out]; exact Aj.out), hide (HFr.out.trans Ag.out)⟩
      case measure => simp [intOf]; omega
    · have HT : Hid (plusD1 T e1 r = bI e1 true r) := hide (by unfold plusD1; exact if_neg hx)
      rw [decide_eq_false hx] at CM
      clear hx
      go_wp2_with (go_at_call 217; refine CM.out.mono ?_; rintro _ w4 ⟨rfl, he, hf⟩; have Ai := hide he; have Aa := hide hf; clear he hf)
      go_roundw
      case rel => exact ⟨k + 1, by omega, by go_num, hide (by rw [Ab.out, HT.out]; exact ⟨_, Ai.out⟩), hide (HFr.out.trans Aa.out)⟩
      case measure => simp [intOf]; omega
  · have HL : Hid (l.take k = l) := hide (List.take_of_length_le (by omega))
    go_wp2_with fail
    go_end0
    exact ⟨rfl, by rw [HR.out]; have := HEr.out; rw [HL.out] at this; exact this, HFr.out⟩
theorem sN {q : Nat} (h : Eg N S A T F n e w) (hq : q < n) :
    Calls Tryz.prog 184 #[ab A.K, .int .i64 q] w fun o w' => o = .returned (.tuple #[]) ∧ Eg N S A T F n (gQ T e q) w' ∧ Fr (fun k => ¬ S k) w w' := by
 have Am := hide h
 obtain ⟨tv, h⟩ := h
 have HE := hide h
 have An : T.rules.length ≤ 4096 := h.pf.ok.rl
 have Al := h.bx.get (i := 12) rfl
 obtain ⟨l, la, lc, el, Ao, Af, cl, Ac⟩ := kK h true hq
 have Ah := hide Af
 have Ak := hide Ac
 have HR : Hid (gQ T e q = l.foldl (minusD1 T) e) := hide (by unfold gQ; rw [el])
 clear h Af Ac el
 go_enter Tryz.func184, Tryz.ntmps184
 go_wp2_with fail
 clear Al cl
 go_loopw [15] (fun x wr => ∃ k : Nat, k ≤ l.length ∧ x = .int .i64 k ∧ Hid (Eg N S A T F n ((l.take k).foldl (minusD1 T) e) wr) ∧ Hid (Fr (fun k => ¬ S k) w wr)) (fun x _ => l.length - (intOf x).toNat)
 case atStart => exact ⟨0, by omega, rfl, hide Am.out, hide (Fr.refl _ _)⟩
 case round =>
  obtain ⟨k, hk, rfl, HEr, HFr⟩ := hrel
  by_cases hlt : k < l.length
  · obtain ⟨r0, hr⟩ := am hlt
    obtain ⟨r, rfl, Ae⟩ := Ah.out r0 (List.mem_of_getElem? hr)
    obtain ⟨gx, ox, rfl, cx⟩ := (Ak.out wr (HE.out.stay HFr.out)).get hr
    have Ab : Hid ((l.take (k + 1)).foldl (minusD1 T) e = minusD1 T ((l.take k).foldl (minusD1 T) e) r) := hide (dj hr)
    clear hr
    generalize (l.take k).foldl (minusD1 T) e = e1 at HEr Ab
    obtain ⟨Ap, Ad⟩ := HEr.out
    have CM := hide (qR Ad Ae)
    clear Ad
    cases hx : e1.rf true r with
    | false =>
     have HT : Hid (minusD1 T e1 r = bR T (refE e1 true r) r) := hide (by unfold minusD1; rw [hx]; rfl)
     rw [hx] at CM
     clear hx
     go_wp2_with (first | (go_at_call 219; refine CM.out.mono ?_; rintro _ w4 ⟨rfl, he, hf⟩; have CV := hide (uL (⟨_, he⟩ : Eg N S A T F n _ _) Ae); have Aa := hide hf; clear he hf) | (go_at_call 222; refine CV.out.mono ?_; rintro _ w5 ⟨rfl, he, hf⟩; have Aj := hide he; have Ag := hide (Aa.out.trans hf); clear he hf))
     go_roundw
     case rel => exact ⟨k + 1, by omega, by go_num, hide (by rw [Ab.out, HT.out]; exact Aj.out), hide (HFr.out.trans Ag.out)⟩
     case measure => simp [intOf]; omega
    | true =>
     have HT : Hid (minusD1 T e1 r = e1 ∧ refE e1 true r = e1) := hide ⟨by unfold minusD1; rw [hx]; rfl, by unfold refE; rw [hx]; rfl⟩
     rw [hx] at CM
     clear hx
     go_wp2_with (go_at_call 219; refine CM.out.mono ?_; rintro _ w4 ⟨rfl, he, hf⟩; have Ai := hide he; have Aa := hide hf; clear he hf)
     go_roundw
     case rel => exact ⟨k + 1, by omega, by go_num, hide (by rw [Ab.out, HT.out.1]; have := Ai.out; rw [HT.out.2] at this; exact ⟨_, this⟩), hide (HFr.out.trans Aa.out)⟩
     case measure => simp [intOf]; omega
  · have HL : Hid (l.take k = l) := hide (List.take_of_length_le (by omega))
    go_wp2_with fail
    go_end0
    exact ⟨rfl, by rw [HR.out]; have := HEr.out; rw [HL.out] at this; exact this, HFr.out⟩
theorem ur {q : Nat} (h : Eg N S A T F n e w) (hq : q < n) :
    Calls Tryz.prog 181 #[ab A.K, .int .i64 q] w fun o w' => o = .returned (.tuple #[]) ∧ Eg N S A T F n (gt T e q) w' ∧ Fr (fun k => ¬ S k) w w' := by
 have CT := hide (dA h hq be)
 obtain ⟨tv, h⟩ := h
 have HE := hide h
 have AH : T.rules.length ≤ 4096 := h.pf.ok.rl
 obtain ⟨l, la, lc, el, AF, Ap, cl, Am⟩ := kK h false hq
 obtain ⟨fl, fa, fc, gf, of, ef, Al, AG, AE, Ah, Ag⟩ := tQ h hq
 have Ar := hide Ap
 have Aw := hide Am
 have Aq := hide Ah
 have Ad := hide Ag
 have As := hide Al
 have Ax := hide fun (r : Nat) (hr : r < T.rules.length) => ju h hr
 have AA : Hid (∀ w' : World, (∀ k, S k → w'.heap[k]? = w.heap[k]?) → w'.cell? ⟨A.us false, q, none⟩ = some (.slice la l.length lc)) := hide fun w' hk => by rw [World.cell?_of_block (hk _ (h.ro.lu false).1), cl]
 have HR : Hid (gt T e q = fl.foldl aL (l.foldl (plusS1 T) (tell e q 3))) := hide (by unfold gt; rw [el, ef])
 clear h Ap Am el Ah Ag ef Al cl
 go_enter Tryz.func181, Tryz.ntmps181
 go_upto_region 1 with (go_at_call 213; refine CT.out.mono ?_; rintro _ w2 ⟨rfl, he, hf⟩; have An := hide he; have Ai := hide hf; clear he hf)
 clear CT
 generalize tell e q 3 = e0 at *
 have c8 : w2.cell? ⟨A.K, 8, none⟩ = some (sl (A.us false) n) := by obtain ⟨Av, h2⟩ := An.out; exact h2.bx.get (i := 8) rfl
 have cl := AA.out w2 (HE.out.stay Ai.out)
 go_wp2_with fail
 clear c8 cl
 go_loopw [20] (fun x wr => ∃ k : Nat, k ≤ l.length ∧ x = .int .i64 k ∧ Hid (Eg N S A T F n ((l.take k).foldl (plusS1 T) e0) wr) ∧ Hid (Fr (fun k => ¬ S k) w wr)) (fun x _ => l.length - (intOf x).toNat)
 case atStart => exact ⟨0, by omega, rfl, hide An.out, Ai⟩
 case round =>
  obtain ⟨k, hk, rfl, HEr, HFr⟩ := hrel
  by_cases hlt : k < l.length
  · obtain ⟨r0, hr⟩ := am hlt
    obtain ⟨r, rfl, Ak⟩ := Ar.out r0 (List.mem_of_getElem? hr)
    obtain ⟨gx, ox, rfl, cx⟩ := (Aw.out wr (HE.out.stay HFr.out)).get hr
    have Aa : Hid ((l.take (k + 1)).foldl (plusS1 T) e0 = plusS1 T ((l.take k).foldl (plusS1 T) e0) r) := hide (dj hr)
    clear hr
    generalize (l.take k).foldl (plusS1 T) e0 = e1 at HEr Aa
    obtain ⟨AI, Aj⟩ := HEr.out
    have CM := hide (vI Aj Ak)
    clear Aj
    by_cases hx : (bI e1 false r).ms false r = 0
    · obtain ⟨hm, gr, go, hh, AD, er, Ao⟩ := Ax.out r Ak
      have HT : Hid (plusS1 T e1 r = tell (bI e1 false r) hm 1) := hide (by unfold plusS1; rw [hh]; exact if_pos hx)
      rw [decide_eq_true hx] at CM
      have Ay := hide Ao
      have Az := hide er
      clear hx Ao er hh
      go_upto_region 5 with (go_at_call 217; refine CM.out.mono ?_; rintro _ w4 ⟨rfl, he, hf⟩; have Ac := hide he; have CV := hide (dA (⟨_, he⟩ : Eg N S A T F n _ _) AD aM); have Ab := hide hf; clear he hf)
      have c2 := Ac.out.bx.get (i := 2) rfl
      rw [Az.out] at c2
      have x1 := Ay.out w4 (HE.out.stay (HFr.out.trans Ab.out))
      go_wp2_with (go_at_call 213; refine CV.out.mono ?_; rintro _ w5 ⟨rfl, he, hf⟩; have Af := hide he; have Ae := hide (Ab.out.trans hf); clear he hf)
      go_roundw
      case rel => exact ⟨k + 1, by omega, by go_num, hide (by rw [Aa.out, HT.out]; exact Af.out), hide (HFr.out.trans Ae.out)⟩
      case measure => simp [intOf]; omega
    · have HT : Hid (plusS1 T e1 r = bI e1 false r) := hide (by unfold plusS1; exact if_neg hx)
      rw [decide_eq_false hx] at CM
      clear hx
      go_wp2_with (go_at_call 217; refine CM.out.mono ?_; rintro _ w4 ⟨rfl, he, hf⟩; have Ac := hide he; have Ab := hide hf; clear he hf)
      go_roundw
      case rel => exact ⟨k + 1, by omega, by go_num, hide (by rw [Aa.out, HT.out]; exact ⟨_, Ac.out⟩), hide (HFr.out.trans Ab.out)⟩
      case measure => simp [intOf]; omega
  · have HL : Hid (l.take k = l) := hide (List.take_of_length_le (by omega))
    rw [HL.out] at HEr
    generalize l.foldl (plusS1 T) e0 = e1 at *
    have c1 : wr.cell? ⟨A.K, 1, none⟩ = some (.slice (some ⟨gf, of, none⟩) T.foes.length A.fc) := by obtain ⟨Av, h2⟩ := HEr.out; rw [← As.out]; exact h2.bx.get (i := 1) rfl
    obtain ⟨cf, -⟩ := Ad.out wr (HE.out.stay HFr.out)
    go_wp2_with fail
    clear c1 cf
    have AC := hide HEr.out
    have AB := hide HFr.out
    clear HEr HFr
    go_loopw [53] (fun x wz => ∃ j : Nat, j ≤ fl.length ∧ x = .int .i64 j ∧ Hid (Eg N S A T F n ((fl.take j).foldl aL e1) wz) ∧ Hid (Fr (fun k => ¬ S k) w wz)) (fun x _ => fl.length - (intOf x).toNat)
    case atStart => exact ⟨0, by omega, rfl, hide AC.out, AB⟩
    case round =>
     rename World => wz
     obtain ⟨j, hj, rfl, HEr, HFr⟩ := hrel
     by_cases hjl : j < fl.length
     · obtain ⟨p0, hp⟩ := am hjl
       obtain ⟨Au, AJ⟩ := Aq.out p0 (List.mem_of_getElem? hp)
       obtain ⟨p, rfl⟩ := Int.eq_ofNat_of_zero_le Au
       obtain ⟨gx, ox, rfl, cx⟩ := (Ad.out wz (HE.out.stay HFr.out)).2.get hp
       have Aa : Hid ((fl.take (j + 1)).foldl aL e1 = aL ((fl.take j).foldl aL e1) p) := hide (dj hp)
       have CL := hide (fO HEr.out (show p < n by omega))
       clear hp
       go_wp2_with (go_at_call 218; refine CL.out.mono ?_; rintro _ w5 ⟨rfl, he, hf⟩; have Af := hide he; have Ae := hide hf; clear he hf)
       go_roundw
       case rel => exact ⟨j + 1, by omega, by go_num, hide (by rw [Aa.out]; exact Af.out), hide (HFr.out.trans Ae.out)⟩
       case measure => simp [intOf]; omega
     · have At : Hid (fl.take j = fl) := hide (List.take_of_length_le (by omega))
       go_wp2_with fail
       go_end0
       exact ⟨rfl, by rw [HR.out]; have := HEr.out; rw [At.out] at this; exact this, HFr.out⟩
end
set_option maxRecDepth 100000
set_option maxHeartbeats 6400000
section
variable {N : Nat} {S : Nat → Prop} {A : Ad} {T : Th} {F : List Int} {n : Nat} {e : Es} {tv : Value} {w w' : World}
theorem sT {e : Es} {r hm : Int} (hh : ag T r = hm) : minusS1 T e r = if e.rf false r then e else if dZ (refE e false r) false hm then tell (aF (refE e false r) false hm) hm 2 else aF (refE e false r) false hm := by unfold minusS1; rw [hh]
theorem sk {q : Nat} (h : Eg N S A T F n e w) (hq : q < n) :
    Calls Tryz.prog 182 #[ab A.K, .int .i64 q] w fun o w' => o = .returned (.tuple #[]) ∧ Eg N S A T F n (dO T F e q) w' ∧ Fr (fun k => ¬ S k) w w' := by
 have At := hide h
 obtain ⟨tv, h⟩ := h
 have HE := hide h
 have AG : T.rules.length ≤ 4096 := h.pf.ok.rl
 have k8 := h.bx.get (i := 8) rfl
 obtain ⟨l, la, lc, el, AF, Ao, cl, Al⟩ := kK h false hq
 obtain ⟨va, vc, cv, Ag⟩ := h.ro.lv.stay hq
 obtain ⟨vl, Af⟩ : ∃ vl, al T (q : Int) = vl := ⟨_, rfl⟩
 rw [Af] at cv Ag
 have AE : vl.length ≤ 64 := by rw [← Af]; exact dk h.pf hq
 have Aq : Hid (∀ p ∈ vl, lF n p) := hide fun p hp => gH h.pf hq (by rw [Af]; exact hp)
 have Ap := hide Ag
 have AB : Hid (∀ w' : World, (∀ k, S k → w'.heap[k]? = w.heap[k]?) → w'.cell? ⟨A.rv, q, none⟩ = some (.slice va vl.length vc)) := hide fun w' hk => by rw [World.cell?_of_block (hk _ h.ro.lv.1), cv]
 have As := hide Ao
 have Ax := hide Al
 have Az := hide fun (r : Nat) (hr : r < T.rules.length) => ju h hr
 have HR : Hid (dO T F e q = aH T (if aB T F q then vl.foldl (iR T) (l.foldl (minusS1 T) e) else l.foldl (minusS1 T) e) q) := hide (by unfold dO; rw [el, Af])
 clear h Ao Al el Ag Af cv
 go_enter Tryz.func182, Tryz.ntmps182
 go_wp2_with fail
 clear k8 cl
 go_loopw [18] (fun x wr => ∃ k : Nat, k ≤ l.length ∧ x = .int .i64 k ∧ Hid (Eg N S A T F n ((l.take k).foldl (minusS1 T) e) wr) ∧ Hid (Fr (fun k => ¬ S k) w wr)) (fun x _ => l.length - (intOf x).toNat)
 case atStart => exact ⟨0, by omega, rfl, hide At.out, hide (Fr.refl _ _)⟩
 case round =>
  obtain ⟨k, hk, rfl, HEr, HFr⟩ := hrel
  by_cases hlt : k < l.length
  · obtain ⟨r0, hr⟩ := am hlt
    obtain ⟨r, rfl, Aj⟩ := As.out r0 (List.mem_of_getElem? hr)
    obtain ⟨gx, ox, rfl, cx⟩ := (Ax.out wr (HE.out.stay HFr.out)).get hr
    have Ae : Hid ((l.take (k + 1)).foldl (minusS1 T) e = minusS1 T ((l.take k).foldl (minusS1 T) e) r) := hide (dj hr)
    clear hr
    generalize (l.take k).foldl (minusS1 T) e = e1 at HEr Ae
    obtain ⟨Ay, Ab⟩ := HEr.out
    have CM := hide (qN Ab Aj)
    obtain ⟨hm, gr, go, hh, Ai, er, An⟩ := Az.out r Aj
    have c2 := Ab.bx.get (i := 2) rfl
    rw [er] at c2
    have x1 := An wr (HE.out.stay HFr.out)
    have Ah := hide (sT (e := e1) hh)
    clear Ab An er hh
    cases hx : e1.rf false r with
    | true =>
     have HT : Hid (minusS1 T e1 r = e1 ∧ refE e1 false r = e1) := hide ⟨by rw [Ah.out, hx]; rfl, by unfold refE; rw [hx]; rfl⟩
     rw [hx] at CM
     clear hx
     go_wp2_with (go_at_call 219; refine CM.out.mono ?_; rintro _ w4 ⟨rfl, he, hf⟩; have Ar := hide he; have Ac := hide hf; clear he hf)
     go_roundw
     case rel => exact ⟨k + 1, by omega, by go_num, hide (by rw [Ae.out, HT.out.1]; have := Ar.out; rw [HT.out.2] at this; exact ⟨_, this⟩), hide (HFr.out.trans Ac.out)⟩
     case measure => simp [intOf]; omega
    | false =>
     have Am : Hid (minusS1 T e1 r = if dZ (refE e1 false r) false hm then tell (aF (refE e1 false r) false hm) hm 2 else aF (refE e1 false r) false hm) := hide (by rw [Ah.out, hx]; rfl)
     rw [hx] at CM
     clear hx Ah
     generalize refE e1 false r = e2 at *
     cases hc : dZ e2 false hm with
     | true =>
      have HT : Hid (minusS1 T e1 r = tell (aF e2 false hm) hm 2) := hide (by rw [Am.out, hc]; rfl)
      have HC := hide hc
      clear hc
      go_wp2_with (first | (go_at_call 219; refine CM.out.mono ?_; rintro _ w4 ⟨rfl, he, hf⟩; have CX := hide (lR he Ai); rw [HC.out] at CX; have Ac := hide hf; clear he hf) | (go_at_call 220; refine CX.out.mono ?_; rintro _ w5 ⟨rfl, he, hf⟩; have CV := hide (dA (⟨_, he⟩ : Eg N S A T F n _ _) Ai aO); have Aa := hide (Ac.out.trans hf); clear he hf) | (go_at_call 213; refine CV.out.mono ?_; rintro _ w6 ⟨rfl, he, hf⟩; have Au := hide he; have AA := hide (Aa.out.trans hf); clear he hf))
      go_roundw
      case rel => exact ⟨k + 1, by omega, by go_num, hide (by rw [Ae.out, HT.out]; exact Au.out), hide (HFr.out.trans AA.out)⟩
      case measure => simp [intOf]; omega
     | false =>
      have HT : Hid (minusS1 T e1 r = aF e2 false hm) := hide (by rw [Am.out, hc]; rfl)
      have HC := hide hc
      clear hc
      go_wp2_with (first | (go_at_call 219; refine CM.out.mono ?_; rintro _ w4 ⟨rfl, he, hf⟩; have CX := hide (lR he Ai); rw [HC.out] at CX; have Ac := hide hf; clear he hf) | (go_at_call 220; refine CX.out.mono ?_; rintro _ w5 ⟨rfl, he, hf⟩; have Ad := hide he; have Aa := hide (Ac.out.trans hf); clear he hf))
      go_roundw
      case rel => exact ⟨k + 1, by omega, by go_num, hide (by rw [Ae.out, HT.out]; exact ⟨_, Ad.out⟩), hide (HFr.out.trans Aa.out)⟩
      case measure => simp [intOf]; omega
  · have HL : Hid (l.take k = l) := hide (List.take_of_length_le (by omega))
    rw [HL.out] at HEr
    generalize l.foldl (minusS1 T) e = e1 at *
    obtain ⟨Ay, Ab⟩ := HEr.out
    have c7 := Ab.bx.get (i := 7) rfl
    have cf := Ab.ro.lf.get (dL hq)
    have c6 := Ab.bx.get (i := 6) rfl
    have cv := AB.out wr (HE.out.stay HFr.out)
    clear Ab
    cases hfm : aB T F q with
    | false =>
     have HT : Hid (dO T F e q = aH T e1 q) := hide (by rw [HR.out, hfm]; rfl)
     rw [hfm] at cf
     have CD := hide (gl HEr.out hq)
     clear hfm
     go_wp2_with (go_at_call 216; refine CD.out.mono ?_; rintro _ w5 ⟨rfl, he, hf⟩; have Ad := hide he; have Aa := hide hf; clear he hf)
     go_end0
     exact ⟨rfl, by rw [HT.out]; exact Ad.out, HFr.out.trans Aa.out⟩
    | true =>
     have HT : Hid (dO T F e q = aH T (vl.foldl (iR T) e1) q) := hide (by rw [HR.out, hfm]; rfl)
     rw [hfm] at cf
     clear hfm
     go_wp2_with fail
     clear c7 cf c6 cv
     have AC := hide HEr.out
     have AD := hide HFr.out
     clear HEr HFr
     go_loopw [67] (fun x wz => ∃ j : Nat, j ≤ vl.length ∧ x = .int .i64 j ∧ Hid (Eg N S A T F n ((vl.take j).foldl (iR T) e1) wz) ∧ Hid (Fr (fun k => ¬ S k) w wz)) (fun x _ => vl.length - (intOf x).toNat)
     case atStart => exact ⟨0, by omega, rfl, hide AC.out, AD⟩
     case round =>
      rename World => wz
      obtain ⟨j, hj, rfl, HEr, HFr⟩ := hrel
      by_cases hjl : j < vl.length
      · obtain ⟨p0, hp⟩ := am hjl
        obtain ⟨Aw, AH⟩ := Aq.out p0 (List.mem_of_getElem? hp)
        obtain ⟨p, rfl⟩ := Int.eq_ofNat_of_zero_le Aw
        have Ak : p < n := by omega
        obtain ⟨gx, ox, rfl, cx⟩ := (Ap.out wz (HE.out.stay HFr.out)).get hp
        have Ae : Hid ((vl.take (j + 1)).foldl (iR T) e1 = bz T (ci ((vl.take j).foldl (iR T) e1) p) p) := hide (dj hp)
        obtain ⟨AI, h3⟩ := HEr.out
        have CC := hide (lq h3 Ak)
        clear hp h3
        go_wp2_with (first | (go_at_call 212; refine CC.out.mono ?_; rintro _ w4 ⟨rfl, he, hf⟩; have CV := hide (jk (⟨_, he⟩ : Eg N S A T F n _ _) Ak); have Ac := hide hf; clear he hf) | (go_at_call 215; refine CV.out.mono ?_; rintro _ w5 ⟨rfl, he, hf⟩; have Ad := hide he; have Aa := hide (Ac.out.trans hf); clear he hf))
        go_roundw
        case rel => exact ⟨j + 1, by omega, by go_num, hide (by rw [Ae.out]; exact Ad.out), hide (HFr.out.trans Aa.out)⟩
        case measure => simp [intOf]; omega
      · have Av : Hid (vl.take j = vl) := hide (List.take_of_length_le (by omega))
        rw [Av.out] at HEr
        have CD := hide (gl HEr.out hq)
        go_wp2_with (go_at_call 216; refine CD.out.mono ?_; rintro _ w5 ⟨rfl, he, hf⟩; have Ad := hide he; have Aa := hide hf; clear he hf)
        go_end0
        exact ⟨rfl, by rw [HT.out]; exact Ad.out, HFr.out.trans Aa.out⟩
theorem kD {f : Es → Nat → Es} {e : Es} {k : Nat} : (List.range (k + 1)).foldl f e = f ((List.range k).foldl f e) k := by rw [List.range_succ, List.foldl_append]; rfl
theorem tR (h : Eg N S A T F n e w) :
    Calls Tryz.prog 180 #[ab A.K] w fun o w' => o = .returned (.tuple #[]) ∧ Eg N S A T F n (beginE T F n e) w' ∧ Fr (fun k => ¬ S k) w w' := by
 have Ap := hide h
 obtain ⟨tv, h⟩ := h
 have HE := hide h
 have Aq := h.pf.n4
 have k7 := h.bx.get (i := 7) rfl
 clear h
 go_enter Tryz.func180, Tryz.ntmps180
 go_wp2_with fail
 clear k7
 go_loopw [11] (fun x wr => ∃ k : Nat, k ≤ n ∧ x = .int .i64 k ∧ Hid (Eg N S A T F n ((List.range k).foldl (bQ T F) e) wr) ∧ Hid (Fr (fun k => ¬ S k) w wr)) (fun x _ => n - (intOf x).toNat)
 case atStart => exact ⟨0, by omega, rfl, hide Ap.out, hide (Fr.refl _ _)⟩
 case round =>
  obtain ⟨k, hk, rfl, HEr, HFr⟩ := hrel
  by_cases hlt : k < n
  · have Aa : Hid ((List.range (k + 1)).foldl (bQ T F) e = bQ T F ((List.range k).foldl (bQ T F) e) k) := hide kD
    generalize (List.range k).foldl (bQ T F) e = e1 at HEr Aa
    have C2 := hide (dA HEr.out hlt aO)
    have C1 := hide (dA HEr.out hlt aM)
    obtain ⟨Aj, Ab⟩ := HEr.out
    have cf := Ab.ro.lf.get (dL hlt)
    have Ar := Ab.bx.get (i := 11) rfl
    have co := (Ab.op false).get (aY hlt)
    clear Ab
    cases hfm : aB T F k with
    | false =>
     rw [hfm] at cf
     have HT : Hid (bQ T F e1 k = tell e1 k 2) := hide (by unfold bQ; rw [hfm]; rfl)
     clear hfm
     go_wp2_with (go_at_call 213; refine C2.out.mono ?_; rintro _ w5 ⟨rfl, he, hf⟩; have Af := hide he; have Ac := hide hf; clear he hf)
     go_roundw
     case rel => exact ⟨k + 1, by omega, by go_num, hide (by rw [Aa.out, HT.out]; exact Af.out), hide (HFr.out.trans Ac.out)⟩
     case measure => simp [intOf]; omega
    | true =>
     rw [hfm] at cf
     by_cases hx : e1.op false k = 0
     · have HT : Hid (bQ T F e1 k = tell e1 k 1) := hide (by unfold bQ; rw [hfm]; exact if_pos hx)
       have Ad : (e1.op false k == 0) = true := by simpa using hx
       generalize e1.op false k = x at co Ad
       clear hfm hx
       go_wp2_with (go_at_call 213; refine C1.out.mono ?_; rintro _ w5 ⟨rfl, he, hf⟩; have Af := hide he; have Ac := hide hf; clear he hf)
       go_roundw
       case rel => exact ⟨k + 1, by omega, by go_num, hide (by rw [Aa.out, HT.out]; exact Af.out), hide (HFr.out.trans Ac.out)⟩
       case measure => simp [intOf]; omega
     · have HT : Hid (bQ T F e1 k = e1) := hide (by unfold bQ; rw [hfm]; exact if_neg hx)
       have Ad : (e1.op false k == 0) = false := by simpa using hx
       generalize e1.op false k = x at co Ad
       clear hfm hx
       go_wp2_with fail
       go_roundw
       case rel => exact ⟨k + 1, by omega, by go_num, hide (by rw [Aa.out, HT.out]; exact HEr.out), HFr⟩
       case measure => simp [intOf]; omega
  · have Ai : k = n := by omega
    have HR : Hid (beginE T F n e = (List.range n).foldl (dc T) ((List.range k).foldl (bQ T F) e)) := hide (by rw [Ai]; rfl)
    clear Ai
    generalize (List.range k).foldl (bQ T F) e = e1 at *
    have Ak : wr.cell? ⟨A.K, 18, none⟩ = some (sl A.mq n) := by obtain ⟨Aj, Ab⟩ := HEr.out; exact Ab.bx.get (i := 18) rfl
    go_wp2_with fail
    clear Ak
    have An := hide HEr.out
    have Ao := hide HFr.out
    clear HEr HFr
    go_loopw [41] (fun x wz => ∃ j : Nat, j ≤ n ∧ x = .int .i64 j ∧ Hid (Eg N S A T F n ((List.range j).foldl (dc T) e1) wz) ∧ Hid (Fr (fun k => ¬ S k) w wz)) (fun x _ => n - (intOf x).toNat)
    case atStart => exact ⟨0, by omega, rfl, hide An.out, Ao⟩
    case round =>
     rename World => wz
     obtain ⟨j, hj, rfl, HEr, HFr⟩ := hrel
     by_cases hjl : j < n
     · have Aa : Hid ((List.range (j + 1)).foldl (dc T) e1 = dc T ((List.range j).foldl (dc T) e1) j) := hide kD
       generalize (List.range j).foldl (dc T) e1 = e2 at HEr Aa
       have CH : Hid (Calls Tryz.prog 214 #[ab A.K, .int .i64 j, .int .i64 1] wz fun r w' => r = .returned (.bool (has e2 j 1)) ∧ Below wz.heap.size wz w') := hide (by obtain ⟨Aj, Ab⟩ := HEr.out; exact du Ab hjl aM)
       cases hh : has e2 j 1 with
       | true =>
        have HT : Hid (dc T e2 j = aH T (bz T (tell e2 j 3) j) j) := hide (by unfold dc; rw [hh]; rfl)
        rw [hh] at CH
        clear hh
        go_wp2_with (first | (go_at_call 214; refine CH.out.mono ?_; rintro _ w3 ⟨rfl, hb⟩; have Am := hide (Fr.of_below (Z := fun k => ¬ S k) hb); have CT := hide (dA (HEr.out.go hb) hjl be); clear hb) | (go_at_call 213; refine CT.out.mono ?_; rintro _ w4 ⟨rfl, he, hf⟩; have CV := hide (jk he hjl); have Ae := hide (Am.out.trans hf); clear he hf) | (go_at_call 215; refine CV.out.mono ?_; rintro _ w5 ⟨rfl, he, hf⟩; have CD := hide (gl he hjl); have Ac := hide (Ae.out.trans hf); clear he hf) | (go_at_call 216; refine CD.out.mono ?_; rintro _ w6 ⟨rfl, he, hf⟩; have Ah := hide he; have Ag := hide (Ac.out.trans hf); clear he hf))
        go_roundw
        case rel => exact ⟨j + 1, by omega, by go_num, hide (by rw [Aa.out, HT.out]; exact Ah.out), hide (HFr.out.trans Ag.out)⟩
        case measure => simp [intOf]; omega
       | false =>
        have HT : Hid (dc T e2 j = aH T (bz T e2 j) j) := hide (by unfold dc; rw [hh]; rfl)
        rw [hh] at CH
        clear hh
        go_wp2_with (first | (go_at_call 214; refine CH.out.mono ?_; rintro _ w3 ⟨rfl, hb⟩; have Ae := hide (Fr.of_below (Z := fun k => ¬ S k) hb); have CV := hide (jk (HEr.out.go hb) hjl); clear hb) | (go_at_call 215; refine CV.out.mono ?_; rintro _ w5 ⟨rfl, he, hf⟩; have CD := hide (gl he hjl); have Ac := hide (Ae.out.trans hf); clear he hf) | (go_at_call 216; refine CD.out.mono ?_; rintro _ w6 ⟨rfl, he, hf⟩; have Ah := hide he; have Ag := hide (Ac.out.trans hf); clear he hf))
        go_roundw
        case rel => exact ⟨j + 1, by omega, by go_num, hide (by rw [Aa.out, HT.out]; exact Ah.out), hide (HFr.out.trans Ag.out)⟩
        case measure => simp [intOf]; omega
     · have Al : j = n := by omega
       subst Al
       go_wp2_with fail
       go_end0
       exact ⟨rfl, by rw [HR.out]; exact HEr.out, HFr.out⟩
end
end Go.Proofs.YtmlhcncagdfjfaaGreat.Fa
