import Derived.Test.YtmlhcncagdfjfaaGreatFs2
set_option maxRecDepth 100000
set_option maxHeartbeats 6400000
namespace Go.Proofs.YtmlhcncagdfjfaaGreat.Fa
open Go.RowKit
section
variable {N : Nat} {S : Nat → Prop} {A : Ad} {T : Th} {F : List Int} {n : Nat} {e : Es} {tv : Value} {w w' : World}
theorem pa (h : En N S A T F n e tv w) {r : Nat} (hr : r < T.rules.length) : ∃ (kd : Int) (hm g o : Nat) (bv : Value), ah T r = (hm : Int) ∧ hm < n ∧ aW T r = (!decide (kd = 3)) ∧ A.ra = some ⟨g, o, none⟩ ∧ ∀ w' : World, (∀ k, S k → w'.heap[k]? = w.heap[k]?) → w'.cell? ⟨g, o + r * 3, none⟩ = some (.int .i64 kd) ∧ w'.cell? ⟨g, o + r * 3 + 1, none⟩ = some (.int .i64 hm) ∧ w'.cell? ⟨g, o + r * 3 + 2, none⟩ = some bv := by
 obtain ⟨x, hx, Ac, Ab, Ad⟩ := dp h.pf hr
 obtain ⟨hm, Aa⟩ := Int.eq_ofNat_of_zero_le Ab
 obtain ⟨gr, go, bd, bp, er, hg, x0, x1, x2, -, -, -⟩ := en h.ro.ta.rules hx
 refine ⟨x.kind, hm, gr, go, _, by rw [Ac, Aa], by omega, ?_, er, fun w' hk => ⟨by rw [World.cell?_of_block (hk gr (h.ro.n0 gr hg)), x0], by rw [World.cell?_of_block (hk gr (h.ro.n0 gr hg)), x1, Aa], by rw [World.cell?_of_block (hk gr (h.ro.n0 gr hg)), x2]⟩⟩
 unfold aW
 rw [Int.toNat_natCast, hx]
 rfl
theorem zV {r : Nat} (h : Eg N S A T F n e w) (hr : r < T.rules.length) :
    Calls Tryz.prog 221 #[aa A.K, .int .i64 r] w fun o w' => o = .returned (.tuple #[]) ∧ Eg N S A T F n (da T e r) w' ∧ Fr (fun k => ¬ S k) w w' := by
 have Aw := hide h
 obtain ⟨tv, h⟩ := h
 have HE := hide h
 have AE : T.rules.length ≤ 4096 := h.pf.ok.rl
 obtain ⟨kd, hm, gr, go, bv, hh, Ad, Ae, er, Aj⟩ := pa h hr
 have x1 := (Aj w fun _ _ => rfl).2.1
 obtain ⟨la, lc, cl, Ak⟩ := h.ro.lv.stay Ad
 have k2 := h.bx.get (i := 2) rfl
 have k6 := h.bx.get (i := 6) rfl
 rw [er] at k2
 obtain ⟨l, hl⟩ : ∃ l, ak T (hm : Int) = l := ⟨_, rfl⟩
 rw [hl] at cl Ak
 have AD : l.length ≤ 64 := by rw [← hl]; exact dE h.pf Ad
 have Ao : Hid (ak T (ah T r) = l) := hide (by rw [hh, hl])
 have Az : Hid (∀ p ∈ l, dC n p) := hide fun p hp => ir h.pf Ad (by rw [hl]; exact hp)
 have At := hide Ak
 have As := hide Aj
 have Ay := hide er
 have AF := hide hh
 have Aq := hide Ae
 have HR : Hid (da T e r = if aW T r then (if (defendE T (l.foldl (use1 (r : Int)) e) r).ob hm = 0 then tell (defendE T (l.foldl (use1 (r : Int)) e) r) hm 3 else defendE T (l.foldl (use1 (r : Int)) e) r) else l.foldl (use1 (r : Int)) e) := hide (by unfold da; rw [hh, hl])
 clear h Aj Ak er hh hl Ae
 go_enter Tryz.func221, Tryz.ntmps221
 go_wp2_with fail
 clear k2 k6 cl x1
 go_loopw [26] (fun x wr => ∃ k : Nat, k ≤ l.length ∧ x = .int .i64 k ∧ Hid (Eg N S A T F n ((l.take k).foldl (use1 (r : Int)) e) wr) ∧ Hid (Fr (fun k => ¬ S k) w wr)) (fun x _ => l.length - (intOf x).toNat)
 case atStart => exact ⟨0, by omega, rfl, hide Aw.out, hide (Fr.refl _ _)⟩
 case round =>
  obtain ⟨k, hk, rfl, HEr, HFr⟩ := hrel
  by_cases hlt : k < l.length
  · obtain ⟨p0, hp⟩ := an hlt
    obtain ⟨Ap, Av⟩ := Az.out p0 (List.mem_of_getElem? hp)
    obtain ⟨p, rfl⟩ := Int.eq_ofNat_of_zero_le Ap
    have Ax : p < n := by omega
    obtain ⟨gx, ox, rfl, cx⟩ := (At.out wr (HE.out.stay HFr.out)).get hp
    have Af : Hid ((l.take (k + 1)).foldl (use1 (r : Int)) e = use1 (r : Int) ((l.take k).foldl (use1 (r : Int)) e) p) := hide (dF hp)
    generalize (l.take k).foldl (use1 (r : Int)) e = e1 at HEr Af
    have CL := hide (gh HEr.out Ax)
    obtain ⟨Au, Aa⟩ := HEr.out
    have AB := Aa.bx.get (i := 16) rfl
    have c1 := Aa.ro.lx.get (i := r) (v := sl (A.cr r) l.length) (by rw [List.getElem?_map, List.getElem?_range hr, ← Ao.out]; rfl)
    have c2 := (Aa.cr r hr).get (gu (k := k) (p := (p : Int)) (by rw [Ao.out]; exact hp)).1
    clear hp Aa Ap Av
    by_cases hx : e1.cd r p = 0
    · have HT : Hid (use1 (r : Int) e1 p = aN e1 p) := hide (by unfold use1; rw [if_pos hx])
      have Ab : (e1.cd r p == 0) = true := by simpa using hx
      generalize e1.cd r p = x at c2 Ab
      clear hx
      go_wp2_with (go_at_call 218; refine CL.out.mono ?_; rintro _ w4 ⟨rfl, he, hf⟩; have Ai := hide he; have Ah := hide hf; clear he hf)
      go_roundw
      case rel => exact ⟨k + 1, by omega, by go_num, hide (by rw [Af.out, HT.out]; exact Ai.out), hide (HFr.out.trans Ah.out)⟩
      case measure => simp [intOf]; omega
    · have HT : Hid (use1 (r : Int) e1 p = e1) := hide (by unfold use1; rw [if_neg hx])
      have Ab : (e1.cd r p == 0) = false := by simpa using hx
      generalize e1.cd r p = x at c2 Ab
      clear hx
      go_wp2_with fail
      go_roundw
      case rel => exact ⟨k + 1, by omega, by go_num, hide (by rw [Af.out, HT.out]; exact HEr.out), HFr⟩
      case measure => simp [intOf]; omega
  · have HL : Hid (l.take k = l) := hide (List.take_of_length_le (by omega))
    rw [HL.out] at HEr
    generalize l.foldl (use1 (r : Int)) e = e1 at *
    obtain ⟨Au, Aa⟩ := HEr.out
    obtain ⟨y0, y1, y2⟩ := As.out wr (HE.out.stay HFr.out)
    have k2 := Aa.bx.get (i := 2) rfl
    rw [Ay.out] at k2
    have CT := hide (fS (w := wr) (k := kd) (h := (hm : Int)) (v := bv))
    cases htm : aW T r with
    | false =>
     have Ac : (!decide (kd = 3)) = false := by rw [← Aq.out]; exact htm
     rw [Ac] at CT
     have HT : Hid (da T e r = e1) := hide (by rw [HR.out, htm]; rfl)
     clear htm Ac Aa
     go_wp2_with (go_at_call 176; refine CT.out.mono ?_; rintro _ w2 ⟨rfl, hb⟩; have HB := hide hb; clear hb)
     go_end0
     exact ⟨rfl, by rw [HT.out]; exact HEr.out.go HB.out, HFr.out.trans (Fr.of_below HB.out)⟩
    | true =>
     have Ac : (!decide (kd = 3)) = true := by rw [← Aq.out]; exact htm
     rw [Ac] at CT
     have AA := hide htm
     have Am : Hid (da T e r = if (defendE T e1 r).ob hm = 0 then tell (defendE T e1 r) hm 3 else defendE T e1 r) := hide (by rw [HR.out, htm]; rfl)
     clear htm Ac Aa
     go_upto_region 9 with (first | (go_at_call 176; refine CT.out.mono ?_; rintro _ w2 ⟨rfl, hb⟩; have HB := hide hb; have CD := hide (oS (HEr.out.go hb) hr AA.out); clear hb) | (go_at_call 179; refine CD.out.mono ?_; rintro _ w3 ⟨rfl, he, hf⟩; have Al := hide he; have An := hide ((HFr.out.trans (Fr.of_below HB.out)).trans hf); clear he hf))
     clear k2 y0 y1 y2 CT CD
     generalize defendE T e1 r = e2 at *
     have CL := hide (dT Al.out Ad tag3)
     obtain ⟨AC, Ag⟩ := Al.out
     have AG := Ag.bx.get (i := 17) rfl
     have Ar := Ag.ob.get (bz Ad)
     clear Ag
     by_cases hx : e2.ob hm = 0
     · have HT : Hid (da T e r = tell e2 hm 3) := hide (by rw [Am.out, if_pos hx])
       have Ab : (e2.ob hm == 0) = true := by simpa using hx
       generalize e2.ob hm = x at Ar Ab
       clear hx
       go_wp2_with (go_at_call 213; refine CL.out.mono ?_; rintro _ w4 ⟨rfl, he, hf⟩; have Ai := hide he; have Ah := hide hf; clear he hf)
       go_end0
       exact ⟨rfl, by rw [HT.out]; exact Ai.out, An.out.trans Ah.out⟩
     · have HT : Hid (da T e r = e2) := hide (by rw [Am.out, if_neg hx])
       have Ab : (e2.ob hm == 0) = false := by simpa using hx
       generalize e2.ob hm = x at Ar Ab
       clear hx
       go_wp2_with fail
       go_end0
       exact ⟨rfl, by rw [HT.out]; exact Al.out, An.out⟩
theorem wI {r : Nat} (h : Eg N S A T F n e w) (hr : r < T.rules.length) :
    Calls Tryz.prog 222 #[aa A.K, .int .i64 r] w fun o w' => o = .returned (.tuple #[]) ∧ Eg N S A T F n (cg T e r) w' ∧ Fr (fun k => ¬ S k) w w' := by
 have Av := hide h
 obtain ⟨tv, h⟩ := h
 have HE := hide h
 have AE : T.rules.length ≤ 4096 := h.pf.ok.rl
 obtain ⟨kd, hm, gr, go, bv, hh, Ad, Ae, er, Ah⟩ := pa h hr
 have x1 := (Ah w fun _ _ => rfl).2.1
 obtain ⟨la, lc, cl, Ai⟩ := h.ro.lv.stay Ad
 have k2 := h.bx.get (i := 2) rfl
 have k6 := h.bx.get (i := 6) rfl
 rw [er] at k2
 obtain ⟨l, hl⟩ : ∃ l, ak T (hm : Int) = l := ⟨_, rfl⟩
 rw [hl] at cl Ai
 have AD : l.length ≤ 64 := by rw [← hl]; exact dE h.pf Ad
 have Ao : Hid (ak T (ah T r) = l) := hide (by rw [hh, hl])
 have Ax : Hid (∀ p ∈ l, dC n p) := hide fun p hp => ir h.pf Ad (by rw [hl]; exact hp)
 have AA := hide Ai
 have Ar := hide Ah
 have Aw := hide er
 have Aq := hide Ae
 have HR : Hid (cg T e r = if aW T r then (if ep (withE T (l.foldl (drop1 T (r : Int)) e) r) true hm then aN (aI (withE T (l.foldl (drop1 T (r : Int)) e) r) true hm) hm else aI (withE T (l.foldl (drop1 T (r : Int)) e) r) true hm) else l.foldl (drop1 T (r : Int)) e) := hide (by unfold cg; rw [hh, hl])
 clear h Ah Ai er hh hl Ae
 go_enter Tryz.func222, Tryz.ntmps222
 go_wp2_with fail
 clear k2 k6 cl x1
 go_loopw [26] (fun x wr => ∃ k : Nat, k ≤ l.length ∧ x = .int .i64 k ∧ Hid (Eg N S A T F n ((l.take k).foldl (drop1 T (r : Int)) e) wr) ∧ Hid (Fr (fun k => ¬ S k) w wr)) (fun x _ => l.length - (intOf x).toNat)
 case atStart => exact ⟨0, by omega, rfl, hide Av.out, hide (Fr.refl _ _)⟩
 case round =>
  obtain ⟨k, hk, rfl, HEr, HFr⟩ := hrel
  by_cases hlt : k < l.length
  · obtain ⟨p0, hp⟩ := an hlt
    obtain ⟨Ap, Au⟩ := Ax.out p0 (List.mem_of_getElem? hp)
    obtain ⟨p, rfl⟩ := Int.eq_ofNat_of_zero_le Ap
    have An : p < n := by omega
    obtain ⟨gx, ox, rfl, cx⟩ := (AA.out wr (HE.out.stay HFr.out)).get hp
    have Af : Hid ((l.take (k + 1)).foldl (drop1 T (r : Int)) e = drop1 T (r : Int) ((l.take k).foldl (drop1 T (r : Int)) e) p) := hide (dF hp)
    generalize (l.take k).foldl (drop1 T (r : Int)) e = e1 at HEr Af
    obtain ⟨At, Aa⟩ := HEr.out
    have CC := hide (mC Aa An)
    have AB := Aa.bx.get (i := 16) rfl
    have c1 := Aa.ro.lx.get (i := r) (v := sl (A.cr r) l.length) (by rw [List.getElem?_map, List.getElem?_range hr, ← Ao.out]; rfl)
    have c2 := (Aa.cr r hr).get (gu (k := k) (p := (p : Int)) (by rw [Ao.out]; exact hp)).2
    clear hp Aa Ap Au
    cases hx : e1.cb r p with
    | false =>
     have HT : Hid (drop1 T (r : Int) e1 p = bF T (cT e1 p) p) := hide (by unfold drop1; rw [hx]; rfl)
     rw [hx] at c2
     clear hx
     go_wp2_with (first | (go_at_call 212; refine CC.out.mono ?_; rintro _ w4 ⟨rfl, he, hf⟩; have CV := hide (jR (⟨_, he⟩ : Eg N S A T F n _ _) An); have Ab := hide hf; clear he hf) | (go_at_call 215; refine CV.out.mono ?_; rintro _ w5 ⟨rfl, he, hf⟩; have Ag := hide he; have Aj := hide (Ab.out.trans hf); clear he hf))
     go_roundw
     case rel => exact ⟨k + 1, by omega, by go_num, hide (by rw [Af.out, HT.out]; exact Ag.out), hide (HFr.out.trans Aj.out)⟩
     case measure => simp [intOf]; omega
    | true =>
     have HT : Hid (drop1 T (r : Int) e1 p = e1) := hide (by unfold drop1; rw [hx]; rfl)
     rw [hx] at c2
     clear hx
     go_wp2_with fail
     go_roundw
     case rel => exact ⟨k + 1, by omega, by go_num, hide (by rw [Af.out, HT.out]; exact HEr.out), HFr⟩
     case measure => simp [intOf]; omega
  · have HL : Hid (l.take k = l) := hide (List.take_of_length_le (by omega))
    rw [HL.out] at HEr
    generalize l.foldl (drop1 T (r : Int)) e = e1 at *
    obtain ⟨At, Aa⟩ := HEr.out
    obtain ⟨y0, y1, y2⟩ := Ar.out wr (HE.out.stay HFr.out)
    have k2 := Aa.bx.get (i := 2) rfl
    rw [Aw.out] at k2
    have CT := hide (fS (w := wr) (k := kd) (h := (hm : Int)) (v := bv))
    cases htm : aW T r with
    | false =>
     have Ac : (!decide (kd = 3)) = false := by rw [← Aq.out]; exact htm
     rw [Ac] at CT
     have HT : Hid (cg T e r = e1) := hide (by rw [HR.out, htm]; rfl)
     clear htm Ac Aa
     go_wp2_with (go_at_call 176; refine CT.out.mono ?_; rintro _ w2 ⟨rfl, hb⟩; have HB := hide hb; clear hb)
     go_end0
     exact ⟨rfl, by rw [HT.out]; exact HEr.out.go HB.out, HFr.out.trans (Fr.of_below HB.out)⟩
    | true =>
     have Ac : (!decide (kd = 3)) = true := by rw [← Aq.out]; exact htm
     rw [Ac] at CT
     have Ay := hide htm
     have Al : Hid (cg T e r = if ep (withE T e1 r) true hm then aN (aI (withE T e1 r) true hm) hm else aI (withE T e1 r) true hm) := hide (by rw [HR.out, htm]; rfl)
     clear htm Ac Aa
     go_upto_region 10 with (first | (go_at_call 176; refine CT.out.mono ?_; rintro _ w2 ⟨rfl, hb⟩; have HB := hide hb; have CD := hide (rg (HEr.out.go hb) hr Ay.out); clear hb) | (go_at_call 238; refine CD.out.mono ?_; rintro _ w3 ⟨rfl, he, hf⟩; have Az := hide he; have Am := hide ((HFr.out.trans (Fr.of_below HB.out)).trans hf); clear he hf))
     clear k2 y0 y1 y2 CT CD
     generalize withE T e1 r = e2 at *
     obtain ⟨AC, Ak⟩ := Az.out
     have CX := hide (sR Ak Ad)
     clear Ak
     cases hx : ep e2 true hm with
     | true =>
      have HT : Hid (cg T e r = aN (aI e2 true hm) hm) := hide (by rw [Al.out, hx]; rfl)
      rw [hx] at CX
      clear hx
      go_wp2_with (first | (go_at_call 220; refine CX.out.mono ?_; rintro _ w4 ⟨rfl, he, hf⟩; have CL := hide (gh (⟨_, he⟩ : Eg N S A T F n _ _) Ad); have Ab := hide hf; clear he hf) | (go_at_call 218; refine CL.out.mono ?_; rintro _ w5 ⟨rfl, he, hf⟩; have Ag := hide he; have Aj := hide (Ab.out.trans hf); clear he hf))
      go_end0
      exact ⟨rfl, by rw [HT.out]; exact Ag.out, Am.out.trans Aj.out⟩
     | false =>
      have HT : Hid (cg T e r = aI e2 true hm) := hide (by rw [Al.out, hx]; rfl)
      rw [hx] at CX
      clear hx
      go_wp2_with (go_at_call 220; refine CX.out.mono ?_; rintro _ w4 ⟨rfl, he, hf⟩; have As := hide he; have Ab := hide hf; clear he hf)
      go_end0
      exact ⟨rfl, by rw [HT.out]; exact ⟨_, As.out⟩, Am.out.trans Ab.out⟩
end
set_option maxRecDepth 100000
set_option maxHeartbeats 6400000
section
variable {N : Nat} {S : Nat → Prop} {A : Ad} {T : Th} {F : List Int} {n : Nat} {e : Es} {tv : Value} {w w' : World}
theorem FE {p : RuleM → Bool} {k : Nat} {z x : Int} (h : x ∈ dR T p k z) : 0 ≤ x ∧ x < (k : Int) := by
 unfold dR at h
 obtain ⟨a, ha, rfl⟩ := List.mem_map.1 h
 have := List.mem_range.1 (List.mem_filter.1 ha).1
 exact ⟨Int.natCast_nonneg _, by show (a : Int) < k; omega⟩
theorem zF {p : RuleM → Bool} {k : Nat} {z : Int} : (dR T p k z).length ≤ k := by
 unfold dR
 rw [List.length_map]
 exact Nat.le_trans (List.length_filter_le _ _) (by simp)
theorem lT (h : En N S A T F n e tv w) (b : Bool) {q : Nat} (hq : q < n) : ∃ l a c, bw T b q = l ∧ l.length ≤ 4096 ∧ (∀ x ∈ l, ∃ r : Nat, x = (r : Int) ∧ r < T.rules.length) ∧ w.cell? ⟨A.us b, q, none⟩ = some (.slice a l.length c) ∧ ∀ w' : World, (∀ k, S k → w'.heap[k]? = w.heap[k]?) → At1 w' a (au l) := by
 obtain ⟨a, c, h1, h2⟩ := (h.ro.lu b).stay hq
 have Aa := h.pf.ok.rl
 refine ⟨_, a, c, rfl, Nat.le_trans zF Aa, fun x hx => ?_, h1, h2⟩
 obtain ⟨x0, x1⟩ := FE hx
 obtain ⟨r, rfl⟩ := Int.eq_ofNat_of_zero_le x0
 exact ⟨r, rfl, by omega⟩
theorem uR (h : En N S A T F n e tv w) {q : Nat} (hq : q < n) : ∃ l a c g o, row T.foes q = l ∧ A.fa = some ⟨g, o, none⟩ ∧ q < T.foes.length ∧ l.length ≤ 64 ∧ (∀ x ∈ l, dC n x) ∧ (∀ w' : World, (∀ k, S k → w'.heap[k]? = w.heap[k]?) → w'.cell? ⟨g, o + q, none⟩ = some (.slice a l.length c) ∧ At1 w' a (au l)) := by
 obtain ⟨l, hl⟩ := an (l := T.foes) (i := q) (by have := h.pf.ok.fl; have := h.pf.ln; omega)
 have er : row T.foes (q : Int) = l := bE (by rw [Int.toNat_natCast]; exact hl)
 obtain ⟨g, o, a2, c2, e1, hg, hc, -, -, hI⟩ := bY h.ro.ta.foes hl
 exact ⟨l, a2, c2, g, o, er, e1, (List.getElem?_eq_some_iff.1 hl).1, by rw [← er]; exact (eQ h.pf hq).2, fun x hx => h.pf.foe q hq x (by rw [er]; exact hx), fun w' hk => ⟨by rw [World.cell?_of_block (hk g (h.ro.n0 g hg)), hc], (Ints.keep (fun g hg => hk g (h.ro.n0 g hg)) hI).at1⟩⟩
theorem vb {q : Nat} (h : Eg N S A T F n e w) (hq : q < n) :
    Calls Tryz.prog 183 #[aa A.K, .int .i64 q] w fun o w' => o = .returned (.tuple #[]) ∧ Eg N S A T F n (jq T e q) w' ∧ Fr (fun k => ¬ S k) w w' := by
 have Am := hide h
 obtain ⟨tv, h⟩ := h
 have HE := hide h
 have Ao : T.rules.length ≤ 4096 := h.pf.ok.rl
 have Ag := h.bx.get (i := 12) rfl
 obtain ⟨l, la, lc, el, An, Af, cl, Ac⟩ := lT h true hq
 have Al := hide Af
 have Ai := hide Ac
 have HR : Hid (jq T e q = l.foldl (plusD1 T) e) := hide (by unfold jq; rw [el])
 clear h Af Ac el
 go_enter Tryz.func183, Tryz.ntmps183
 go_wp2_with fail
 clear Ag cl
 go_loopw [15] (fun x wr => ∃ k : Nat, k ≤ l.length ∧ x = .int .i64 k ∧ Hid (Eg N S A T F n ((l.take k).foldl (plusD1 T) e) wr) ∧ Hid (Fr (fun k => ¬ S k) w wr)) (fun x _ => l.length - (intOf x).toNat)
 case atStart => exact ⟨0, by omega, rfl, hide Am.out, hide (Fr.refl _ _)⟩
 case round =>
  obtain ⟨k, hk, rfl, HEr, HFr⟩ := hrel
  by_cases hlt : k < l.length
  · obtain ⟨r0, hr⟩ := an hlt
    obtain ⟨r, rfl, Ae⟩ := Al.out r0 (List.mem_of_getElem? hr)
    obtain ⟨gx, ox, rfl, cx⟩ := (Ai.out wr (HE.out.stay HFr.out)).get hr
    have Aa : Hid ((l.take (k + 1)).foldl (plusD1 T) e = plusD1 T ((l.take k).foldl (plusD1 T) e) r) := hide (dF hr)
    clear hr
    generalize (l.take k).foldl (plusD1 T) e = e1 at HEr Aa
    obtain ⟨Ap, Ad⟩ := HEr.out
    have CM := hide (xL Ad Ae)
    clear Ad
    by_cases hx : (bO e1 true r).ms true r = 0
    · have HT : Hid (plusD1 T e1 r = da T (bO e1 true r) r) := hide (by unfold plusD1; exact if_pos hx)
      rw [decide_eq_true hx] at CM
      clear hx
      go_wp2_with (first | (go_at_call 217; refine CM.out.mono ?_; rintro _ w4 ⟨rfl, he, hf⟩; have CV := hide (zV (⟨_, he⟩ : Eg N S A T F n _ _) Ae); have Ab := hide hf; clear he hf) | (go_at_call 221; refine CV.out.mono ?_; rintro _ w5 ⟨rfl, he, hf⟩; have Aj := hide he; have Ah := hide (Ab.out.trans hf); clear he hf))
      go_roundw
      case rel => exact ⟨k + 1, by omega, by go_num, hide (by rw [Aa.out, HT.out]; exact Aj.out), hide (HFr.out.trans Ah.out)⟩
      case measure => simp [intOf]; omega
    · have HT : Hid (plusD1 T e1 r = bO e1 true r) := hide (by unfold plusD1; exact if_neg hx)
      rw [decide_eq_false hx] at CM
      clear hx
      go_wp2_with (go_at_call 217; refine CM.out.mono ?_; rintro _ w4 ⟨rfl, he, hf⟩; have Ak := hide he; have Ab := hide hf; clear he hf)
      go_roundw
      case rel => exact ⟨k + 1, by omega, by go_num, hide (by rw [Aa.out, HT.out]; exact ⟨_, Ak.out⟩), hide (HFr.out.trans Ab.out)⟩
      case measure => simp [intOf]; omega
  · have HL : Hid (l.take k = l) := hide (List.take_of_length_le (by omega))
    go_wp2_with fail
    go_end0
    exact ⟨rfl, by rw [HR.out]; have := HEr.out; rw [HL.out] at this; exact this, HFr.out⟩
theorem ug {q : Nat} (h : Eg N S A T F n e w) (hq : q < n) :
    Calls Tryz.prog 184 #[aa A.K, .int .i64 q] w fun o w' => o = .returned (.tuple #[]) ∧ Eg N S A T F n (hG T e q) w' ∧ Fr (fun k => ¬ S k) w w' := by
 have Am := hide h
 obtain ⟨tv, h⟩ := h
 have HE := hide h
 have Ao : T.rules.length ≤ 4096 := h.pf.ok.rl
 have Ag := h.bx.get (i := 12) rfl
 obtain ⟨l, la, lc, el, An, Af, cl, Ac⟩ := lT h true hq
 have Al := hide Af
 have Ai := hide Ac
 have HR : Hid (hG T e q = l.foldl (minusD1 T) e) := hide (by unfold hG; rw [el])
 clear h Af Ac el
 go_enter Tryz.func184, Tryz.ntmps184
 go_wp2_with fail
 clear Ag cl
 go_loopw [15] (fun x wr => ∃ k : Nat, k ≤ l.length ∧ x = .int .i64 k ∧ Hid (Eg N S A T F n ((l.take k).foldl (minusD1 T) e) wr) ∧ Hid (Fr (fun k => ¬ S k) w wr)) (fun x _ => l.length - (intOf x).toNat)
 case atStart => exact ⟨0, by omega, rfl, hide Am.out, hide (Fr.refl _ _)⟩
 case round =>
  obtain ⟨k, hk, rfl, HEr, HFr⟩ := hrel
  by_cases hlt : k < l.length
  · obtain ⟨r0, hr⟩ := an hlt
    obtain ⟨r, rfl, Ae⟩ := Al.out r0 (List.mem_of_getElem? hr)
    obtain ⟨gx, ox, rfl, cx⟩ := (Ai.out wr (HE.out.stay HFr.out)).get hr
    have Aa : Hid ((l.take (k + 1)).foldl (minusD1 T) e = minusD1 T ((l.take k).foldl (minusD1 T) e) r) := hide (dF hr)
    clear hr
    generalize (l.take k).foldl (minusD1 T) e = e1 at HEr Aa
    obtain ⟨Ap, Ad⟩ := HEr.out
    have CM := hide (sT Ad Ae)
    clear Ad
    cases hx : e1.rf true r with
    | false =>
     have HT : Hid (minusD1 T e1 r = cg T (refE e1 true r) r) := hide (by unfold minusD1; rw [hx]; rfl)
     rw [hx] at CM
     clear hx
     go_wp2_with (first | (go_at_call 219; refine CM.out.mono ?_; rintro _ w4 ⟨rfl, he, hf⟩; have CV := hide (wI (⟨_, he⟩ : Eg N S A T F n _ _) Ae); have Ab := hide hf; clear he hf) | (go_at_call 222; refine CV.out.mono ?_; rintro _ w5 ⟨rfl, he, hf⟩; have Aj := hide he; have Ah := hide (Ab.out.trans hf); clear he hf))
     go_roundw
     case rel => exact ⟨k + 1, by omega, by go_num, hide (by rw [Aa.out, HT.out]; exact Aj.out), hide (HFr.out.trans Ah.out)⟩
     case measure => simp [intOf]; omega
    | true =>
     have HT : Hid (minusD1 T e1 r = e1 ∧ refE e1 true r = e1) := hide ⟨by unfold minusD1; rw [hx]; rfl, by unfold refE; rw [hx]; rfl⟩
     rw [hx] at CM
     clear hx
     go_wp2_with (go_at_call 219; refine CM.out.mono ?_; rintro _ w4 ⟨rfl, he, hf⟩; have Ak := hide he; have Ab := hide hf; clear he hf)
     go_roundw
     case rel => exact ⟨k + 1, by omega, by go_num, hide (by rw [Aa.out, HT.out.1]; have := Ak.out; rw [HT.out.2] at this; exact ⟨_, this⟩), hide (HFr.out.trans Ab.out)⟩
     case measure => simp [intOf]; omega
  · have HL : Hid (l.take k = l) := hide (List.take_of_length_le (by omega))
    go_wp2_with fail
    go_end0
    exact ⟨rfl, by rw [HR.out]; have := HEr.out; rw [HL.out] at this; exact this, HFr.out⟩
theorem vQ {q : Nat} (h : Eg N S A T F n e w) (hq : q < n) :
    Calls Tryz.prog 181 #[aa A.K, .int .i64 q] w fun o w' => o = .returned (.tuple #[]) ∧ Eg N S A T F n (gP T e q) w' ∧ Fr (fun k => ¬ S k) w w' := by
 have CT := hide (dT h hq tag3)
 obtain ⟨tv, h⟩ := h
 have HE := hide h
 have AJ : T.rules.length ≤ 4096 := h.pf.ok.rl
 obtain ⟨l, la, lc, el, AI, Ao, cl, Aj⟩ := lT h false hq
 obtain ⟨fl, fa, fc, gf, of, ef, Ak, AF, AE, Ag, Af⟩ := uR h hq
 have Ay := hide Ao
 have AD := hide Aj
 have Aq := hide Ag
 have Ae := hide Af
 have Az := hide Ak
 have AC := hide fun (r : Nat) (hr : r < T.rules.length) => jW h hr
 have At : Hid (∀ w' : World, (∀ k, S k → w'.heap[k]? = w.heap[k]?) → w'.cell? ⟨A.us false, q, none⟩ = some (.slice la l.length lc)) := hide fun w' hk => by rw [World.cell?_of_block (hk _ (h.ro.lu false).1), cl]
 have HR : Hid (gP T e q = fl.foldl aN (l.foldl (plusS1 T) (tell e q 3))) := hide (by unfold gP; rw [el, ef])
 clear h Ao Aj el Ag Af ef Ak cl
 go_enter Tryz.func181, Tryz.ntmps181
 go_upto_region 1 with (go_at_call 213; refine CT.out.mono ?_; rintro _ w2 ⟨rfl, he, hf⟩; have An := hide he; have Al := hide hf; clear he hf)
 clear CT
 generalize tell e q 3 = e0 at *
 have c8 : w2.cell? ⟨A.K, 8, none⟩ = some (sl (A.us false) n) := by obtain ⟨Aw, h2⟩ := An.out; exact h2.bx.get (i := 8) rfl
 have cl := At.out w2 (HE.out.stay Al.out)
 go_wp2_with fail
 clear c8 cl
 go_loopw [20] (fun x wr => ∃ k : Nat, k ≤ l.length ∧ x = .int .i64 k ∧ Hid (Eg N S A T F n ((l.take k).foldl (plusS1 T) e0) wr) ∧ Hid (Fr (fun k => ¬ S k) w wr)) (fun x _ => l.length - (intOf x).toNat)
 case atStart => exact ⟨0, by omega, rfl, hide An.out, Al⟩
 case round =>
  obtain ⟨k, hk, rfl, HEr, HFr⟩ := hrel
  by_cases hlt : k < l.length
  · obtain ⟨r0, hr⟩ := an hlt
    obtain ⟨r, rfl, Ap⟩ := Ay.out r0 (List.mem_of_getElem? hr)
    obtain ⟨gx, ox, rfl, cx⟩ := (AD.out wr (HE.out.stay HFr.out)).get hr
    have Aa : Hid ((l.take (k + 1)).foldl (plusS1 T) e0 = plusS1 T ((l.take k).foldl (plusS1 T) e0) r) := hide (dF hr)
    clear hr
    generalize (l.take k).foldl (plusS1 T) e0 = e1 at HEr Aa
    obtain ⟨AG, Am⟩ := HEr.out
    have CM := hide (yJ Am Ap)
    clear Am
    by_cases hx : (bO e1 false r).ms false r = 0
    · obtain ⟨hm, gr, go, hh, AA, er, Ai⟩ := AC.out r Ap
      have HT : Hid (plusS1 T e1 r = tell (bO e1 false r) hm 1) := hide (by unfold plusS1; rw [hh]; exact if_pos hx)
      rw [decide_eq_true hx] at CM
      have Ar := hide Ai
      have Ax := hide er
      clear hx Ai er hh
      go_upto_region 5 with (go_at_call 217; refine CM.out.mono ?_; rintro _ w4 ⟨rfl, he, hf⟩; have Ad := hide he; have CV := hide (dT (⟨_, he⟩ : Eg N S A T F n _ _) AA tag1); have Ab := hide hf; clear he hf)
      have c2 := Ad.out.bx.get (i := 2) rfl
      rw [Ax.out] at c2
      have x1 := Ar.out w4 (HE.out.stay (HFr.out.trans Ab.out))
      go_wp2_with (go_at_call 213; refine CV.out.mono ?_; rintro _ w5 ⟨rfl, he, hf⟩; have Ac := hide he; have Ah := hide (Ab.out.trans hf); clear he hf)
      go_roundw
      case rel => exact ⟨k + 1, by omega, by go_num, hide (by rw [Aa.out, HT.out]; exact Ac.out), hide (HFr.out.trans Ah.out)⟩
      case measure => simp [intOf]; omega
    · have HT : Hid (plusS1 T e1 r = bO e1 false r) := hide (by unfold plusS1; exact if_neg hx)
      rw [decide_eq_false hx] at CM
      clear hx
      go_wp2_with (go_at_call 217; refine CM.out.mono ?_; rintro _ w4 ⟨rfl, he, hf⟩; have Ad := hide he; have Ab := hide hf; clear he hf)
      go_roundw
      case rel => exact ⟨k + 1, by omega, by go_num, hide (by rw [Aa.out, HT.out]; exact ⟨_, Ad.out⟩), hide (HFr.out.trans Ab.out)⟩
      case measure => simp [intOf]; omega
  · have HL : Hid (l.take k = l) := hide (List.take_of_length_le (by omega))
    rw [HL.out] at HEr
    generalize l.foldl (plusS1 T) e0 = e1 at *
    have c1 : wr.cell? ⟨A.K, 1, none⟩ = some (.slice (some ⟨gf, of, none⟩) T.foes.length A.fc) := by obtain ⟨Aw, h2⟩ := HEr.out; rw [← Az.out]; exact h2.bx.get (i := 1) rfl
    obtain ⟨cf, -⟩ := Ae.out wr (HE.out.stay HFr.out)
    go_wp2_with fail
    clear c1 cf
    have Au := hide HEr.out
    have AB := hide HFr.out
    clear HEr HFr
    go_loopw [53] (fun x wz => ∃ j : Nat, j ≤ fl.length ∧ x = .int .i64 j ∧ Hid (Eg N S A T F n ((fl.take j).foldl aN e1) wz) ∧ Hid (Fr (fun k => ¬ S k) w wz)) (fun x _ => fl.length - (intOf x).toNat)
    case atStart => exact ⟨0, by omega, rfl, hide Au.out, AB⟩
    case round =>
     rename World => wz
     obtain ⟨j, hj, rfl, HEr, HFr⟩ := hrel
     by_cases hjl : j < fl.length
     · obtain ⟨p0, hp⟩ := an hjl
       obtain ⟨Av, AH⟩ := Aq.out p0 (List.mem_of_getElem? hp)
       obtain ⟨p, rfl⟩ := Int.eq_ofNat_of_zero_le Av
       obtain ⟨gx, ox, rfl, cx⟩ := (Ae.out wz (HE.out.stay HFr.out)).2.get hp
       have Aa : Hid ((fl.take (j + 1)).foldl aN e1 = aN ((fl.take j).foldl aN e1) p) := hide (dF hp)
       have CL := hide (gh HEr.out (show p < n by omega))
       clear hp
       go_wp2_with (go_at_call 218; refine CL.out.mono ?_; rintro _ w5 ⟨rfl, he, hf⟩; have Ac := hide he; have Ah := hide hf; clear he hf)
       go_roundw
       case rel => exact ⟨j + 1, by omega, by go_num, hide (by rw [Aa.out]; exact Ac.out), hide (HFr.out.trans Ah.out)⟩
       case measure => simp [intOf]; omega
     · have As : Hid (fl.take j = fl) := hide (List.take_of_length_le (by omega))
       go_wp2_with fail
       go_end0
       exact ⟨rfl, by rw [HR.out]; have := HEr.out; rw [As.out] at this; exact this, HFr.out⟩
end
set_option maxRecDepth 100000
set_option maxHeartbeats 6400000
section
variable {N : Nat} {S : Nat → Prop} {A : Ad} {T : Th} {F : List Int} {n : Nat} {e : Es} {tv : Value} {w w' : World}
theorem uL {e : Es} {r hm : Int} (hh : ah T r = hm) : minusS1 T e r = if e.rf false r then e else if ep (refE e false r) false hm then tell (aI (refE e false r) false hm) hm 2 else aI (refE e false r) false hm := by unfold minusS1; rw [hh]
theorem uz {q : Nat} (h : Eg N S A T F n e w) (hq : q < n) :
    Calls Tryz.prog 182 #[aa A.K, .int .i64 q] w fun o w' => o = .returned (.tuple #[]) ∧ Eg N S A T F n (d7 T F e q) w' ∧ Fr (fun k => ¬ S k) w w' := by
 have Aw := hide h
 obtain ⟨tv, h⟩ := h
 have HE := hide h
 have AI : T.rules.length ≤ 4096 := h.pf.ok.rl
 have k8 := h.bx.get (i := 8) rfl
 obtain ⟨l, la, lc, el, AH, An, cl, Al⟩ := lT h false hq
 obtain ⟨va, vc, cv, Ag⟩ := h.ro.lv.stay hq
 obtain ⟨vl, Af⟩ : ∃ vl, ak T (q : Int) = vl := ⟨_, rfl⟩
 rw [Af] at cv Ag
 have AE : vl.length ≤ 64 := by rw [← Af]; exact dE h.pf hq
 have Ap : Hid (∀ p ∈ vl, dC n p) := hide fun p hp => ir h.pf hq (by rw [Af]; exact hp)
 have Aq := hide Ag
 have AA : Hid (∀ w' : World, (∀ k, S k → w'.heap[k]? = w.heap[k]?) → w'.cell? ⟨A.rv, q, none⟩ = some (.slice va vl.length vc)) := hide fun w' hk => by rw [World.cell?_of_block (hk _ h.ro.lv.1), cv]
 have Az := hide An
 have AD := hide Al
 have AC := hide fun (r : Nat) (hr : r < T.rules.length) => jW h hr
 have HR : Hid (d7 T F e q = aJ T (if aE T F q then vl.foldl (jE T) (l.foldl (minusS1 T) e) else l.foldl (minusS1 T) e) q) := hide (by unfold d7; rw [el, Af])
 clear h An Al el Ag Af cv
 go_enter Tryz.func182, Tryz.ntmps182
 go_wp2_with fail
 clear k8 cl
 go_loopw [18] (fun x wr => ∃ k : Nat, k ≤ l.length ∧ x = .int .i64 k ∧ Hid (Eg N S A T F n ((l.take k).foldl (minusS1 T) e) wr) ∧ Hid (Fr (fun k => ¬ S k) w wr)) (fun x _ => l.length - (intOf x).toNat)
 case atStart => exact ⟨0, by omega, rfl, hide Aw.out, hide (Fr.refl _ _)⟩
 case round =>
  obtain ⟨k, hk, rfl, HEr, HFr⟩ := hrel
  by_cases hlt : k < l.length
  · obtain ⟨r0, hr⟩ := an hlt
    obtain ⟨r, rfl, Ao⟩ := Az.out r0 (List.mem_of_getElem? hr)
    obtain ⟨gx, ox, rfl, cx⟩ := (AD.out wr (HE.out.stay HFr.out)).get hr
    have Ae : Hid ((l.take (k + 1)).foldl (minusS1 T) e = minusS1 T ((l.take k).foldl (minusS1 T) e) r) := hide (dF hr)
    clear hr
    generalize (l.take k).foldl (minusS1 T) e = e1 at HEr Ae
    obtain ⟨Av, Ab⟩ := HEr.out
    have CM := hide (sP Ab Ao)
    obtain ⟨hm, gr, go, hh, Ai, er, Aj⟩ := AC.out r Ao
    have c2 := Ab.bx.get (i := 2) rfl
    rw [er] at c2
    have x1 := Aj wr (HE.out.stay HFr.out)
    have Ah := hide (uL (e := e1) hh)
    clear Ab Aj er hh
    cases hx : e1.rf false r with
    | true =>
     have HT : Hid (minusS1 T e1 r = e1 ∧ refE e1 false r = e1) := hide ⟨by rw [Ah.out, hx]; rfl, by unfold refE; rw [hx]; rfl⟩
     rw [hx] at CM
     clear hx
     go_wp2_with (go_at_call 219; refine CM.out.mono ?_; rintro _ w4 ⟨rfl, he, hf⟩; have At := hide he; have Ad := hide hf; clear he hf)
     go_roundw
     case rel => exact ⟨k + 1, by omega, by go_num, hide (by rw [Ae.out, HT.out.1]; have := At.out; rw [HT.out.2] at this; exact ⟨_, this⟩), hide (HFr.out.trans Ad.out)⟩
     case measure => simp [intOf]; omega
    | false =>
     have Am : Hid (minusS1 T e1 r = if ep (refE e1 false r) false hm then tell (aI (refE e1 false r) false hm) hm 2 else aI (refE e1 false r) false hm) := hide (by rw [Ah.out, hx]; rfl)
     rw [hx] at CM
     clear hx Ah
     generalize refE e1 false r = e2 at *
     cases hc : ep e2 false hm with
     | true =>
      have HT : Hid (minusS1 T e1 r = tell (aI e2 false hm) hm 2) := hide (by rw [Am.out, hc]; rfl)
      have HC := hide hc
      clear hc
      go_wp2_with (first | (go_at_call 219; refine CM.out.mono ?_; rintro _ w4 ⟨rfl, he, hf⟩; have CX := hide (m7 he Ai); rw [HC.out] at CX; have Ad := hide hf; clear he hf) | (go_at_call 220; refine CX.out.mono ?_; rintro _ w5 ⟨rfl, he, hf⟩; have CV := hide (dT (⟨_, he⟩ : Eg N S A T F n _ _) Ai tag2); have Aa := hide (Ad.out.trans hf); clear he hf) | (go_at_call 213; refine CV.out.mono ?_; rintro _ w6 ⟨rfl, he, hf⟩; have As := hide he; have Ax := hide (Aa.out.trans hf); clear he hf))
      go_roundw
      case rel => exact ⟨k + 1, by omega, by go_num, hide (by rw [Ae.out, HT.out]; exact As.out), hide (HFr.out.trans Ax.out)⟩
      case measure => simp [intOf]; omega
     | false =>
      have HT : Hid (minusS1 T e1 r = aI e2 false hm) := hide (by rw [Am.out, hc]; rfl)
      have HC := hide hc
      clear hc
      go_wp2_with (first | (go_at_call 219; refine CM.out.mono ?_; rintro _ w4 ⟨rfl, he, hf⟩; have CX := hide (m7 he Ai); rw [HC.out] at CX; have Ad := hide hf; clear he hf) | (go_at_call 220; refine CX.out.mono ?_; rintro _ w5 ⟨rfl, he, hf⟩; have Ac := hide he; have Aa := hide (Ad.out.trans hf); clear he hf))
      go_roundw
      case rel => exact ⟨k + 1, by omega, by go_num, hide (by rw [Ae.out, HT.out]; exact ⟨_, Ac.out⟩), hide (HFr.out.trans Aa.out)⟩
      case measure => simp [intOf]; omega
  · have HL : Hid (l.take k = l) := hide (List.take_of_length_le (by omega))
    rw [HL.out] at HEr
    generalize l.foldl (minusS1 T) e = e1 at *
    obtain ⟨Av, Ab⟩ := HEr.out
    have c7 := Ab.bx.get (i := 7) rfl
    have cf := Ab.ro.lf.get (d9 hq)
    have c6 := Ab.bx.get (i := 6) rfl
    have cv := AA.out wr (HE.out.stay HFr.out)
    clear Ab
    cases hfm : aE T F q with
    | false =>
     have HT : Hid (d7 T F e q = aJ T e1 q) := hide (by rw [HR.out, hfm]; rfl)
     rw [hfm] at cf
     have CD := hide (gI HEr.out hq)
     clear hfm
     go_wp2_with (go_at_call 216; refine CD.out.mono ?_; rintro _ w5 ⟨rfl, he, hf⟩; have Ac := hide he; have Aa := hide hf; clear he hf)
     go_end0
     exact ⟨rfl, by rw [HT.out]; exact Ac.out, HFr.out.trans Aa.out⟩
    | true =>
     have HT : Hid (d7 T F e q = aJ T (vl.foldl (jE T) e1) q) := hide (by rw [HR.out, hfm]; rfl)
     rw [hfm] at cf
     clear hfm
     go_wp2_with fail
     clear c7 cf c6 cv
     have Au := hide HEr.out
     have AB := hide HFr.out
     clear HEr HFr
     go_loopw [67] (fun x wz => ∃ j : Nat, j ≤ vl.length ∧ x = .int .i64 j ∧ Hid (Eg N S A T F n ((vl.take j).foldl (jE T) e1) wz) ∧ Hid (Fr (fun k => ¬ S k) w wz)) (fun x _ => vl.length - (intOf x).toNat)
     case atStart => exact ⟨0, by omega, rfl, hide Au.out, AB⟩
     case round =>
      rename World => wz
      obtain ⟨j, hj, rfl, HEr, HFr⟩ := hrel
      by_cases hjl : j < vl.length
      · obtain ⟨p0, hp⟩ := an hjl
        obtain ⟨Ay, AG⟩ := Ap.out p0 (List.mem_of_getElem? hp)
        obtain ⟨p, rfl⟩ := Int.eq_ofNat_of_zero_le Ay
        have Ak : p < n := by omega
        obtain ⟨gx, ox, rfl, cx⟩ := (Aq.out wz (HE.out.stay HFr.out)).get hp
        have Ae : Hid ((vl.take (j + 1)).foldl (jE T) e1 = bF T (cT ((vl.take j).foldl (jE T) e1) p) p) := hide (dF hp)
        obtain ⟨AF, h3⟩ := HEr.out
        have CC := hide (mC h3 Ak)
        clear hp h3
        go_wp2_with (first | (go_at_call 212; refine CC.out.mono ?_; rintro _ w4 ⟨rfl, he, hf⟩; have CV := hide (jR (⟨_, he⟩ : Eg N S A T F n _ _) Ak); have Ad := hide hf; clear he hf) | (go_at_call 215; refine CV.out.mono ?_; rintro _ w5 ⟨rfl, he, hf⟩; have Ac := hide he; have Aa := hide (Ad.out.trans hf); clear he hf))
        go_roundw
        case rel => exact ⟨j + 1, by omega, by go_num, hide (by rw [Ae.out]; exact Ac.out), hide (HFr.out.trans Aa.out)⟩
        case measure => simp [intOf]; omega
      · have Ar : Hid (vl.take j = vl) := hide (List.take_of_length_le (by omega))
        rw [Ar.out] at HEr
        have CD := hide (gI HEr.out hq)
        go_wp2_with (go_at_call 216; refine CD.out.mono ?_; rintro _ w5 ⟨rfl, he, hf⟩; have Ac := hide he; have Aa := hide hf; clear he hf)
        go_end0
        exact ⟨rfl, by rw [HT.out]; exact Ac.out, HFr.out.trans Aa.out⟩
theorem lF {f : Es → Nat → Es} {e : Es} {k : Nat} : (List.range (k + 1)).foldl f e = f ((List.range k).foldl f e) k := by rw [List.range_succ, List.foldl_append]; rfl
theorem uQ (h : Eg N S A T F n e w) :
    Calls Tryz.prog 180 #[aa A.K] w fun o w' => o = .returned (.tuple #[]) ∧ Eg N S A T F n (beginE T F n e) w' ∧ Fr (fun k => ¬ S k) w w' := by
 have Ap := hide h
 obtain ⟨tv, h⟩ := h
 have HE := hide h
 have Ar := h.pf.n4
 have k7 := h.bx.get (i := 7) rfl
 clear h
 go_enter Tryz.func180, Tryz.ntmps180
 go_wp2_with fail
 clear k7
 go_loopw [11] (fun x wr => ∃ k : Nat, k ≤ n ∧ x = .int .i64 k ∧ Hid (Eg N S A T F n ((List.range k).foldl (bZ T F) e) wr) ∧ Hid (Fr (fun k => ¬ S k) w wr)) (fun x _ => n - (intOf x).toNat)
 case atStart => exact ⟨0, by omega, rfl, hide Ap.out, hide (Fr.refl _ _)⟩
 case round =>
  obtain ⟨k, hk, rfl, HEr, HFr⟩ := hrel
  by_cases hlt : k < n
  · have Aa : Hid ((List.range (k + 1)).foldl (bZ T F) e = bZ T F ((List.range k).foldl (bZ T F) e) k) := hide lF
    generalize (List.range k).foldl (bZ T F) e = e1 at HEr Aa
    have C2 := hide (dT HEr.out hlt tag2)
    have C1 := hide (dT HEr.out hlt tag1)
    obtain ⟨Aj, Ab⟩ := HEr.out
    have cf := Ab.ro.lf.get (d9 hlt)
    have Aq := Ab.bx.get (i := 11) rfl
    have co := (Ab.op false).get (bz hlt)
    clear Ab
    cases hfm : aE T F k with
    | false =>
     rw [hfm] at cf
     have HT : Hid (bZ T F e1 k = tell e1 k 2) := hide (by unfold bZ; rw [hfm]; rfl)
     clear hfm
     go_wp2_with (go_at_call 213; refine C2.out.mono ?_; rintro _ w5 ⟨rfl, he, hf⟩; have Af := hide he; have Ac := hide hf; clear he hf)
     go_roundw
     case rel => exact ⟨k + 1, by omega, by go_num, hide (by rw [Aa.out, HT.out]; exact Af.out), hide (HFr.out.trans Ac.out)⟩
     case measure => simp [intOf]; omega
    | true =>
     rw [hfm] at cf
     by_cases hx : e1.op false k = 0
     · have HT : Hid (bZ T F e1 k = tell e1 k 1) := hide (by unfold bZ; rw [hfm]; exact if_pos hx)
       have Ah : (e1.op false k == 0) = true := by simpa using hx
       generalize e1.op false k = x at co Ah
       clear hfm hx
       go_wp2_with (go_at_call 213; refine C1.out.mono ?_; rintro _ w5 ⟨rfl, he, hf⟩; have Af := hide he; have Ac := hide hf; clear he hf)
       go_roundw
       case rel => exact ⟨k + 1, by omega, by go_num, hide (by rw [Aa.out, HT.out]; exact Af.out), hide (HFr.out.trans Ac.out)⟩
       case measure => simp [intOf]; omega
     · have HT : Hid (bZ T F e1 k = e1) := hide (by unfold bZ; rw [hfm]; exact if_neg hx)
       have Ah : (e1.op false k == 0) = false := by simpa using hx
       generalize e1.op false k = x at co Ah
       clear hfm hx
       go_wp2_with fail
       go_roundw
       case rel => exact ⟨k + 1, by omega, by go_num, hide (by rw [Aa.out, HT.out]; exact HEr.out), HFr⟩
       case measure => simp [intOf]; omega
  · have Ai : k = n := by omega
    have HR : Hid (beginE T F n e = (List.range n).foldl (du T) ((List.range k).foldl (bZ T F) e)) := hide (by rw [Ai]; rfl)
    clear Ai
    generalize (List.range k).foldl (bZ T F) e = e1 at *
    have Am : wr.cell? ⟨A.K, 18, none⟩ = some (sl A.mq n) := by obtain ⟨Aj, Ab⟩ := HEr.out; exact Ab.bx.get (i := 18) rfl
    go_wp2_with fail
    clear Am
    have An := hide HEr.out
    have Al := hide HFr.out
    clear HEr HFr
    go_loopw [41] (fun x wz => ∃ j : Nat, j ≤ n ∧ x = .int .i64 j ∧ Hid (Eg N S A T F n ((List.range j).foldl (du T) e1) wz) ∧ Hid (Fr (fun k => ¬ S k) w wz)) (fun x _ => n - (intOf x).toNat)
    case atStart => exact ⟨0, by omega, rfl, hide An.out, Al⟩
    case round =>
     rename World => wz
     obtain ⟨j, hj, rfl, HEr, HFr⟩ := hrel
     by_cases hjl : j < n
     · have Aa : Hid ((List.range (j + 1)).foldl (du T) e1 = du T ((List.range j).foldl (du T) e1) j) := hide lF
       generalize (List.range j).foldl (du T) e1 = e2 at HEr Aa
       have CH : Hid (Calls Tryz.prog 214 #[aa A.K, .int .i64 j, .int .i64 1] wz fun r w' => r = .returned (.bool (has e2 j 1)) ∧ Below wz.heap.size wz w') := hide (by obtain ⟨Aj, Ab⟩ := HEr.out; exact dH Ab hjl tag1)
       cases hh : has e2 j 1 with
       | true =>
        have HT : Hid (du T e2 j = aJ T (bF T (tell e2 j 3) j) j) := hide (by unfold du; rw [hh]; rfl)
        rw [hh] at CH
        clear hh
        go_wp2_with (first | (go_at_call 214; refine CH.out.mono ?_; rintro _ w3 ⟨rfl, hb⟩; have Ao := hide (Fr.of_below (Z := fun k => ¬ S k) hb); have CT := hide (dT (HEr.out.go hb) hjl tag3); clear hb) | (go_at_call 213; refine CT.out.mono ?_; rintro _ w4 ⟨rfl, he, hf⟩; have CV := hide (jR he hjl); have Ae := hide (Ao.out.trans hf); clear he hf) | (go_at_call 215; refine CV.out.mono ?_; rintro _ w5 ⟨rfl, he, hf⟩; have CD := hide (gI he hjl); have Ac := hide (Ae.out.trans hf); clear he hf) | (go_at_call 216; refine CD.out.mono ?_; rintro _ w6 ⟨rfl, he, hf⟩; have Ag := hide he; have Ad := hide (Ac.out.trans hf); clear he hf))
        go_roundw
        case rel => exact ⟨j + 1, by omega, by go_num, hide (by rw [Aa.out, HT.out]; exact Ag.out), hide (HFr.out.trans Ad.out)⟩
        case measure => simp [intOf]; omega
       | false =>
        have HT : Hid (du T e2 j = aJ T (bF T e2 j) j) := hide (by unfold du; rw [hh]; rfl)
        rw [hh] at CH
        clear hh
        go_wp2_with (first | (go_at_call 214; refine CH.out.mono ?_; rintro _ w3 ⟨rfl, hb⟩; have Ae := hide (Fr.of_below (Z := fun k => ¬ S k) hb); have CV := hide (jR (HEr.out.go hb) hjl); clear hb) | (go_at_call 215; refine CV.out.mono ?_; rintro _ w5 ⟨rfl, he, hf⟩; have CD := hide (gI he hjl); have Ac := hide (Ae.out.trans hf); clear he hf) | (go_at_call 216; refine CD.out.mono ?_; rintro _ w6 ⟨rfl, he, hf⟩; have Ag := hide he; have Ad := hide (Ac.out.trans hf); clear he hf))
        go_roundw
        case rel => exact ⟨j + 1, by omega, by go_num, hide (by rw [Aa.out, HT.out]; exact Ag.out), hide (HFr.out.trans Ad.out)⟩
        case measure => simp [intOf]; omega
     · have Ak : j = n := by omega
       subst Ak
       go_wp2_with fail
       go_end0
       exact ⟨rfl, by rw [HR.out]; exact HEr.out, HFr.out⟩
end
end Go.Proofs.YtmlhcncagdfjfaaGreat.Fa
