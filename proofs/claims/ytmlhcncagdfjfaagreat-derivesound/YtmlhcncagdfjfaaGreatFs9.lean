import Derived.Test.YtmlhcncagdfjfaaGreatFs2
set_option maxRecDepth 100000
set_option maxHeartbeats 6400000
namespace Go.Proofs.YtmlhcncagdfjfaaGreat.Fa
open Go.RowKit
section
variable {N : Nat} {S : Nat → Prop} {A : Ad} {T : Th} {F : List Int} {n : Nat} {e : Es} {tv : Value} {w w' : World}
theorem nH (h : En N S A T F n e tv w) {r : Nat} (hr : r < T.rules.length) : ∃ (kd : Int) (hm g o : Nat) (bv : Value), aj T r = (hm : Int) ∧ hm < n ∧ bT T r = (!decide (kd = 3)) ∧ A.ra = some ⟨g, o, none⟩ ∧ ∀ w' : World, (∀ k, S k → w'.heap[k]? = w.heap[k]?) → w'.cell? ⟨g, o + r * 3, none⟩ = some (.int .i64 kd) ∧ w'.cell? ⟨g, o + r * 3 + 1, none⟩ = some (.int .i64 hm) ∧ w'.cell? ⟨g, o + r * 3 + 2, none⟩ = some bv := by
 obtain ⟨x, hx, Ab, Ac, Ad⟩ := fd h.pf hr
 obtain ⟨hm, Aa⟩ := Int.eq_ofNat_of_zero_le Ac
 obtain ⟨gr, go, bd, bp, er, hg, x0, x1, x2, -, -, -⟩ := dG h.ro.ta.rules hx
 refine ⟨x.kind, hm, gr, go, _, by rw [Ab, Aa], by omega, ?_, er, fun w' hk => ⟨by rw [World.cell?_of_block (hk gr (h.ro.n0 gr hg)), x0], by rw [World.cell?_of_block (hk gr (h.ro.n0 gr hg)), x1, Aa], by rw [World.cell?_of_block (hk gr (h.ro.n0 gr hg)), x2]⟩⟩
 unfold bT
 rw [Int.toNat_natCast, hx]
 rfl
theorem yi {r : Nat} (h : Eg N S A T F n e w) (hr : r < T.rules.length) :
    Calls Tryz.prog 221 #[aa A.K, .int .i64 r] w fun o w' => o = .returned (.tuple #[]) ∧ Eg N S A T F n (ik T e r) w' ∧ Fr (fun k => ¬ S k) w w' := by
 have Av := hide h
 obtain ⟨tv, h⟩ := h
 have HE := hide h
 have AC : T.rules.length ≤ 4096 := h.pf.ok.rl
 obtain ⟨kd, hm, gr, go, bv, hh, Ac, Ae, er, Al⟩ := nH h hr
 have x1 := (Al w fun _ _ => rfl).2.1
 obtain ⟨la, lc, cl, Ag⟩ := h.ro.lv.stay Ac
 have k2 := h.bx.get (i := 2) rfl
 have k6 := h.bx.get (i := 6) rfl
 rw [er] at k2
 obtain ⟨l, hl⟩ : ∃ l, ao T (hm : Int) = l := ⟨_, rfl⟩
 rw [hl] at cl Ag
 have AD : l.length ≤ 64 := by rw [← hl]; exact cU h.pf Ac
 have An : Hid (ao T (aj T r) = l) := hide (by rw [hh, hl])
 have At : Hid (∀ p ∈ l, cP n p) := hide fun p hp => mH h.pf Ac (by rw [hl]; exact hp)
 have Au := hide Ag
 have As := hide Al
 have AA := hide er
 have AG := hide hh
 have Aq := hide Ae
 have HR : Hid (ik T e r = if bT T r then (if (defendE T (l.foldl (eW (r : Int)) e) r).ob hm = 0 then tell (defendE T (l.foldl (eW (r : Int)) e) r) hm 3 else defendE T (l.foldl (eW (r : Int)) e) r) else l.foldl (eW (r : Int)) e) := hide (by unfold ik; rw [hh, hl])
 clear h Al Ag er hh hl Ae
 go_enter Tryz.func221, Tryz.ntmps221
 go_wp2_with fail
 clear k2 k6 cl x1
 go_loopw [26] (fun x wr => ∃ k : Nat, k ≤ l.length ∧ x = .int .i64 k ∧ Hid (Eg N S A T F n ((l.take k).foldl (eW (r : Int)) e) wr) ∧ Hid (Fr (fun k => ¬ S k) w wr)) (fun x _ => l.length - (intOf x).toNat)
 case atStart => exact ⟨0, by omega, rfl, hide Av.out, hide (Fr.refl _ _)⟩
 obtain ⟨k, hk, rfl, HEr, HFr⟩ := hrel
 by_cases hlt : k < l.length
 ·obtain ⟨p0, hp⟩ := am hlt
  obtain ⟨Ap, Az⟩ := At.out p0 (List.mem_of_getElem? hp)
  obtain ⟨p, rfl⟩ := Int.eq_ofNat_of_zero_le Ap
  have Aw : p < n := by omega
  obtain ⟨gx, ox, rfl, cx⟩ := (Au.out wr (HE.out.stay HFr.out)).get hp
  have Af : Hid ((l.take (k + 1)).foldl (eW (r : Int)) e = eW (r : Int) ((l.take k).foldl (eW (r : Int)) e) p) := hide (cT hp)
  generalize (l.take k).foldl (eW (r : Int)) e = e1 at HEr Af
  have CL := hide (fD HEr.out Aw)
  obtain ⟨Ay, Aa⟩ := HEr.out
  have AE := Aa.bx.get (i := 16) rfl
  have c1 := Aa.ro.lx.get (i := r) (v := sl (A.cr r) l.length) (by rw [List.getElem?_map, List.getElem?_range hr, ← An.out]; rfl)
  have c2 := (Aa.cr r hr).get (fI (k := k) (p := (p : Int)) (by rw [An.out]; exact hp)).1
  clear hp Aa Ap Az
  by_cases hx : e1.cd r p = 0
  ·have HT : Hid (eW (r : Int) e1 p = bJ e1 p) := hide (by unfold eW; rw [if_pos hx])
   have Ab : (e1.cd r p == 0) = true := by simpa using hx
   generalize e1.cd r p = x at c2 Ab
   clear hx
   go_wp2_with (go_at_call 218; refine CL.out.mono ?_; rintro _ w4 ⟨rfl, he, hf⟩; have Ai := hide he; have Ah := hide hf; clear he hf)
   go_roundw
   case rel => exact ⟨k + 1, by omega, by go_num, hide (by rw [Af.out, HT.out]; exact Ai.out), hide (HFr.out.trans Ah.out)⟩
   case measure => simp [intOf]; omega
  have HT : Hid (eW (r : Int) e1 p = e1) := hide (by unfold eW; rw [if_neg hx])
  have Ab : (e1.cd r p == 0) = false := by simpa using hx
  generalize e1.cd r p = x at c2 Ab
  clear hx
  go_wp2_with fail
  go_roundw
  case rel => exact ⟨k + 1, by omega, by go_num, hide (by rw [Af.out, HT.out]; exact HEr.out), HFr⟩
  case measure => simp [intOf]; omega
 have HL : Hid (l.take k = l) := hide (List.take_of_length_le (by omega))
 rw [HL.out] at HEr
 generalize l.foldl (eW (r : Int)) e = e1 at *
 obtain ⟨Ay, Aa⟩ := HEr.out
 obtain ⟨y0, y1, y2⟩ := As.out wr (HE.out.stay HFr.out)
 have k2 := Aa.bx.get (i := 2) rfl
 rw [AA.out] at k2
 have CT := hide (fh (w := wr) (k := kd) (h := (hm : Int)) (v := bv))
 cases htm : bT T r with
 | false =>
  have Ad : (!decide (kd = 3)) = false := by rw [← Aq.out]; exact htm
  rw [Ad] at CT
  have HT : Hid (ik T e r = e1) := hide (by rw [HR.out, htm]; rfl)
  clear htm Ad Aa
  go_wp2_with (go_at_call 176; refine CT.out.mono ?_; rintro _ w2 ⟨rfl, hb⟩; have HB := hide hb; clear hb)
  go_end0
  exact ⟨rfl, by rw [HT.out]; exact HEr.out.go HB.out, HFr.out.trans (Fr.of_below HB.out)⟩
 | true =>
  have Ad : (!decide (kd = 3)) = true := by rw [← Aq.out]; exact htm
  rw [Ad] at CT
  have Ax := hide htm
  have Ao : Hid (ik T e r = if (defendE T e1 r).ob hm = 0 then tell (defendE T e1 r) hm 3 else defendE T e1 r) := hide (by rw [HR.out, htm]; rfl)
  clear htm Ad Aa
  go_upto_region 9 with (first | (go_at_call 176; refine CT.out.mono ?_; rintro _ w2 ⟨rfl, hb⟩; have HB := hide hb; have CD := hide (nN (HEr.out.go hb) hr Ax.out); clear hb) | (go_at_call 179; refine CD.out.mono ?_; rintro _ w3 ⟨rfl, he, hf⟩; have Aj := hide he; have Ar := hide ((HFr.out.trans (Fr.of_below HB.out)).trans hf); clear he hf))
  clear k2 y0 y1 y2 CT CD
  generalize defendE T e1 r = e2 at *
  have CL := hide (dh Aj.out Ac tag3)
  obtain ⟨AB, Ak⟩ := Aj.out
  have AF := Ak.bx.get (i := 17) rfl
  have Am := Ak.ob.get (aY Ac)
  clear Ak
  by_cases hx : e2.ob hm = 0
  ·have HT : Hid (ik T e r = tell e2 hm 3) := hide (by rw [Ao.out, if_pos hx])
   have Ab : (e2.ob hm == 0) = true := by simpa using hx
   generalize e2.ob hm = x at Am Ab
   clear hx
   go_wp2_with (go_at_call 213; refine CL.out.mono ?_; rintro _ w4 ⟨rfl, he, hf⟩; have Ai := hide he; have Ah := hide hf; clear he hf)
   go_end0
   exact ⟨rfl, by rw [HT.out]; exact Ai.out, Ar.out.trans Ah.out⟩
  have HT : Hid (ik T e r = e2) := hide (by rw [Ao.out, if_neg hx])
  have Ab : (e2.ob hm == 0) = false := by simpa using hx
  generalize e2.ob hm = x at Am Ab
  clear hx
  go_wp2_with fail
  go_end0
  exact ⟨rfl, by rw [HT.out]; exact Aj.out, Ar.out⟩
theorem vY {r : Nat} (h : Eg N S A T F n e w) (hr : r < T.rules.length) :
    Calls Tryz.prog 222 #[aa A.K, .int .i64 r] w fun o w' => o = .returned (.tuple #[]) ∧ Eg N S A T F n (fO T e r) w' ∧ Fr (fun k => ¬ S k) w w' := by
 have Au := hide h
 obtain ⟨tv, h⟩ := h
 have HE := hide h
 have AC : T.rules.length ≤ 4096 := h.pf.ok.rl
 obtain ⟨kd, hm, gr, go, bv, hh, Ab, Ae, er, Aj⟩ := nH h hr
 have x1 := (Aj w fun _ _ => rfl).2.1
 obtain ⟨la, lc, cl, Ag⟩ := h.ro.lv.stay Ab
 have k2 := h.bx.get (i := 2) rfl
 have k6 := h.bx.get (i := 6) rfl
 rw [er] at k2
 obtain ⟨l, hl⟩ : ∃ l, ao T (hm : Int) = l := ⟨_, rfl⟩
 rw [hl] at cl Ag
 have AD : l.length ≤ 64 := by rw [← hl]; exact cU h.pf Ab
 have Al : Hid (ao T (aj T r) = l) := hide (by rw [hh, hl])
 have As : Hid (∀ p ∈ l, cP n p) := hide fun p hp => mH h.pf Ab (by rw [hl]; exact hp)
 have At := hide Ag
 have Ar := hide Aj
 have AA := hide er
 have Ap := hide Ae
 have HR : Hid (fO T e r = if bT T r then (if ep (withE T (l.foldl (dC T (r : Int)) e) r) true hm then bJ (cu (withE T (l.foldl (dC T (r : Int)) e) r) true hm) hm else cu (withE T (l.foldl (dC T (r : Int)) e) r) true hm) else l.foldl (dC T (r : Int)) e) := hide (by unfold fO; rw [hh, hl])
 clear h Aj Ag er hh hl Ae
 go_enter Tryz.func222, Tryz.ntmps222
 go_wp2_with fail
 clear k2 k6 cl x1
 go_loopw [26] (fun x wr => ∃ k : Nat, k ≤ l.length ∧ x = .int .i64 k ∧ Hid (Eg N S A T F n ((l.take k).foldl (dC T (r : Int)) e) wr) ∧ Hid (Fr (fun k => ¬ S k) w wr)) (fun x _ => l.length - (intOf x).toNat)
 case atStart => exact ⟨0, by omega, rfl, hide Au.out, hide (Fr.refl _ _)⟩
 obtain ⟨k, hk, rfl, HEr, HFr⟩ := hrel
 by_cases hlt : k < l.length
 ·obtain ⟨p0, hp⟩ := am hlt
  obtain ⟨An, Az⟩ := As.out p0 (List.mem_of_getElem? hp)
  obtain ⟨p, rfl⟩ := Int.eq_ofNat_of_zero_le An
  have Ak : p < n := by omega
  obtain ⟨gx, ox, rfl, cx⟩ := (At.out wr (HE.out.stay HFr.out)).get hp
  have Af : Hid ((l.take (k + 1)).foldl (dC T (r : Int)) e = dC T (r : Int) ((l.take k).foldl (dC T (r : Int)) e) p) := hide (cT hp)
  generalize (l.take k).foldl (dC T (r : Int)) e = e1 at HEr Af
  obtain ⟨Ay, Aa⟩ := HEr.out
  have CC := hide (kF Aa Ak)
  have AE := Aa.bx.get (i := 16) rfl
  have c1 := Aa.ro.lx.get (i := r) (v := sl (A.cr r) l.length) (by rw [List.getElem?_map, List.getElem?_range hr, ← Al.out]; rfl)
  have c2 := (Aa.cr r hr).get (fI (k := k) (p := (p : Int)) (by rw [Al.out]; exact hp)).2
  clear hp Aa An Az
  cases hx : e1.cb r p with
  | false =>
   have HT : Hid (dC T (r : Int) e1 p = dl T (fM e1 p) p) := hide (by unfold dC; rw [hx]; rfl)
   rw [hx] at c2
   clear hx
   go_wp2_with (first | (go_at_call 212; refine CC.out.mono ?_; rintro _ w4 ⟨rfl, he, hf⟩; have CV := hide (jb (⟨_, he⟩ : Eg N S A T F n _ _) Ak); have Ac := hide hf; clear he hf) | (go_at_call 215; refine CV.out.mono ?_; rintro _ w5 ⟨rfl, he, hf⟩; have Ai := hide he; have Ah := hide (Ac.out.trans hf); clear he hf))
   go_roundw
   case rel => exact ⟨k + 1, by omega, by go_num, hide (by rw [Af.out, HT.out]; exact Ai.out), hide (HFr.out.trans Ah.out)⟩
   case measure => simp [intOf]; omega
  | true =>
   have HT : Hid (dC T (r : Int) e1 p = e1) := hide (by unfold dC; rw [hx]; rfl)
   rw [hx] at c2
   clear hx
   go_wp2_with fail
   go_roundw
   case rel => exact ⟨k + 1, by omega, by go_num, hide (by rw [Af.out, HT.out]; exact HEr.out), HFr⟩
   case measure => simp [intOf]; omega
 have HL : Hid (l.take k = l) := hide (List.take_of_length_le (by omega))
 rw [HL.out] at HEr
 generalize l.foldl (dC T (r : Int)) e = e1 at *
 obtain ⟨Ay, Aa⟩ := HEr.out
 obtain ⟨y0, y1, y2⟩ := Ar.out wr (HE.out.stay HFr.out)
 have k2 := Aa.bx.get (i := 2) rfl
 rw [AA.out] at k2
 have CT := hide (fh (w := wr) (k := kd) (h := (hm : Int)) (v := bv))
 cases htm : bT T r with
 | false =>
  have Ad : (!decide (kd = 3)) = false := by rw [← Ap.out]; exact htm
  rw [Ad] at CT
  have HT : Hid (fO T e r = e1) := hide (by rw [HR.out, htm]; rfl)
  clear htm Ad Aa
  go_wp2_with (go_at_call 176; refine CT.out.mono ?_; rintro _ w2 ⟨rfl, hb⟩; have HB := hide hb; clear hb)
  go_end0
  exact ⟨rfl, by rw [HT.out]; exact HEr.out.go HB.out, HFr.out.trans (Fr.of_below HB.out)⟩
 | true =>
  have Ad : (!decide (kd = 3)) = true := by rw [← Ap.out]; exact htm
  rw [Ad] at CT
  have Ax := hide htm
  have Am : Hid (fO T e r = if ep (withE T e1 r) true hm then bJ (cu (withE T e1 r) true hm) hm else cu (withE T e1 r) true hm) := hide (by rw [HR.out, htm]; rfl)
  clear htm Ad Aa
  go_upto_region 10 with (first | (go_at_call 176; refine CT.out.mono ?_; rintro _ w2 ⟨rfl, hb⟩; have HB := hide hb; have CD := hide (qa (HEr.out.go hb) hr Ax.out); clear hb) | (go_at_call 238; refine CD.out.mono ?_; rintro _ w3 ⟨rfl, he, hf⟩; have Aw := hide he; have Aq := hide ((HFr.out.trans (Fr.of_below HB.out)).trans hf); clear he hf))
  clear k2 y0 y1 y2 CT CD
  generalize withE T e1 r = e2 at *
  obtain ⟨AB, Ao⟩ := Aw.out
  have CX := hide (rh Ao Ab)
  clear Ao
  cases hx : ep e2 true hm with
  | true =>
   have HT : Hid (fO T e r = bJ (cu e2 true hm) hm) := hide (by rw [Am.out, hx]; rfl)
   rw [hx] at CX
   clear hx
   go_wp2_with (first | (go_at_call 220; refine CX.out.mono ?_; rintro _ w4 ⟨rfl, he, hf⟩; have CL := hide (fD (⟨_, he⟩ : Eg N S A T F n _ _) Ab); have Ac := hide hf; clear he hf) | (go_at_call 218; refine CL.out.mono ?_; rintro _ w5 ⟨rfl, he, hf⟩; have Ai := hide he; have Ah := hide (Ac.out.trans hf); clear he hf))
   go_end0
   exact ⟨rfl, by rw [HT.out]; exact Ai.out, Aq.out.trans Ah.out⟩
  | false =>
   have HT : Hid (fO T e r = cu e2 true hm) := hide (by rw [Am.out, hx]; rfl)
   rw [hx] at CX
   clear hx
   go_wp2_with (go_at_call 220; refine CX.out.mono ?_; rintro _ w4 ⟨rfl, he, hf⟩; have Av := hide he; have Ac := hide hf; clear he hf)
   go_end0
   exact ⟨rfl, by rw [HT.out]; exact ⟨_, Av.out⟩, Aq.out.trans Ac.out⟩
end
set_option maxRecDepth 100000
set_option maxHeartbeats 6400000
section
variable {N : Nat} {S : Nat → Prop} {A : Ad} {T : Th} {F : List Int} {n : Nat} {e : Es} {tv : Value} {w w' : World}
theorem yW {p : RuleM → Bool} {k : Nat} {z x : Int} (h : x ∈ dN T p k z) : 0 ≤ x ∧ x < (k : Int) := by
 unfold dN at h
 obtain ⟨a, ha, rfl⟩ := List.mem_map.1 h
 have := List.mem_range.1 (List.mem_filter.1 ha).1
 exact ⟨Int.natCast_nonneg _, by show (a : Int) < k; omega⟩
theorem yo {p : RuleM → Bool} {k : Nat} {z : Int} : (dN T p k z).length ≤ k := by
 unfold dN
 rw [List.length_map]
 exact Nat.le_trans (List.length_filter_le _ _) (by simp)
theorem jD (h : En N S A T F n e tv w) (b : Bool) {q : Nat} (hq : q < n) : ∃ l a c, iE T b q = l ∧ l.length ≤ 4096 ∧ (∀ x ∈ l, ∃ r : Nat, x = (r : Int) ∧ r < T.rules.length) ∧ w.cell? ⟨A.us b, q, none⟩ = some (.slice a l.length c) ∧ ∀ w' : World, (∀ k, S k → w'.heap[k]? = w.heap[k]?) → At1 w' a (aq l) := by
 obtain ⟨a, c, h1, h2⟩ := (h.ro.lu b).stay hq
 have Aa := h.pf.ok.rl
 refine ⟨_, a, c, rfl, Nat.le_trans yo Aa, fun x hx => ?_, h1, h2⟩
 obtain ⟨x0, x1⟩ := yW hx
 obtain ⟨r, rfl⟩ := Int.eq_ofNat_of_zero_le x0
 exact ⟨r, rfl, by omega⟩
theorem ub (h : En N S A T F n e tv w) {q : Nat} (hq : q < n) : ∃ l a c g o, row T.foes q = l ∧ A.fa = some ⟨g, o, none⟩ ∧ q < T.foes.length ∧ l.length ≤ 64 ∧ (∀ x ∈ l, cP n x) ∧ (∀ w' : World, (∀ k, S k → w'.heap[k]? = w.heap[k]?) → w'.cell? ⟨g, o + q, none⟩ = some (.slice a l.length c) ∧ At1 w' a (aq l)) := by
 obtain ⟨l, hl⟩ := am (l := T.foes) (i := q) (by have := h.pf.ok.fl; have := h.pf.ln; omega)
 have er : row T.foes (q : Int) = l := bn (by rw [Int.toNat_natCast]; exact hl)
 obtain ⟨g, o, a2, c2, e1, hg, hc, -, -, hI⟩ := bH h.ro.ta.foes hl
 exact ⟨l, a2, c2, g, o, er, e1, (List.getElem?_eq_some_iff.1 hl).1, by rw [← er]; exact (gG h.pf hq).2, fun x hx => h.pf.foe q hq x (by rw [er]; exact hx), fun w' hk => ⟨by rw [World.cell?_of_block (hk g (h.ro.n0 g hg)), hc], (Ints.keep (fun g hg => hk g (h.ro.n0 g hg)) hI).at1⟩⟩
theorem ud {q : Nat} (h : Eg N S A T F n e w) (hq : q < n) :
    Calls Tryz.prog 183 #[aa A.K, .int .i64 q] w fun o w' => o = .returned (.tuple #[]) ∧ Eg N S A T F n (kO T e q) w' ∧ Fr (fun k => ¬ S k) w w' := by
 have Ai := hide h
 obtain ⟨tv, h⟩ := h
 have HE := hide h
 have Ao : T.rules.length ≤ 4096 := h.pf.ok.rl
 have Ag := h.bx.get (i := 12) rfl
 obtain ⟨l, la, lc, el, Ap, Ad, cl, Ae⟩ := jD h true hq
 have Ak := hide Ad
 have Al := hide Ae
 have HR : Hid (kO T e q = l.foldl (d7 T) e) := hide (by unfold kO; rw [el])
 clear h Ad Ae el
 go_enter Tryz.func183, Tryz.ntmps183
 go_wp2_with fail
 clear Ag cl
 go_loopw [15] (fun x wr => ∃ k : Nat, k ≤ l.length ∧ x = .int .i64 k ∧ Hid (Eg N S A T F n ((l.take k).foldl (d7 T) e) wr) ∧ Hid (Fr (fun k => ¬ S k) w wr)) (fun x _ => l.length - (intOf x).toNat)
 case atStart => exact ⟨0, by omega, rfl, hide Ai.out, hide (Fr.refl _ _)⟩
 obtain ⟨k, hk, rfl, HEr, HFr⟩ := hrel
 by_cases hlt : k < l.length
 ·obtain ⟨r0, hr⟩ := am hlt
  obtain ⟨r, rfl, Af⟩ := Ak.out r0 (List.mem_of_getElem? hr)
  obtain ⟨gx, ox, rfl, cx⟩ := (Al.out wr (HE.out.stay HFr.out)).get hr
  have Aa : Hid ((l.take (k + 1)).foldl (d7 T) e = d7 T ((l.take k).foldl (d7 T) e) r) := hide (cT hr)
  clear hr
  generalize (l.take k).foldl (d7 T) e = e1 at HEr Aa
  obtain ⟨An, Ac⟩ := HEr.out
  have CM := hide (wg Ac Af)
  clear Ac
  by_cases hx : (du e1 true r).ms true r = 0
  ·have HT : Hid (d7 T e1 r = ik T (du e1 true r) r) := hide (by unfold d7; exact if_pos hx)
   rw [decide_eq_true hx] at CM
   clear hx
   go_wp2_with (first | (go_at_call 217; refine CM.out.mono ?_; rintro _ w4 ⟨rfl, he, hf⟩; have CV := hide (yi (⟨_, he⟩ : Eg N S A T F n _ _) Af); have Ab := hide hf; clear he hf) | (go_at_call 221; refine CV.out.mono ?_; rintro _ w5 ⟨rfl, he, hf⟩; have Aj := hide he; have Ah := hide (Ab.out.trans hf); clear he hf))
   go_roundw
   case rel => exact ⟨k + 1, by omega, by go_num, hide (by rw [Aa.out, HT.out]; exact Aj.out), hide (HFr.out.trans Ah.out)⟩
   case measure => simp [intOf]; omega
  have HT : Hid (d7 T e1 r = du e1 true r) := hide (by unfold d7; exact if_neg hx)
  rw [decide_eq_false hx] at CM
  clear hx
  go_wp2_with (go_at_call 217; refine CM.out.mono ?_; rintro _ w4 ⟨rfl, he, hf⟩; have Am := hide he; have Ab := hide hf; clear he hf)
  go_roundw
  case rel => exact ⟨k + 1, by omega, by go_num, hide (by rw [Aa.out, HT.out]; exact ⟨_, Am.out⟩), hide (HFr.out.trans Ab.out)⟩
  case measure => simp [intOf]; omega
 have HL : Hid (l.take k = l) := hide (List.take_of_length_le (by omega))
 go_wp2_with fail
 go_end0
 exact ⟨rfl, by rw [HR.out]; have := HEr.out; rw [HL.out] at this; exact this, HFr.out⟩
theorem sy {q : Nat} (h : Eg N S A T F n e w) (hq : q < n) :
    Calls Tryz.prog 184 #[aa A.K, .int .i64 q] w fun o w' => o = .returned (.tuple #[]) ∧ Eg N S A T F n (jv T e q) w' ∧ Fr (fun k => ¬ S k) w w' := by
 have Ai := hide h
 obtain ⟨tv, h⟩ := h
 have HE := hide h
 have Ao : T.rules.length ≤ 4096 := h.pf.ok.rl
 have Ag := h.bx.get (i := 12) rfl
 obtain ⟨l, la, lc, el, Ap, Ad, cl, Ae⟩ := jD h true hq
 have Ak := hide Ad
 have Al := hide Ae
 have HR : Hid (jv T e q = l.foldl (dv T) e) := hide (by unfold jv; rw [el])
 clear h Ad Ae el
 go_enter Tryz.func184, Tryz.ntmps184
 go_wp2_with fail
 clear Ag cl
 go_loopw [15] (fun x wr => ∃ k : Nat, k ≤ l.length ∧ x = .int .i64 k ∧ Hid (Eg N S A T F n ((l.take k).foldl (dv T) e) wr) ∧ Hid (Fr (fun k => ¬ S k) w wr)) (fun x _ => l.length - (intOf x).toNat)
 case atStart => exact ⟨0, by omega, rfl, hide Ai.out, hide (Fr.refl _ _)⟩
 obtain ⟨k, hk, rfl, HEr, HFr⟩ := hrel
 by_cases hlt : k < l.length
 ·obtain ⟨r0, hr⟩ := am hlt
  obtain ⟨r, rfl, Af⟩ := Ak.out r0 (List.mem_of_getElem? hr)
  obtain ⟨gx, ox, rfl, cx⟩ := (Al.out wr (HE.out.stay HFr.out)).get hr
  have Aa : Hid ((l.take (k + 1)).foldl (dv T) e = dv T ((l.take k).foldl (dv T) e) r) := hide (cT hr)
  clear hr
  generalize (l.take k).foldl (dv T) e = e1 at HEr Aa
  obtain ⟨An, Ac⟩ := HEr.out
  have CM := hide (re Ac Af)
  clear Ac
  cases hx : e1.rf true r with
  | false =>
   have HT : Hid (dv T e1 r = fO T (refE e1 true r) r) := hide (by unfold dv; rw [hx]; rfl)
   rw [hx] at CM
   clear hx
   go_wp2_with (first | (go_at_call 219; refine CM.out.mono ?_; rintro _ w4 ⟨rfl, he, hf⟩; have CV := hide (vY (⟨_, he⟩ : Eg N S A T F n _ _) Af); have Ab := hide hf; clear he hf) | (go_at_call 222; refine CV.out.mono ?_; rintro _ w5 ⟨rfl, he, hf⟩; have Aj := hide he; have Ah := hide (Ab.out.trans hf); clear he hf))
   go_roundw
   case rel => exact ⟨k + 1, by omega, by go_num, hide (by rw [Aa.out, HT.out]; exact Aj.out), hide (HFr.out.trans Ah.out)⟩
   case measure => simp [intOf]; omega
  | true =>
   have HT : Hid (dv T e1 r = e1 ∧ refE e1 true r = e1) := hide ⟨by unfold dv; rw [hx]; rfl, by unfold refE; rw [hx]; rfl⟩
   rw [hx] at CM
   clear hx
   go_wp2_with (go_at_call 219; refine CM.out.mono ?_; rintro _ w4 ⟨rfl, he, hf⟩; have Am := hide he; have Ab := hide hf; clear he hf)
   go_roundw
   case rel => exact ⟨k + 1, by omega, by go_num, hide (by rw [Aa.out, HT.out.1]; have := Am.out; rw [HT.out.2] at this; exact ⟨_, this⟩), hide (HFr.out.trans Ab.out)⟩
   case measure => simp [intOf]; omega
 have HL : Hid (l.take k = l) := hide (List.take_of_length_le (by omega))
 go_wp2_with fail
 go_end0
 exact ⟨rfl, by rw [HR.out]; have := HEr.out; rw [HL.out] at this; exact this, HFr.out⟩
theorem tL {q : Nat} (h : Eg N S A T F n e w) (hq : q < n) :
    Calls Tryz.prog 181 #[aa A.K, .int .i64 q] w fun o w' => o = .returned (.tuple #[]) ∧ Eg N S A T F n (kQ T e q) w' ∧ Fr (fun k => ¬ S k) w w' := by
 have CT := hide (dh h hq tag3)
 obtain ⟨tv, h⟩ := h
 have HE := hide h
 have AF : T.rules.length ≤ 4096 := h.pf.ok.rl
 obtain ⟨l, la, lc, el, AG, Aj, cl, Ak⟩ := jD h false hq
 obtain ⟨fl, fa, fc, gf, of, ef, Am, AJ, AE, Af, Ah⟩ := ub h hq
 have At := hide Aj
 have Ax := hide Ak
 have Aq := hide Af
 have Ac := hide Ah
 have Au := hide Am
 have Aw := hide fun (r : Nat) (hr : r < T.rules.length) => iZ h hr
 have Av : Hid (∀ w' : World, (∀ k, S k → w'.heap[k]? = w.heap[k]?) → w'.cell? ⟨A.us false, q, none⟩ = some (.slice la l.length lc)) := hide fun w' hk => by rw [World.cell?_of_block (hk _ (h.ro.lu false).1), cl]
 have HR : Hid (kQ T e q = fl.foldl bJ (l.foldl (dQ T) (tell e q 3))) := hide (by unfold kQ; rw [el, ef])
 clear h Aj Ak el Af Ah ef Am cl
 go_enter Tryz.func181, Tryz.ntmps181
 go_upto_region 1 with (go_at_call 213; refine CT.out.mono ?_; rintro _ w2 ⟨rfl, he, hf⟩; have Al := hide he; have Ap := hide hf; clear he hf)
 clear CT
 generalize tell e q 3 = e0 at *
 have c8 : w2.cell? ⟨A.K, 8, none⟩ = some (sl (A.us false) n) := by obtain ⟨Az, h2⟩ := Al.out; exact h2.bx.get (i := 8) rfl
 have cl := Av.out w2 (HE.out.stay Ap.out)
 go_wp2_with fail
 clear c8 cl
 go_loopw [20] (fun x wr => ∃ k : Nat, k ≤ l.length ∧ x = .int .i64 k ∧ Hid (Eg N S A T F n ((l.take k).foldl (dQ T) e0) wr) ∧ Hid (Fr (fun k => ¬ S k) w wr)) (fun x _ => l.length - (intOf x).toNat)
 case atStart => exact ⟨0, by omega, rfl, hide Al.out, Ap⟩
 obtain ⟨k, hk, rfl, HEr, HFr⟩ := hrel
 by_cases hlt : k < l.length
 ·obtain ⟨r0, hr⟩ := am hlt
  obtain ⟨r, rfl, An⟩ := At.out r0 (List.mem_of_getElem? hr)
  obtain ⟨gx, ox, rfl, cx⟩ := (Ax.out wr (HE.out.stay HFr.out)).get hr
  have Aa : Hid ((l.take (k + 1)).foldl (dQ T) e0 = dQ T ((l.take k).foldl (dQ T) e0) r) := hide (cT hr)
  clear hr
  generalize (l.take k).foldl (dQ T) e0 = e1 at HEr Aa
  obtain ⟨AH, Ai⟩ := HEr.out
  have CM := hide (wl Ai An)
  clear Ai
  by_cases hx : (du e1 false r).ms false r = 0
  ·obtain ⟨hm, gr, go, hh, Ay, er, Ao⟩ := Aw.out r An
   have HT : Hid (dQ T e1 r = tell (du e1 false r) hm 1) := hide (by unfold dQ; rw [hh]; exact if_pos hx)
   rw [decide_eq_true hx] at CM
   have As := hide Ao
   have AC := hide er
   clear hx Ao er hh
   go_upto_region 5 with (go_at_call 217; refine CM.out.mono ?_; rintro _ w4 ⟨rfl, he, hf⟩; have Ad := hide he; have CV := hide (dh (⟨_, he⟩ : Eg N S A T F n _ _) Ay tag1); have Ab := hide hf; clear he hf)
   have c2 := Ad.out.bx.get (i := 2) rfl
   rw [AC.out] at c2
   have x1 := As.out w4 (HE.out.stay (HFr.out.trans Ab.out))
   go_wp2_with (go_at_call 213; refine CV.out.mono ?_; rintro _ w5 ⟨rfl, he, hf⟩; have Ag := hide he; have Ae := hide (Ab.out.trans hf); clear he hf)
   go_roundw
   case rel => exact ⟨k + 1, by omega, by go_num, hide (by rw [Aa.out, HT.out]; exact Ag.out), hide (HFr.out.trans Ae.out)⟩
   case measure => simp [intOf]; omega
  have HT : Hid (dQ T e1 r = du e1 false r) := hide (by unfold dQ; exact if_neg hx)
  rw [decide_eq_false hx] at CM
  clear hx
  go_wp2_with (go_at_call 217; refine CM.out.mono ?_; rintro _ w4 ⟨rfl, he, hf⟩; have Ad := hide he; have Ab := hide hf; clear he hf)
  go_roundw
  case rel => exact ⟨k + 1, by omega, by go_num, hide (by rw [Aa.out, HT.out]; exact ⟨_, Ad.out⟩), hide (HFr.out.trans Ab.out)⟩
  case measure => simp [intOf]; omega
 have HL : Hid (l.take k = l) := hide (List.take_of_length_le (by omega))
 rw [HL.out] at HEr
 generalize l.foldl (dQ T) e0 = e1 at *
 have c1 : wr.cell? ⟨A.K, 1, none⟩ = some (.slice (some ⟨gf, of, none⟩) T.foes.length A.fc) := by obtain ⟨Az, h2⟩ := HEr.out; rw [← Au.out]; exact h2.bx.get (i := 1) rfl
 obtain ⟨cf, -⟩ := Ac.out wr (HE.out.stay HFr.out)
 go_wp2_with fail
 clear c1 cf
 have Ar := hide HEr.out
 have AA := hide HFr.out
 clear HEr HFr
 go_loopw [53] (fun x wz => ∃ j : Nat, j ≤ fl.length ∧ x = .int .i64 j ∧ Hid (Eg N S A T F n ((fl.take j).foldl bJ e1) wz) ∧ Hid (Fr (fun k => ¬ S k) w wz)) (fun x _ => fl.length - (intOf x).toNat)
 case atStart => exact ⟨0, by omega, rfl, hide Ar.out, AA⟩
 rename World => wz
 obtain ⟨j, hj, rfl, HEr, HFr⟩ := hrel
 by_cases hjl : j < fl.length
 ·obtain ⟨p0, hp⟩ := am hjl
  obtain ⟨AB, AI⟩ := Aq.out p0 (List.mem_of_getElem? hp)
  obtain ⟨p, rfl⟩ := Int.eq_ofNat_of_zero_le AB
  obtain ⟨gx, ox, rfl, cx⟩ := (Ac.out wz (HE.out.stay HFr.out)).2.get hp
  have Aa : Hid ((fl.take (j + 1)).foldl bJ e1 = bJ ((fl.take j).foldl bJ e1) p) := hide (cT hp)
  have CL := hide (fD HEr.out (show p < n by omega))
  clear hp
  go_wp2_with (go_at_call 218; refine CL.out.mono ?_; rintro _ w5 ⟨rfl, he, hf⟩; have Ag := hide he; have Ae := hide hf; clear he hf)
  go_roundw
  case rel => exact ⟨j + 1, by omega, by go_num, hide (by rw [Aa.out]; exact Ag.out), hide (HFr.out.trans Ae.out)⟩
  case measure => simp [intOf]; omega
 have AD : Hid (fl.take j = fl) := hide (List.take_of_length_le (by omega))
 go_wp2_with fail
 go_end0
 exact ⟨rfl, by rw [HR.out]; have := HEr.out; rw [AD.out] at this; exact this, HFr.out⟩
end
set_option maxRecDepth 100000
set_option maxHeartbeats 6400000
section
variable {N : Nat} {S : Nat → Prop} {A : Ad} {T : Th} {F : List Int} {n : Nat} {e : Es} {tv : Value} {w w' : World}
theorem sH {e : Es} {r hm : Int} (hh : aj T r = hm) : bX T e r = if e.rf false r then e else if ep (refE e false r) false hm then tell (cu (refE e false r) false hm) hm 2 else cu (refE e false r) false hm := by unfold bX; rw [hh]
theorem te {q : Nat} (h : Eg N S A T F n e w) (hq : q < n) :
    Calls Tryz.prog 182 #[aa A.K, .int .i64 q] w fun o w' => o = .returned (.tuple #[]) ∧ Eg N S A T F n (gp T F e q) w' ∧ Fr (fun k => ¬ S k) w w' := by
 have Aw := hide h
 obtain ⟨tv, h⟩ := h
 have HE := hide h
 have AG : T.rules.length ≤ 4096 := h.pf.ok.rl
 have k8 := h.bx.get (i := 8) rfl
 obtain ⟨l, la, lc, el, AH, Aj, cl, Ak⟩ := jD h false hq
 obtain ⟨va, vc, cv, Ag⟩ := h.ro.lv.stay hq
 obtain ⟨vl, Af⟩ : ∃ vl, ao T (q : Int) = vl := ⟨_, rfl⟩
 rw [Af] at cv Ag
 have AE : vl.length ≤ 64 := by rw [← Af]; exact cU h.pf hq
 have Aq : Hid (∀ p ∈ vl, cP n p) := hide fun p hp => mH h.pf hq (by rw [Af]; exact hp)
 have Ap := hide Ag
 have Av : Hid (∀ w' : World, (∀ k, S k → w'.heap[k]? = w.heap[k]?) → w'.cell? ⟨A.rv, q, none⟩ = some (.slice va vl.length vc)) := hide fun w' hk => by rw [World.cell?_of_block (hk _ h.ro.lv.1), cv]
 have As := hide Aj
 have Au := hide Ak
 have At := hide fun (r : Nat) (hr : r < T.rules.length) => iZ h hr
 have HR : Hid (gp T F e q = aW T (if bI T F q then vl.foldl (lY T) (l.foldl (bX T) e) else l.foldl (bX T) e) q) := hide (by unfold gp; rw [el, Af])
 clear h Aj Ak el Ag Af cv
 go_enter Tryz.func182, Tryz.ntmps182
 go_wp2_with fail
 clear k8 cl
 go_loopw [18] (fun x wr => ∃ k : Nat, k ≤ l.length ∧ x = .int .i64 k ∧ Hid (Eg N S A T F n ((l.take k).foldl (bX T) e) wr) ∧ Hid (Fr (fun k => ¬ S k) w wr)) (fun x _ => l.length - (intOf x).toNat)
 case atStart => exact ⟨0, by omega, rfl, hide Aw.out, hide (Fr.refl _ _)⟩
 obtain ⟨k, hk, rfl, HEr, HFr⟩ := hrel
 by_cases hlt : k < l.length
 ·obtain ⟨r0, hr⟩ := am hlt
  obtain ⟨r, rfl, An⟩ := As.out r0 (List.mem_of_getElem? hr)
  obtain ⟨gx, ox, rfl, cx⟩ := (Au.out wr (HE.out.stay HFr.out)).get hr
  have Ae : Hid ((l.take (k + 1)).foldl (bX T) e = bX T ((l.take k).foldl (bX T) e) r) := hide (cT hr)
  clear hr
  generalize (l.take k).foldl (bX T) e = e1 at HEr Ae
  obtain ⟨AB, Ab⟩ := HEr.out
  have CM := hide (rA Ab An)
  obtain ⟨hm, gr, go, hh, Ah, er, Ao⟩ := At.out r An
  have c2 := Ab.bx.get (i := 2) rfl
  rw [er] at c2
  have x1 := Ao wr (HE.out.stay HFr.out)
  have Ai := hide (sH (e := e1) hh)
  clear Ab Ao er hh
  cases hx : e1.rf false r with
  | true =>
   have HT : Hid (bX T e1 r = e1 ∧ refE e1 false r = e1) := hide ⟨by rw [Ai.out, hx]; rfl, by unfold refE; rw [hx]; rfl⟩
   rw [hx] at CM
   clear hx
   go_wp2_with (go_at_call 219; refine CM.out.mono ?_; rintro _ w4 ⟨rfl, he, hf⟩; have Ax := hide he; have Ac := hide hf; clear he hf)
   go_roundw
   case rel => exact ⟨k + 1, by omega, by go_num, hide (by rw [Ae.out, HT.out.1]; have := Ax.out; rw [HT.out.2] at this; exact ⟨_, this⟩), hide (HFr.out.trans Ac.out)⟩
   case measure => simp [intOf]; omega
  | false =>
   have Am : Hid (bX T e1 r = if ep (refE e1 false r) false hm then tell (cu (refE e1 false r) false hm) hm 2 else cu (refE e1 false r) false hm) := hide (by rw [Ai.out, hx]; rfl)
   rw [hx] at CM
   clear hx Ai
   generalize refE e1 false r = e2 at *
   cases hc : ep e2 false hm with
   | true =>
    have HT : Hid (bX T e1 r = tell (cu e2 false hm) hm 2) := hide (by rw [Am.out, hc]; rfl)
    have HC := hide hc
    clear hc
    go_wp2_with (first | (go_at_call 219; refine CM.out.mono ?_; rintro _ w4 ⟨rfl, he, hf⟩; have CX := hide (lV he Ah); rw [HC.out] at CX; have Ac := hide hf; clear he hf) | (go_at_call 220; refine CX.out.mono ?_; rintro _ w5 ⟨rfl, he, hf⟩; have CV := hide (dh (⟨_, he⟩ : Eg N S A T F n _ _) Ah tag2); have Aa := hide (Ac.out.trans hf); clear he hf) | (go_at_call 213; refine CV.out.mono ?_; rintro _ w6 ⟨rfl, he, hf⟩; have AD := hide he; have Ay := hide (Aa.out.trans hf); clear he hf))
    go_roundw
    case rel => exact ⟨k + 1, by omega, by go_num, hide (by rw [Ae.out, HT.out]; exact AD.out), hide (HFr.out.trans Ay.out)⟩
    case measure => simp [intOf]; omega
   | false =>
    have HT : Hid (bX T e1 r = cu e2 false hm) := hide (by rw [Am.out, hc]; rfl)
    have HC := hide hc
    clear hc
    go_wp2_with (first | (go_at_call 219; refine CM.out.mono ?_; rintro _ w4 ⟨rfl, he, hf⟩; have CX := hide (lV he Ah); rw [HC.out] at CX; have Ac := hide hf; clear he hf) | (go_at_call 220; refine CX.out.mono ?_; rintro _ w5 ⟨rfl, he, hf⟩; have Ad := hide he; have Aa := hide (Ac.out.trans hf); clear he hf))
    go_roundw
    case rel => exact ⟨k + 1, by omega, by go_num, hide (by rw [Ae.out, HT.out]; exact ⟨_, Ad.out⟩), hide (HFr.out.trans Aa.out)⟩
    case measure => simp [intOf]; omega
 have HL : Hid (l.take k = l) := hide (List.take_of_length_le (by omega))
 rw [HL.out] at HEr
 generalize l.foldl (bX T) e = e1 at *
 obtain ⟨AB, Ab⟩ := HEr.out
 have c7 := Ab.bx.get (i := 7) rfl
 have cf := Ab.ro.lf.get (dy hq)
 have c6 := Ab.bx.get (i := 6) rfl
 have cv := Av.out wr (HE.out.stay HFr.out)
 clear Ab
 cases hfm : bI T F q with
 | false =>
  have HT : Hid (gp T F e q = aW T e1 q) := hide (by rw [HR.out, hfm]; rfl)
  rw [hfm] at cf
  have CD := hide (ga HEr.out hq)
  clear hfm
  go_wp2_with (go_at_call 216; refine CD.out.mono ?_; rintro _ w5 ⟨rfl, he, hf⟩; have Ad := hide he; have Aa := hide hf; clear he hf)
  go_end0
  exact ⟨rfl, by rw [HT.out]; exact Ad.out, HFr.out.trans Aa.out⟩
 | true =>
  have HT : Hid (gp T F e q = aW T (vl.foldl (lY T) e1) q) := hide (by rw [HR.out, hfm]; rfl)
  rw [hfm] at cf
  clear hfm
  go_wp2_with fail
  clear c7 cf c6 cv
  have Ar := hide HEr.out
  have Az := hide HFr.out
  clear HEr HFr
  go_loopw [67] (fun x wz => ∃ j : Nat, j ≤ vl.length ∧ x = .int .i64 j ∧ Hid (Eg N S A T F n ((vl.take j).foldl (lY T) e1) wz) ∧ Hid (Fr (fun k => ¬ S k) w wz)) (fun x _ => vl.length - (intOf x).toNat)
  case atStart => exact ⟨0, by omega, rfl, hide Ar.out, Az⟩
  rename World => wz
  obtain ⟨j, hj, rfl, HEr, HFr⟩ := hrel
  by_cases hjl : j < vl.length
  ·obtain ⟨p0, hp⟩ := am hjl
   obtain ⟨AA, AI⟩ := Aq.out p0 (List.mem_of_getElem? hp)
   obtain ⟨p, rfl⟩ := Int.eq_ofNat_of_zero_le AA
   have Al : p < n := by omega
   obtain ⟨gx, ox, rfl, cx⟩ := (Ap.out wz (HE.out.stay HFr.out)).get hp
   have Ae : Hid ((vl.take (j + 1)).foldl (lY T) e1 = dl T (fM ((vl.take j).foldl (lY T) e1) p) p) := hide (cT hp)
   obtain ⟨AF, h3⟩ := HEr.out
   have CC := hide (kF h3 Al)
   clear hp h3
   go_wp2_with (first | (go_at_call 212; refine CC.out.mono ?_; rintro _ w4 ⟨rfl, he, hf⟩; have CV := hide (jb (⟨_, he⟩ : Eg N S A T F n _ _) Al); have Ac := hide hf; clear he hf) | (go_at_call 215; refine CV.out.mono ?_; rintro _ w5 ⟨rfl, he, hf⟩; have Ad := hide he; have Aa := hide (Ac.out.trans hf); clear he hf))
   go_roundw
   case rel => exact ⟨j + 1, by omega, by go_num, hide (by rw [Ae.out]; exact Ad.out), hide (HFr.out.trans Aa.out)⟩
   case measure => simp [intOf]; omega
  have AC : Hid (vl.take j = vl) := hide (List.take_of_length_le (by omega))
  rw [AC.out] at HEr
  have CD := hide (ga HEr.out hq)
  go_wp2_with (go_at_call 216; refine CD.out.mono ?_; rintro _ w5 ⟨rfl, he, hf⟩; have Ad := hide he; have Aa := hide hf; clear he hf)
  go_end0
  exact ⟨rfl, by rw [HT.out]; exact Ad.out, HFr.out.trans Aa.out⟩
theorem jO {f : Es → Nat → Es} {e : Es} {k : Nat} : (List.range (k + 1)).foldl f e = f ((List.range k).foldl f e) k := by rw [List.range_succ, List.foldl_append]; rfl
theorem tD (h : Eg N S A T F n e w) :
    Calls Tryz.prog 180 #[aa A.K] w fun o w' => o = .returned (.tuple #[]) ∧ Eg N S A T F n (beginE T F n e) w' ∧ Fr (fun k => ¬ S k) w w' := by
 have Al := hide h
 obtain ⟨tv, h⟩ := h
 have HE := hide h
 have Aq := h.pf.n4
 have k7 := h.bx.get (i := 7) rfl
 clear h
 go_enter Tryz.func180, Tryz.ntmps180
 go_wp2_with fail
 clear k7
 go_loopw [11] (fun x wr => ∃ k : Nat, k ≤ n ∧ x = .int .i64 k ∧ Hid (Eg N S A T F n ((List.range k).foldl (fV T F) e) wr) ∧ Hid (Fr (fun k => ¬ S k) w wr)) (fun x _ => n - (intOf x).toNat)
 case atStart => exact ⟨0, by omega, rfl, hide Al.out, hide (Fr.refl _ _)⟩
 obtain ⟨k, hk, rfl, HEr, HFr⟩ := hrel
 by_cases hlt : k < n
 ·have Ab : Hid ((List.range (k + 1)).foldl (fV T F) e = fV T F ((List.range k).foldl (fV T F) e) k) := hide jO
  generalize (List.range k).foldl (fV T F) e = e1 at HEr Ab
  have C2 := hide (dh HEr.out hlt tag2)
  have C1 := hide (dh HEr.out hlt tag1)
  obtain ⟨Aj, Aa⟩ := HEr.out
  have cf := Aa.ro.lf.get (dy hlt)
  have Ar := Aa.bx.get (i := 11) rfl
  have co := (Aa.op false).get (aY hlt)
  clear Aa
  cases hfm : bI T F k with
  | false =>
   rw [hfm] at cf
   have HT : Hid (fV T F e1 k = tell e1 k 2) := hide (by unfold fV; rw [hfm]; rfl)
   clear hfm
   go_wp2_with (go_at_call 213; refine C2.out.mono ?_; rintro _ w5 ⟨rfl, he, hf⟩; have Ae := hide he; have Ac := hide hf; clear he hf)
   go_roundw
   case rel => exact ⟨k + 1, by omega, by go_num, hide (by rw [Ab.out, HT.out]; exact Ae.out), hide (HFr.out.trans Ac.out)⟩
   case measure => simp [intOf]; omega
  | true =>
   rw [hfm] at cf
   by_cases hx : e1.op false k = 0
   ·have HT : Hid (fV T F e1 k = tell e1 k 1) := hide (by unfold fV; rw [hfm]; exact if_pos hx)
    have Af : (e1.op false k == 0) = true := by simpa using hx
    generalize e1.op false k = x at co Af
    clear hfm hx
    go_wp2_with (go_at_call 213; refine C1.out.mono ?_; rintro _ w5 ⟨rfl, he, hf⟩; have Ae := hide he; have Ac := hide hf; clear he hf)
    go_roundw
    case rel => exact ⟨k + 1, by omega, by go_num, hide (by rw [Ab.out, HT.out]; exact Ae.out), hide (HFr.out.trans Ac.out)⟩
    case measure => simp [intOf]; omega
   have HT : Hid (fV T F e1 k = e1) := hide (by unfold fV; rw [hfm]; exact if_neg hx)
   have Af : (e1.op false k == 0) = false := by simpa using hx
   generalize e1.op false k = x at co Af
   clear hfm hx
   go_wp2_with fail
   go_roundw
   case rel => exact ⟨k + 1, by omega, by go_num, hide (by rw [Ab.out, HT.out]; exact HEr.out), HFr⟩
   case measure => simp [intOf]; omega
 have Ai : k = n := by omega
 have HR : Hid (beginE T F n e = (List.range n).foldl (iF T) ((List.range k).foldl (fV T F) e)) := hide (by rw [Ai]; rfl)
 clear Ai
 generalize (List.range k).foldl (fV T F) e = e1 at *
 have Ak : wr.cell? ⟨A.K, 18, none⟩ = some (sl A.mq n) := by obtain ⟨Aj, Aa⟩ := HEr.out; exact Aa.bx.get (i := 18) rfl
 go_wp2_with fail
 clear Ak
 have An := hide HEr.out
 have Ap := hide HFr.out
 clear HEr HFr
 go_loopw [41] (fun x wz => ∃ j : Nat, j ≤ n ∧ x = .int .i64 j ∧ Hid (Eg N S A T F n ((List.range j).foldl (iF T) e1) wz) ∧ Hid (Fr (fun k => ¬ S k) w wz)) (fun x _ => n - (intOf x).toNat)
 case atStart => exact ⟨0, by omega, rfl, hide An.out, Ap⟩
 rename World => wz
 obtain ⟨j, hj, rfl, HEr, HFr⟩ := hrel
 by_cases hjl : j < n
 ·have Ab : Hid ((List.range (j + 1)).foldl (iF T) e1 = iF T ((List.range j).foldl (iF T) e1) j) := hide jO
  generalize (List.range j).foldl (iF T) e1 = e2 at HEr Ab
  have CH : Hid (Calls Tryz.prog 214 #[aa A.K, .int .i64 j, .int .i64 1] wz fun r w' => r = .returned (.bool (has e2 j 1)) ∧ Below wz.heap.size wz w') := hide (by obtain ⟨Aj, Aa⟩ := HEr.out; exact dc Aa hjl tag1)
  cases hh : has e2 j 1 with
  | true =>
   have HT : Hid (iF T e2 j = aW T (dl T (tell e2 j 3) j) j) := hide (by unfold iF; rw [hh]; rfl)
   rw [hh] at CH
   clear hh
   go_wp2_with (first | (go_at_call 214; refine CH.out.mono ?_; rintro _ w3 ⟨rfl, hb⟩; have Am := hide (Fr.of_below (Z := fun k => ¬ S k) hb); have CT := hide (dh (HEr.out.go hb) hjl tag3); clear hb) | (go_at_call 213; refine CT.out.mono ?_; rintro _ w4 ⟨rfl, he, hf⟩; have CV := hide (jb he hjl); have Ah := hide (Am.out.trans hf); clear he hf) | (go_at_call 215; refine CV.out.mono ?_; rintro _ w5 ⟨rfl, he, hf⟩; have CD := hide (ga he hjl); have Ac := hide (Ah.out.trans hf); clear he hf) | (go_at_call 216; refine CD.out.mono ?_; rintro _ w6 ⟨rfl, he, hf⟩; have Ag := hide he; have Ad := hide (Ac.out.trans hf); clear he hf))
   go_roundw
   case rel => exact ⟨j + 1, by omega, by go_num, hide (by rw [Ab.out, HT.out]; exact Ag.out), hide (HFr.out.trans Ad.out)⟩
   case measure => simp [intOf]; omega
  | false =>
   have HT : Hid (iF T e2 j = aW T (dl T e2 j) j) := hide (by unfold iF; rw [hh]; rfl)
   rw [hh] at CH
   clear hh
   go_wp2_with (first | (go_at_call 214; refine CH.out.mono ?_; rintro _ w3 ⟨rfl, hb⟩; have Ah := hide (Fr.of_below (Z := fun k => ¬ S k) hb); have CV := hide (jb (HEr.out.go hb) hjl); clear hb) | (go_at_call 215; refine CV.out.mono ?_; rintro _ w5 ⟨rfl, he, hf⟩; have CD := hide (ga he hjl); have Ac := hide (Ah.out.trans hf); clear he hf) | (go_at_call 216; refine CD.out.mono ?_; rintro _ w6 ⟨rfl, he, hf⟩; have Ag := hide he; have Ad := hide (Ac.out.trans hf); clear he hf))
   go_roundw
   case rel => exact ⟨j + 1, by omega, by go_num, hide (by rw [Ab.out, HT.out]; exact Ag.out), hide (HFr.out.trans Ad.out)⟩
   case measure => simp [intOf]; omega
 have Ao : j = n := by omega
 subst Ao
 go_wp2_with fail
 go_end0
 exact ⟨rfl, by rw [HR.out]; exact HEr.out, HFr.out⟩
end
end Go.Proofs.YtmlhcncagdfjfaaGreat.Fa
