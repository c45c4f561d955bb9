import Derived.Test.YtbpphlmakmeoaaaGreatDoorEqAll
import Derived.Test.YtbpphlmakmeoaaaGreatDoorLinesAll
import Derived.Test.YtbpphlmakmeoaaaGreatDoorHeld5
import Derived.Test.YtbpphlmakmeoaaaGreatDoorMoBack2
set_option maxRecDepth 100000
set_option maxHeartbeats 3200000
namespace Go.Proofs.YtbpphlmakmeoaaaGreatDoor.Sy
open Go.RowKit
theorem lh {a : gI} (h : lQ a) : (a.body.length ≤ 1000000000 ∧ ∀ u ∈ a.body, u.lit.args.length ≤ 1000000000 ∧ (u.guard.left.length ≤ 1000000000 ∧ ∀ v ∈ u.guard.left, v.args.length ≤ 1000000000) ∧ (u.guard.right.length ≤ 1000000000 ∧ ∀ v ∈ u.guard.right, v.args.length ≤ 1000000000)) ∧ a.head.args.length ≤ 1000000000 :=
 ⟨⟨h.1, fun u hu => by obtain ⟨h1, h2, h3, h4, h5⟩ := h.2.1 u hu; exact ⟨h1, ⟨h2, h3⟩, h4, h5⟩⟩, h.2.2⟩
theorem zj (w : World) (S T : StatM) (st st' : St9) (hS : SA w st S) (hT : SA w st' T) (hs : mu S) (ht : mu T) :
    Calls Tryz.prog 40 #[St9.agg st, St9.agg st'] w fun e w' => e = .returned (.bool (decide (S = T))) ∧ Below w.heap.size w w' := by
 obtain ⟨f0, f1, f2, f3, f4, f5, f6, f7, f8⟩ := st
 obtain ⟨g0, g1, g2, g3, g4, g5, g6, g7, g8⟩ := st'
 have e0 := hS.title
 have e1 := hT.title
 simp only at e0 e1
 subst e0
 subst e1
 exact zH S.title T.title S.kinds T.kinds S.members T.members S.preds T.preds S.classes T.classes S.sources T.sources S.rules T.rules S.excepts T.excepts S.totals T.totals _ _ _ _ _ _ _ _ _ _ _ _ _ _ _ _ w
  hS.kinds hT.kinds hS.members hT.members hS.preds hT.preds hS.classes hT.classes hS.sources hT.sources hS.rules hT.rules hS.excepts hT.excepts hS.totals hT.totals
  hs.kinds ht.kinds hs.members ht.members ⟨hs.preds, hs.preds'⟩ ⟨ht.preds, ht.preds'⟩ ⟨hs.classes, hs.classes'⟩ ⟨ht.classes, ht.classes'⟩ hs.sources ht.sources ⟨hs.rules, fun t h => lh (hs.rules' t h)⟩ ⟨ht.rules, fun t h => lh (ht.rules' t h)⟩ hs.excepts ht.excepts ⟨hs.totals, hs.totals'⟩ ⟨ht.totals, ht.totals'⟩
noncomputable def printM (S : StatM) : ee × Int :=
 if (writtenP (je XP S)).2 ≠ 0 then ([], (writtenP (je XP S)).2)
 else if (parseM (writtenP (je XP S)).1).2.1 ≠ 0 ∨ ¬ (parseM (writtenP (je XP S)).1).1 = S then ([], 52) else ((writtenP (je XP S)).1, 0)
theorem kD (l : ee) (w : World) (hV : Vars w.heap.size w) :
    Calls Tryz.prog 29 #[.string ⟨l.toArray⟩] w fun r w' => ∃ R st, r = .returned (.tuple #[St9.agg st, .int .i64 (parseM l).2.1, .int .i64 (parseM l).2.2]) ∧ w.heap.size ≤ R ∧ SRep R w' st (parseM l).1 ∧ Below w.heap.size w w' := by
 have h1 := parse_any ⟨l.toArray⟩ w hV
 have h2 : (⟨l.toArray⟩ : ByteArray).data.toList = l := by simp
 rw [h2] at h1
 exact h1
theorem iS {w w' : World} (h : Vars w.heap.size w) (hb : Below w.heap.size w w') : Vars w'.heap.size w' := by
 obtain ⟨e1, e2, h1, h2, h3, h4⟩ := h
 exact ⟨e1, e2, (World.cell?_of_block (hb.block _ (by show 2 < _; omega))).trans h1, (World.cell?_of_block (hb.block _ (by show 3 < _; omega))).trans h2, by have := hb.size; omega, h4⟩
theorem print_any (w : World) (S : StatM) (st : St9) (hS : SA w st S) (hfit : nP S) (hs : mu S) (ht : Mo.Tab w) (hV : Vars w.heap.size w) :
    Calls Tryz.prog 10 #[St9.agg st] w fun e w' => e = .returned (.tuple #[.string ⟨(printM S).1.toArray⟩, .int .i64 (printM S).2]) ∧ Below w.heap.size w w' := by
 have HS := ec hS
 obtain ⟨f0, f1, f2, f3, f4, f5, f6, f7, f8⟩ := st
 have e0 := hS.title
 simp only at e0
 subst e0
 have hp : 0 < w.heap.size := by obtain ⟨_, _, _, _, h3, _⟩ := hV; omega
 have g0 := Grows.alloc w (.cells #[.string ⟨S.title.toArray⟩, f1, f2, f3, f4, f5, f6, f7, f8] 31)
 have HN := ec (heap_alloc_new w (.cells #[.string ⟨S.title.toArray⟩, f1, f2, f3, f4, f5, f6, f7, f8] 31))
 obtain ⟨a1, c1, q1⟩ := ed hS.kinds
 obtain ⟨a2, c2, q2⟩ := ed hS.members
 obtain ⟨a3, c3, q3⟩ := ed hS.preds
 obtain ⟨a4, c4, q4⟩ := ed hS.classes
 obtain ⟨a5, c5, q5⟩ := ed hS.sources
 obtain ⟨a6, c6, q6⟩ := ed hS.rules
 obtain ⟨a7, c7, q7⟩ := ed hS.excepts
 obtain ⟨a8, c8, q8⟩ := ed hS.totals
 simp only at q1 q2 q3 q4 q5 q6 q7 q8
 subst q1 q2 q3 q4 q5 q6 q7 q8
 have C1 := ec (uU _ S _ (HS.out.keep g0.keeps) hfit)
 have G0 := ec g0
 have HT := ec ht
 have HV := ec hV
 have Ah := ec hs
 have HP := ec hp
 unfold St9.agg at C1 ⊢
 clear hS hfit ht hV g0 hs hp
 go_enter Tryz.func10, Tryz.ntmps10
 go_wp2_with fail
 refine C1.out.mono ?_
 rintro _ w1 ⟨v, rfl, hv, hb⟩
 have Ac := Grows.trans G0.out hb
 have C2 := ec (t8 w1 _ v hv (HT.out.below Ac (Nat.le_refl _)) (Nat.lt_of_lt_of_le HP.out Ac.size))
 obtain ⟨kf, Ai, rfl, _, _⟩ := hv
 have N1 := eK hb HN
 have G1 := ec Ac
 clear hb Ac C1
 go_wp2_with fail
 refine C2.out.mono ?_
 rintro _ w2 ⟨rfl, hb⟩
 have N2 := eK hb N1
 have G2 := ec (Grows.trans G1.out hb)
 have Ab : Hid (printM S = if (writtenP (je XP S)).2 ≠ 0 then ([], (writtenP (je XP S)).2) else if (parseM (writtenP (je XP S)).1).2.1 ≠ 0 ∨ ¬ (parseM (writtenP (je XP S)).1).1 = S then ([], 52) else ((writtenP (je XP S)).1, 0)) := ec rfl
 generalize writtenP (je XP S) = f at *
 obtain ⟨fb, fe⟩ := f
 simp only at Ab
 clear hb C2
 by_cases hfe : fe = 0
 · subst hfe
   have CP := ec (kD fb w2 (iS HV.out G2.out))
   have Ad := ec (j7 fb)
   go_wp2_with fail
   refine CP.out.mono ?_
   rintro _ w3 ⟨R, st', rfl, hR, Ae, Af⟩
   obtain ⟨y0, y1, y2, y3, y4, y5, y6, y7, y8⟩ := st'
   have N3 := ec ((Af.block _ (eN N2.out)).trans N2.out)
   have G3 := ec (Grows.trans G2.out Af)
   have Aa := ec Ae.sa
   generalize parseM fb = q at *
   obtain ⟨T, pe, pp⟩ := q
   simp only at Aa Ad Ab
   unfold St9.agg
   obtain ⟨b1, d1, r1⟩ := ed Aa.out.kinds
   obtain ⟨b2, d2, r2⟩ := ed Aa.out.members
   obtain ⟨b3, d3, r3⟩ := ed Aa.out.preds
   obtain ⟨b4, d4, r4⟩ := ed Aa.out.classes
   obtain ⟨b5, d5, r5⟩ := ed Aa.out.sources
   obtain ⟨b6, d6, r6⟩ := ed Aa.out.rules
   obtain ⟨b7, d7, r7⟩ := ed Aa.out.excepts
   obtain ⟨b8, d8, r8⟩ := ed Aa.out.totals
   have r0 := Aa.out.title
   simp only at r0 r1 r2 r3 r4 r5 r6 r7 r8
   subst r0 r1 r2 r3 r4 r5 r6 r7 r8
   clear Af Ae hR CP
   have g4 := Grows.alloc w3 (.cells #[.string ⟨T.title.toArray⟩, .slice b1 T.kinds.length d1, .slice b2 T.members.length d2, .slice b3 T.preds.length d3, .slice b4 T.classes.length d4, .slice b5 T.sources.length d5, .slice b6 T.rules.length d6, .slice b7 T.excepts.length d7, .slice b8 T.totals.length d8] 31)
   have G4 := ec (Grows.trans G3.out g4)
   have C5 := ec (zj _ T S _ _ (Aa.out.keep g4.keeps) (HS.out.keep (Grows.trans G3.out g4).keeps) Ad.out.small Ah.out)
   obtain ⟨z0, z1, z2, z3, z4, z5, z6, z7, z8, z9⟩ := gi ((g4.block _ (eN N3.out)).trans N3.out)
   unfold St9.agg at C5
   clear g4
   by_cases hpe : pe = 0
   · subst hpe
     go_wp2_with fail
     refine C5.out.mono ?_
     rintro _ w5 ⟨rfl, Ag⟩
     have G5 := ec (Grows.trans G4.out Ag)
     clear Ag C5
     by_cases hTS : T = S
     · have HR : Hid (printM S = (fb, 0)) := ec (by rw [Ab.out, if_neg (by simp), if_neg (by simp [hTS])])
       simp only [decide_eq_true hTS]
       go_wp2_with fail
       go_ret2
       refine ⟨?_, G5.out⟩
       rw [HR.out]
       rfl
     · have HR : Hid (printM S = ([], 52)) := ec (by rw [Ab.out, if_neg (by simp), if_pos (.inr hTS)])
       simp only [decide_eq_false hTS]
       go_wp2_with fail
       go_ret2
       refine ⟨?_, G5.out⟩
       rw [HR.out]
       rfl
   · have HR : Hid (printM S = ([], 52)) := ec (by rw [Ab.out, if_neg (by simp), if_pos (.inl hpe)])
     clear C5
     go_wp2_with fail
     go_ret2
     refine ⟨?_, G4.out⟩
     rw [HR.out]
     rfl
 · have HR : Hid (printM S = ([], fe)) := ec (by rw [Ab.out, if_pos hfe])
   go_wp2_with fail
   go_ret2
   refine ⟨?_, G2.out⟩
   rw [HR.out]
   rfl
end Go.Proofs.YtbpphlmakmeoaaaGreatDoor.Sy
namespace Go.Proofs.YtbpphlmakmeoaaaGreatDoor.Sy
open Go.RowKit
structure J2 (F : j5) : Prop where
 money : ∀ x, (F.money x).2 = 0 → ic (F.money x).1
 neg : ∀ v, ic (F.neg v)
section
variable {F : j5} {K : fQ} (hF : J2 F) (hK : ∀ n, fC (tx K n))
include hK
theorem oz : Post (gZ K) fC := by
 intro s a t h
 unfold gZ at h
 split at h
 · cases h
 · cases h; exact hK _
theorem gt : Post (gw K) fC := .then fun b => .ite b (oz hK) (.fail _)
theorem mw : Post (la K) fC := .then fun b => .ite b (oz hK) (gt hK)
theorem xJ : Post (sP K) fC := .then fun b => .ite b (oz hK) (.fail _)
omit hK in
theorem j3 {read : M ee} (hr : Ef read) (hp : Post read fC) : Post (iW K read) jX :=
 .then fun b => .ite b (.bind (gH K 4 hr hp) fun _ h => .then fun _ => .pure ⟨by have := h.1; omega, h.2⟩) (.pure ⟨by simp, by simp⟩)
theorem uu : Post (jB F K) ng :=
 .then fun _ => .bind (gt hK) fun _ h1 => .bind (j3 (lI K) (mw hK)) fun _ h => .then fun b => .ite b (.then fun _ => .pure ⟨h1, h⟩) (.pure ⟨h1, h⟩)
omit hK in
theorem uA (lo hi : Int) (h0 : -9223372036854775808 ≤ lo) (h1 : hi ≤ 9223372036854775807) : Post (m9 F K lo hi) ic := by
 intro s a t h
 unfold m9 at h
 obtain ⟨b, u, e1, h⟩ := eQ.1 h
 cases b
 · simp at h; cases h
 · simp only [if_true] at h
   obtain ⟨b, u, e2, h⟩ := eQ.1 h
   cases b
   · simp at h; cases h
   · simp only [if_true] at h
     obtain ⟨d, u2, e3, h⟩ := eQ.1 h
     obtain ⟨_, u3, e4, h⟩ := eQ.1 h
     cases h
     simp only [gB, Out.ok.injEq] at e2 e3
     obtain ⟨hq, rfl⟩ := e2
     obtain ⟨rfl, rfl⟩ := e3
     unfold lY at hq
     cases hi' : F.int (tx K u.n) with
     | none => rw [hi'] at hq; cases hq
     | some x =>
      rw [hi'] at hq
      simp only [Bool.and_eq_true, decide_eq_true_eq] at hq
      exact ⟨by show _ ≤ x; omega, by show x ≤ _; omega⟩
include hF in
omit hK in
theorem oW (sg : ee) : Post (km F K sg) ic := by
 intro s a t h
 unfold km at h
 obtain ⟨b, u, e1, h⟩ := eQ.1 h
 cases b
 · simp at h; cases h
 · simp only [if_true] at h
   obtain ⟨m, u2, e2, h⟩ := eQ.1 h
   cases e2
   split at h
   · next hq =>
     obtain ⟨_, u3, e4, h⟩ := eQ.1 h
     cases h
     exact hF.money _ (by simpa using hq)
   · cases h
include hF in
omit hK in
theorem ru : Post (jy F K) ic := .then fun b => .ite b (oW hF _) (oW hF _)
omit hK in
theorem mT : ic 0 := ⟨by omega, by omega⟩
include hF
theorem wn : Post (jp F K) lu :=
 .then fun b => .ite b
  (.then fun b => .ite b (.bind (uA 1 1000 (by omega) (by omega)) fun _ hc => .then fun _ => .bind (gt hK) fun _ h1 => .bind (j3 (lI K) (mw hK)) fun _ h => .pure ⟨hc, h1, h, mT⟩) (.bind (ru hF) fun _ hv => .pure ⟨mT, by simp, ⟨by simp, by simp⟩, hv⟩))
  (.then fun b => .ite b (.bind (ru hF) fun _ hv => .pure ⟨mT, by simp, ⟨by simp, by simp⟩, hv⟩) <| .bind (gt hK) fun _ h1 => .bind (j3 (lI K) (mw hK)) fun _ h => .pure ⟨⟨by simp, by simp⟩, h1, h, mT⟩)
theorem yB : Post (lW F K) lu := .bind (wn hF hK) fun _ h => .then fun b => .ite b (.pure ⟨hF.neg _, h.pred, h.args, hF.neg _⟩) (.pure h)
theorem tC : Post (nT F K) lD :=
 .then fun _ => fun s a t h => by have h := gH K 8 (uE F K) (yB hF hK) s a t h; exact ⟨by have := h.1; omega, h.2⟩
omit hF hK in
theorem D0 : Post (xI K) fun o => ic o := by
 intro s a t h
 unfold xI at h
 obtain ⟨o, u, e1, h⟩ := eQ.1 h
 split at h
 · cases h
 · obtain ⟨_, u3, e4, h⟩ := eQ.1 h
   cases h
   simp only [gB, Out.ok.injEq] at e1
   obtain ⟨rfl, rfl⟩ := e1
   unfold opAt
   repeat' split
   all_goals exact ⟨by omega, by omega⟩
omit hF hK in
theorem xA : Post (nE K) fun o => ic o := by
 intro s a t h
 unfold nE at h
 obtain ⟨o, u, e1, h⟩ := eQ.1 h
 split at h
 · cases h
 · obtain ⟨_, u3, e4, h⟩ := eQ.1 h
   cases h
   simp only [gB, Out.ok.injEq] at e1
   obtain ⟨rfl, rfl⟩ := e1
   unfold arrowAt
   repeat' split
   all_goals exact ⟨by omega, by omega⟩
theorem xE : Post (lz F K) mF :=
 .then fun _ => .bind (tC hF hK) fun _ hl => .bind D0 fun _ ho => .bind (tC hF hK) fun _ hr => .then fun _ => .pure ⟨hl, ho, hr⟩
omit hF hK in
theorem oa : ng j2 := ⟨by simp [j2], ⟨by simp [j2], by simp [j2]⟩⟩
omit hF hK in
theorem mY : mF guardNone := ⟨⟨by simp [guardNone], by simp [guardNone]⟩, ⟨by simp [guardNone], by simp [guardNone]⟩, ⟨by simp [guardNone], by simp [guardNone]⟩⟩
theorem tU : Post (jo F K) rr :=
 .then fun b => .ite b (.bind (mw hK) fun _ h1 => .then fun _ => .bind (mw hK) fun _ h2 => .pure ⟨⟨by simp, by simp⟩, oa, mY, h1, h2⟩)
  (.then fun b => .ite b (.bind (xE hF hK) fun _ h => .pure ⟨⟨by simp, by simp⟩, oa, h, by simp, by simp⟩) (.bind (uu hK) fun _ h => .pure ⟨⟨by simp, by simp⟩, h, mY, by simp, by simp⟩))
theorem yA : Post (sy F K) mC :=
 .then fun b => .ite b (fun s a t h => by have h := gH K 16 (pB F K) (tU hF hK) s a t h; exact ⟨by have := h.1; omega, h.2⟩) (.pure ⟨by simp, by simp⟩)
theorem yP : Post (lX F K) lr :=
 .bind (gt hK) fun _ h1 => .then fun _ => .bind (gt hK) fun _ h2 => .then fun _ => .then fun _ => .then fun _ => .then fun _ => .bind (yA hF hK) fun _ hb => .bind xA fun _ ha => .bind (uu hK) fun _ hh => .pure ⟨h1, h2, hb, ha, hh⟩
omit hF
theorem om (sort : Nat) (hs : ic sort) : Post (jJ K sort) kB := .bind (gt hK) fun _ h1 => .bind (j3 (gJ K) (gt hK)) fun _ h => .pure ⟨h1, hs, h, by simp⟩
theorem pQ : Post (iE F K) kB :=
 .bind (om hK 3 ⟨by omega, by omega⟩) fun _ h => .then fun _ => .bind (gH K 64 (mR F K) (.any _)) fun _ hv => .pure ⟨h.name, h.sort, h.kinds, by have := hv.1; simp only; omega⟩
theorem wK : Post (kS K) jX := .bind (gH K 16 (gJ K) (gt hK)) fun _ h => .ite _ (.fail _) (.pure ⟨by have := h.1; omega, h.2⟩)
theorem uZ : Post (ky F K) fun a => fC a.1 ∧ ic a.2 := .bind (gt hK) fun _ h1 => .then fun _ => .bind (uA 0 1000 (by omega) (by omega)) fun _ h2 => .pure ⟨h1, h2⟩
theorem sl : Post (jm K) fun a => fC a.1 ∧ fC a.2 := .bind (gt hK) fun _ h1 => .then fun _ => .bind (gt hK) fun _ h2 => .pure ⟨h1, h2⟩
theorem xn : Post (kW F K) kn :=
 .bind (gt hK) fun _ h1 => .then fun _ => .bind (gt hK) fun _ h2 => .then fun _ => .then fun _ => .bind (gH K 16 (gJ K) (gt hK)) fun _ h => .then fun b => .ite b (.then fun _ => .pure ⟨h1, h2, by have := h.1; simp only; omega, h.2⟩) (.pure ⟨h1, h2, by have := h.1; simp only; omega, h.2⟩)
theorem uc (most : Int) : Post (kl K most) fun l => ∀ a, a ∈ l → fC a.1 ∧ fC a.2 :=
 .bind (gH K most (gJ K) (gt hK)) fun _ h => .then fun _ => .bind (gt hK) fun _ hk => .pure (by
  intro a ha
  obtain ⟨x, hx, rfl⟩ := List.mem_map.1 ha
  exact ⟨h.2 x hx, hk⟩)
structure FitIn (S : StatM) : Prop where
 title : fC S.title
 kinds : ∀ t ∈ S.kinds, fC t
 members : ∀ t ∈ S.members, fC t.1 ∧ fC t.2
 preds : ∀ t ∈ S.preds, kB t
 classes : ∀ t ∈ S.classes, jX t
 sources : ∀ t ∈ S.sources, fC t.1 ∧ ic t.2
 rules : ∀ t ∈ S.rules, lr t
 excepts : ∀ t ∈ S.excepts, fC t.1 ∧ fC t.2
 totals : ∀ t ∈ S.totals, kn t
omit hK in
theorem FitIn.whole {S : StatM} (h : FitIn S) (hh : Held S) : nP S := by
 have hs := hh.small
 exact ⟨h.title, ⟨hs.kinds, h.kinds⟩, ⟨hs.members, h.members⟩, ⟨hs.preds, h.preds⟩, ⟨hs.classes, h.classes⟩, ⟨hs.sources, h.sources⟩, ⟨hs.rules, h.rules⟩, ⟨hs.excepts, h.excepts⟩, ⟨hs.totals, h.totals⟩⟩
include hF
theorem zq {S : StatM} (hS : FitIn S) : Post (lN F K S) FitIn :=
 .then fun b => .ite b (.bind (Post.add _ _ (gt hK)) fun _ h => .pure { hS with kinds := gU hS.kinds h }) <|
 .then fun b => .ite b (.bind (uc hK _) fun _ h => .pure { hS with members := fun a ha => (List.mem_append.1 ha).elim (hS.members a) (h a) }) <|
 .then fun b => .ite b (.bind (Post.add _ _ (om hK 1 ⟨by omega, by omega⟩)) fun _ h => .pure { hS with preds := gU hS.preds h }) <|
 .then fun b => .ite b (.bind (Post.add _ _ (om hK 2 ⟨by omega, by omega⟩)) fun _ h => .pure { hS with preds := gU hS.preds h }) <|
 .then fun b => .ite b (.bind (Post.add _ _ (pQ hK)) fun _ h => .pure { hS with preds := gU hS.preds h }) <|
 .then fun b => .ite b (.bind (Post.add _ _ (wK hK)) fun _ h => .pure { hS with classes := gU hS.classes h }) <|
 .then fun b => .ite b (.bind (Post.add _ _ (uZ hK)) fun _ h => .pure { hS with sources := gU hS.sources h }) <|
 .then fun b => .ite b (.bind (Post.add _ _ (yP hF hK)) fun _ h => .pure { hS with rules := gU hS.rules h }) <|
 .then fun b => .ite b (.bind (Post.add _ _ (sl hK)) fun _ h => .pure { hS with excepts := gU hS.excepts h }) <|
 .then fun b => .ite b (.bind (Post.add _ _ (xn hK)) fun _ h => .pure { hS with totals := gU hS.totals h }) (.fail _)
theorem rx : ∀ (f : Nat) {S : StatM}, FitIn S → Post (kN F K f S) FitIn
 | 0, _, _ => by intro s a t h; cases h
 | f + 1, _, hS => .then fun b => .ite b (.bind (zq hF hK hS) fun _ h => .then fun _ => rx f h) (.pure hS)
theorem yC : Post (textM F K) FitIn :=
 .bind (P := fC) (.then fun b => .ite b (.bind (xJ hK) fun _ h => .then fun _ => .pure h) (.pure (by simp))) fun t ht => rx hF hK _ ⟨ht, by simp [StatM.none], by simp [StatM.none], by simp [StatM.none], by simp [StatM.none], by simp [StatM.none], by simp [StatM.none], by simp [StatM.none], by simp [StatM.none]⟩
end
theorem M8 : J2 FN where
 money x h := by
  have h1 : Mo.parseM (Mo.strB ⟨x.toArray⟩) = ((FN.money x).1, 0) := by rw [← h]; rfl
  have := Mo.may_yes (Mo.text_parse _ _ h1).1
  exact ⟨by omega, by omega⟩
 neg v := by
  show ic (IntKind.i64.wrap (-v))
  rw [IntKind.wrap_i64]
  exact ⟨by omega, by omega⟩
theorem xW (l : ee) : nP (parseM l).1 := by
 have hh := j7 l
 refine FitIn.whole ?_ hh
 unfold parseM
 have hn : FitIn StatM.none := ⟨by simp [StatM.none], by simp [StatM.none], by simp [StatM.none], by simp [StatM.none], by simp [StatM.none], by simp [StatM.none], by simp [StatM.none], by simp [StatM.none], by simp [StatM.none]⟩
 split
 · split
   · next S t ht =>
     refine yC M8 (fun n => ?_) _ _ _ ht
     have hA := (sO l).2.1
     unfold tx kt
     rw [List.getElem?_map]
     cases hq : (gz l).tk[n]? with
     | none => simp
     | some t =>
      have := (hA t (List.mem_of_getElem? hq)).1
      simp
      omega
   · exact hn
 · exact hn
end Go.Proofs.YtbpphlmakmeoaaaGreatDoor.Sy
namespace Go.Proofs.YtbpphlmakmeoaaaGreatDoor.Sy
open Go.RowKit
noncomputable def normM (l : ee) : ee × Int × Nat :=
 if (parseM l).2.1 ≠ 0 then ([], (parseM l).2.1, (parseM l).2.2)
 else if (printM (parseM l).1).2 ≠ 0 then ([], (printM (parseM l).1).2, 0) else ((printM (parseM l).1).1, 0, l.length)
theorem ke (w : World) (l : ee) (_hl : l.length ≤ 140737488355328) (ht : Mo.Tab w) (hV : Vars w.heap.size w) :
    Calls Tryz.prog 27 #[.string ⟨l.toArray⟩] w fun e w' => e = .returned (.tuple #[.string ⟨(normM l).1.toArray⟩, .int .i64 (normM l).2.1, .int .i64 (normM l).2.2]) ∧ Below w.heap.size w w' := by
 have CP := ec (kD l w hV)
 have HT := ec ht
 have HV := ec hV
 have Ae := ec (j7 l).small
 have Ad := ec (xW l)
 have Af : (⟨l.toArray⟩ : ByteArray).size = l.length := by simp [ByteArray.size]
 clear ht hV
 go_enter Tryz.func27, Tryz.ntmps27
 go_wp2_with fail
 refine CP.out.mono ?_
 rintro _ w1 ⟨R, st, rfl, hR, Ac, hb⟩
 obtain ⟨y0, y1, y2, y3, y4, y5, y6, y7, y8⟩ := st
 have Aa := ec Ac.sa
 have G1 : Hid (Grows w w1) := ec hb
 have Ab : Hid (normM l = if (parseM l).2.1 ≠ 0 then ([], (parseM l).2.1, (parseM l).2.2) else if (printM (parseM l).1).2 ≠ 0 then ([], (printM (parseM l).1).2, 0) else ((printM (parseM l).1).1, 0, l.length)) := ec rfl
 generalize parseM l = q at *
 obtain ⟨T, pe, pp⟩ := q
 simp only at Aa Ae Ad Ab
 unfold St9.agg
 obtain ⟨b1, d1, r1⟩ := ed Aa.out.kinds
 obtain ⟨b2, d2, r2⟩ := ed Aa.out.members
 obtain ⟨b3, d3, r3⟩ := ed Aa.out.preds
 obtain ⟨b4, d4, r4⟩ := ed Aa.out.classes
 obtain ⟨b5, d5, r5⟩ := ed Aa.out.sources
 obtain ⟨b6, d6, r6⟩ := ed Aa.out.rules
 obtain ⟨b7, d7, r7⟩ := ed Aa.out.excepts
 obtain ⟨b8, d8, r8⟩ := ed Aa.out.totals
 have r0 := Aa.out.title
 simp only at r0 r1 r2 r3 r4 r5 r6 r7 r8
 subst r0 r1 r2 r3 r4 r5 r6 r7 r8
 have g2 := Grows.alloc w1 (.cells #[.string ⟨T.title.toArray⟩, .slice b1 T.kinds.length d1, .slice b2 T.members.length d2, .slice b3 T.preds.length d3, .slice b4 T.classes.length d4, .slice b5 T.sources.length d5, .slice b6 T.rules.length d6, .slice b7 T.excepts.length d7, .slice b8 T.totals.length d8] 31)
 have G2 := ec (Grows.trans G1.out g2)
 have C2 := ec (print_any _ T _ (Aa.out.keep g2.keeps) Ad.out Ae.out (HT.out.below G2.out (Nat.le_refl _)) (iS HV.out G2.out))
 unfold St9.agg at C2
 clear hb Ac hR CP g2
 by_cases hpe : pe = 0
 · subst hpe
   go_wp2_with fail
   refine C2.out.mono ?_
   rintro _ w3 ⟨rfl, hb⟩
   have G3 := ec (Grows.trans G2.out hb)
   generalize printM T = f at *
   obtain ⟨fb, fe⟩ := f
   simp only at Ab
   clear hb C2
   by_cases hfe : fe = 0
   · subst hfe
     have HR : Hid (normM l = (fb, 0, l.length)) := ec (by rw [Ab.out, if_neg (by simp), if_neg (by simp)])
     go_wp2_with fail
     go_ret3
     refine ⟨?_, G3.out⟩
     rw [HR.out]
     rfl
   · have HR : Hid (normM l = ([], fe, 0)) := ec (by rw [Ab.out, if_neg (by simp), if_pos hfe])
     go_wp2_with fail
     go_ret3
     refine ⟨?_, G3.out⟩
     rw [HR.out]
     rfl
 · have HR : Hid (normM l = ([], pe, pp)) := ec (by rw [Ab.out, if_pos hpe])
   clear C2
   go_wp2_with fail
   go_ret3
   refine ⟨?_, G2.out⟩
   rw [HR.out]
   rfl
end Go.Proofs.YtbpphlmakmeoaaaGreatDoor.Sy
namespace Go.Proofs.YtbpphlmakmeoaaaGreatDoor.Sy
open Go.RowKit
def SX : StatM := ⟨[], [[112, 101, 114, 115, 111, 110]], [([97], [112, 101, 114, 115, 111, 110]), ([98], [112, 101, 114, 115, 111, 110])], [], [], [], [], [], []⟩
theorem K6 : kt (gz [107, 105, 110, 100, 32, 32, 112, 101, 114, 115, 111, 110, 46, 109, 101, 109, 98, 101, 114, 32, 97, 44, 98, 58, 112, 101, 114, 115, 111, 110, 46]).tk = [(1, [107, 105, 110, 100]), (1, [112, 101, 114, 115, 111, 110]), (6, [46]), (1, [109, 101, 109, 98, 101, 114]), (1, [97]), (6, [44]), (1, [98]), (6, [58]), (1, [112, 101, 114, 115, 111, 110]), (6, [46])] := by decide +kernel
theorem E9 : (gz [107, 105, 110, 100, 32, 32, 112, 101, 114, 115, 111, 110, 46, 109, 101, 109, 98, 101, 114, 32, 97, 44, 98, 58, 112, 101, 114, 115, 111, 110, 46]).err = 0 := by decide +kernel
theorem L5 : kt (gz [107, 105, 110, 100, 32, 112, 101, 114, 115, 111, 110, 46, 10, 109, 101, 109, 98, 101, 114, 32, 97, 32, 58, 32, 112, 101, 114, 115, 111, 110, 46, 10, 109, 101, 109, 98, 101, 114, 32, 98, 32, 58, 32, 112, 101, 114, 115, 111, 110, 46, 10]).tk = [(1, [107, 105, 110, 100]), (1, [112, 101, 114, 115, 111, 110]), (6, [46]), (1, [109, 101, 109, 98, 101, 114]), (1, [97]), (6, [58]), (1, [112, 101, 114, 115, 111, 110]), (6, [46]), (1, [109, 101, 109, 98, 101, 114]), (1, [98]), (6, [58]), (1, [112, 101, 114, 115, 111, 110]), (6, [46])] := by decide +kernel
theorem D1 : (gz [107, 105, 110, 100, 32, 112, 101, 114, 115, 111, 110, 46, 10, 109, 101, 109, 98, 101, 114, 32, 97, 32, 58, 32, 112, 101, 114, 115, 111, 110, 46, 10, 109, 101, 109, 98, 101, 114, 32, 98, 32, 58, 32, 112, 101, 114, 115, 111, 110, 46, 10]).err = 0 := by decide +kernel
theorem L4 : kt (gz [107, 105, 110, 100]).tk = [(1, [107, 105, 110, 100])] := by decide +kernel
theorem E5 : (gz [107, 105, 110, 100]).err = 0 := by decide +kernel
theorem K4 : eI (gz [107, 105, 110, 100]).tk 4 1 = 4 := by decide +kernel
theorem E0 (F : j5) : textM F [(1, [107, 105, 110, 100]), (1, [112, 101, 114, 115, 111, 110]), (6, [46]), (1, [109, 101, 109, 98, 101, 114]), (1, [97]), (6, [44]), (1, [98]), (6, [58]), (1, [112, 101, 114, 115, 111, 110]), (6, [46])] ⟨0, false, false⟩ = .ok SX ⟨10, false, false⟩ := by kernel_rfl
theorem I7 (F : j5) : textM F [(1, [107, 105, 110, 100]), (1, [112, 101, 114, 115, 111, 110]), (6, [46]), (1, [109, 101, 109, 98, 101, 114]), (1, [97]), (6, [58]), (1, [112, 101, 114, 115, 111, 110]), (6, [46]), (1, [109, 101, 109, 98, 101, 114]), (1, [98]), (6, [58]), (1, [112, 101, 114, 115, 111, 110]), (6, [46])] ⟨0, false, false⟩ = .ok SX ⟨13, false, false⟩ := by kernel_rfl
theorem D7 (F : j5) : textM F [(1, [107, 105, 110, 100])] ⟨0, false, false⟩ = .bad 51 1 := by kernel_rfl
theorem yS : parseM [107, 105, 110, 100, 32, 32, 112, 101, 114, 115, 111, 110, 46, 109, 101, 109, 98, 101, 114, 32, 97, 44, 98, 58, 112, 101, 114, 115, 111, 110, 46] = (SX, 0, 31) := by
 unfold parseM
 rw [if_pos E9, K6, E0 FN]
 rfl
theorem yM : parseM [107, 105, 110, 100, 32, 112, 101, 114, 115, 111, 110, 46, 10, 109, 101, 109, 98, 101, 114, 32, 97, 32, 58, 32, 112, 101, 114, 115, 111, 110, 46, 10, 109, 101, 109, 98, 101, 114, 32, 98, 32, 58, 32, 112, 101, 114, 115, 111, 110, 46, 10] = (SX, 0, 51) := by
 unfold parseM
 rw [if_pos D1, L5, I7 FN]
 rfl
theorem yc : parseM [107, 105, 110, 100] = (StatM.none, 51, 4) := by
 unfold parseM
 rw [if_pos E5, L4, D7 FN]
 show (StatM.none, (51 : Int), eI (gz [107, 105, 110, 100]).tk 4 1) = _
 rw [K4]
theorem E8 : je XP SX = some [107, 105, 110, 100, 32, 112, 101, 114, 115, 111, 110, 46, 10, 109, 101, 109, 98, 101, 114, 32, 97, 32, 58, 32, 112, 101, 114, 115, 111, 110, 46, 10, 109, 101, 109, 98, 101, 114, 32, 98, 32, 58, 32, 112, 101, 114, 115, 111, 110, 46, 10] := by rfl
theorem zC : printM SX = ([107, 105, 110, 100, 32, 112, 101, 114, 115, 111, 110, 46, 10, 109, 101, 109, 98, 101, 114, 32, 97, 32, 58, 32, 112, 101, 114, 115, 111, 110, 46, 10, 109, 101, 109, 98, 101, 114, 32, 98, 32, 58, 32, 112, 101, 114, 115, 111, 110, 46, 10], 0) := by
 have hw : writtenP (je XP SX) = ([107, 105, 110, 100, 32, 112, 101, 114, 115, 111, 110, 46, 10, 109, 101, 109, 98, 101, 114, 32, 97, 32, 58, 32, 112, 101, 114, 115, 111, 110, 46, 10, 109, 101, 109, 98, 101, 114, 32, 98, 32, 58, 32, 112, 101, 114, 115, 111, 110, 46, 10], 0) := by rw [E8]; rfl
 unfold printM
 rw [hw]
 simp only
 rw [yM]
 simp
theorem A4 : normM [107, 105, 110, 100, 32, 32, 112, 101, 114, 115, 111, 110, 46, 109, 101, 109, 98, 101, 114, 32, 97, 44, 98, 58, 112, 101, 114, 115, 111, 110, 46] = ([107, 105, 110, 100, 32, 112, 101, 114, 115, 111, 110, 46, 10, 109, 101, 109, 98, 101, 114, 32, 97, 32, 58, 32, 112, 101, 114, 115, 111, 110, 46, 10, 109, 101, 109, 98, 101, 114, 32, 98, 32, 58, 32, 112, 101, 114, 115, 111, 110, 46, 10], 0, 31) := by
 unfold normM
 rw [yS]
 simp only
 rw [zC]
 simp
theorem zJ : normM [107, 105, 110, 100] = ([], 51, 4) := by
 unfold normM
 rw [yc]
 simp
theorem xm (w : World) (ht : Mo.Tab w) (hV : Vars w.heap.size w) : Calls Tryz.prog 14 #[] w fun e w' => e = .returned (.bool true) ∧ Below w.heap.size w w' := by
 have C1 := ke w [107, 105, 110, 100, 32, 32, 112, 101, 114, 115, 111, 110, 46, 109, 101, 109, 98, 101, 114, 32, 97, 44, 98, 58, 112, 101, 114, 115, 111, 110, 46] (by decide) ht hV
 rw [A4] at C1
 have Ab := ec C1
 have HT := ec ht
 have HV := ec hV
 clear C1 ht hV
 go_enter Tryz.func14, Tryz.ntmps14
 go_wp2_with fail
 refine Ab.out.mono ?_
 rintro _ w1 ⟨rfl, hb⟩
 have C2 := ke w1 [107, 105, 110, 100] (by decide) (HT.out.below hb (Nat.le_refl _)) (iS HV.out hb)
 rw [zJ] at C2
 have Aa := ec C2
 have G1 : Hid (Grows w w1) := ec hb
 clear C2 hb Ab
 go_wp2_with fail
 refine Aa.out.mono ?_
 rintro _ w2 ⟨rfl, hb⟩
 have G2 : Hid (Grows w w2) := ec (Grows.trans G1.out hb)
 clear hb Aa
 go_wp2_with (go_at_call 12; refine (zL _ _).mono ?_; rintro e w' ⟨rfl, rfl⟩)
 go_ret
 exact ⟨rfl, G2.out⟩
end Go.Proofs.YtbpphlmakmeoaaaGreatDoor.Sy
