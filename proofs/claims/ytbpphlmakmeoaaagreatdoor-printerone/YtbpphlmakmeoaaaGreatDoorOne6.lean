import Derived.Test.YtbpphlmakmeoaaaGreatDoorPlAll
import Derived.Test.YtbpphlmakmeoaaaGreatDoorOneAll
set_option maxRecDepth 100000
set_option maxHeartbeats 6400000
namespace Go.Proofs.YtbpphlmakmeoaaaGreatDoor.Sy
open Go.RowKit
theorem oB {S : StatM} (h : (printM S).2 = 0) : (parseM (printM S).1).2.1 = 0 ∧ (parseM (printM S).1).1 = S := by
 unfold printM at h ⊢
 split at h
 · next h1 => exact absurd h h1
 · next h1 =>
   split at h
   · simp at h
   · next h2 =>
     rw [if_neg h1, if_neg h2]
     have h3 : ¬ (parseM (writtenP (je XP S)).1).2.1 ≠ 0 := fun e => h2 (.inl e)
     have h4 : ¬ ¬ (parseM (writtenP (je XP S)).1).1 = S := fun e => h2 (.inr e)
     exact ⟨Classical.not_not.1 h3, Classical.not_not.1 h4⟩
theorem rf {a : ee} (h : (normM a).2.1 = 0) : (parseM a).2.1 = 0 ∧ (printM (parseM a).1).2 = 0 ∧ (normM a).1 = (printM (parseM a).1).1 := by
 unfold normM at h ⊢
 split at h
 · next h1 => exact absurd h h1
 · next h1 =>
   split at h
   · next h2 => exact absurd h h2
   · next h2 =>
     rw [if_neg h1, if_neg h2]
     exact ⟨Classical.not_not.1 h1, Classical.not_not.1 h2, rfl⟩
theorem vS {a : ee} (h : (normM a).2.1 = 0) : normM (normM a).1 = ((normM a).1, 0, (normM a).1.length) := by
 obtain ⟨h1, h2, h3⟩ := rf h
 obtain ⟨h4, h5⟩ := oB h2
 rw [h3]
 unfold normM
 rw [if_neg (by rw [h4]; simp), h5, if_neg (by rw [h2]; simp)]
theorem wU {a b : ee} (ha : (normM a).2.1 = 0) (hb : (normM b).2.1 = 0) : (normM a).1 = (normM b).1 ↔ (parseM a).1 = (parseM b).1 := by
 obtain ⟨h1, h2, h3⟩ := rf ha
 obtain ⟨g1, g2, g3⟩ := rf hb
 rw [h3, g3]
 constructor
 · intro e
   rw [← (oB h2).2, ← (oB g2).2, e]
 · intro e
   rw [e]
theorem t7 (m : Told) : (writtenP m).1.length ≤ 65536 := by
 unfold writtenP
 split
 · simp
 · split
   · simp
   · next h => exact Nat.le_of_not_lt h
theorem zo (a : ee) : (normM a).1.length ≤ 65536 := by
 unfold normM
 split
 · simp
 · split
   · simp
   · show (printM (parseM a).1).1.length ≤ 65536
     unfold printM
     split
     · simp
     · split
       · simp
       · exact t7 _
theorem one_any (w : World) (a b : ee) (ha : a.length ≤ 140737488355328) (hb : b.length ≤ 140737488355328) (ht : Mo.Tab w) (hV : Vars w.heap.size w) :
    Calls Tryz.prog 7 #[.string ⟨a.toArray⟩, .string ⟨b.toArray⟩] w fun e w' => e = .returned (.bool true) ∧ Below w.heap.size w w' := by
 have C0 := ec (xm w ht hV)
 have HT := ec ht
 have HV := ec hV
 have H1 := ec (fun h => vS (a := a) h)
 have Ae := ec (zo a)
 have H2 := ec (fun h h' => wU (a := a) (b := b) h h')
 clear ht hV
 go_enter Tryz.func7, Tryz.ntmps7
 go_wp2_with fail
 refine C0.out.mono ?_
 rintro _ w1 ⟨rfl, AI⟩
 have G1 : Hid (Grows w w1) := ec AI
 have C1 := ec (ke w1 a ha (HT.out.below G1.out (Nat.le_refl _)) (iS HV.out G1.out))
 clear AI C0
 go_wp2_with fail
 refine C1.out.mono ?_
 rintro _ w2 ⟨rfl, AM⟩
 have G2 : Hid (Grows w w2) := ec (Grows.trans G1.out AM)
 have C2 := ec (ke w2 b hb (HT.out.below G2.out (Nat.le_refl _)) (iS HV.out G2.out))
 clear AM C1
 go_wp2_with fail
 refine C2.out.mono ?_
 rintro _ w3 ⟨rfl, AW⟩
 have G3 : Hid (Grows w w3) := ec (Grows.trans G2.out AW)
 clear AW C2
 generalize normM a = na at *
 generalize normM b = nb at *
 obtain ⟨x, e, p⟩ := na
 obtain ⟨y, f, q⟩ := nb
 simp only at H1 H2 Ae
 have Bj : Hid (x.length ≤ 140737488355328) := ec (by have := Ae.out; omega)
 by_cases he : e = 0
 · subst he
   have AD := ec (fun hf => H2.out rfl hf)
   have H1' := ec (H1.out rfl)
   clear H1 H2
   have C3 := ke w3 x Bj.out (HT.out.below G3.out (Nat.le_refl _)) (iS HV.out G3.out)
   rw [H1'.out] at C3
   have AK := ec C3
   have Bs : (⟨x.toArray⟩ : ByteArray).size = x.length := by simp [ByteArray.size]
   clear C3
   go_wp2_with fail
   refine AK.out.mono ?_
   rintro _ w4 ⟨rfl, AG⟩
   have G4 : Hid (Grows w w4) := ec (Grows.trans G3.out AG)
   clear AG AK
   by_cases hf : f = 0
   · subst hf
     have CA := ec (kD a w4 (iS HV.out G4.out))
     have HE := ec (AD.out rfl)
     clear AD
     have Ah := ec (j7 a).small
     have AT := ec (j7 b).small
     generalize parseM a = qa at *
     obtain ⟨S, ea, pa⟩ := qa
     generalize hqb : parseM b = qb at *
     obtain ⟨T, eb, pb⟩ := qb
     try simp only at HE
     try simp only at Ah
     try simp only at AT
     go_wp2_with fail
     refine CA.out.mono ?_
     rintro _ w5 ⟨R, st, rfl, hR, Aa, AH⟩
     obtain ⟨s0, s1, s2, s3, s4, s5, s6, s7, s8⟩ := st
     have RA := ec Aa.sa
     have AJ : Grows w w5 := Grows.trans G4.out AH
     clear Aa hR AH CA
     unfold St9.agg
     try simp only at RA
     obtain ⟨As, Ar, AU⟩ := ed RA.out.kinds
     obtain ⟨Aq, At, Al⟩ := ed RA.out.members
     obtain ⟨Av, AX, Au⟩ := ed RA.out.preds
     obtain ⟨AN, Ax, Ao⟩ := ed RA.out.classes
     obtain ⟨AR, Ai, Am⟩ := ed RA.out.sources
     obtain ⟨An, Ay, AA⟩ := ed RA.out.rules
     obtain ⟨Aw, AC, Ap⟩ := ed RA.out.excepts
     obtain ⟨AO, AQ, AV⟩ := ed RA.out.totals
     have ut := RA.out.title
     simp only at ut AU Al Au Ao Am AA Ap AV
     subst ut AU Al Au Ao Am AA Ap AV
     have g6 := Grows.alloc w5 (.cells #[.string ⟨S.title.toArray⟩, .slice As S.kinds.length Ar, .slice Aq S.members.length At, .slice Av S.preds.length AX, .slice AN S.classes.length Ax, .slice AR S.sources.length Ai, .slice An S.rules.length Ay, .slice Aw S.excepts.length AC, .slice AO S.totals.length AQ] 31)
     have AB := ec (RA.out.keep g6.keeps)
     have NA := ec (heap_alloc_new w5 (.cells #[.string ⟨S.title.toArray⟩, .slice As S.kinds.length Ar, .slice Aq S.members.length At, .slice Av S.preds.length AX, .slice AN S.classes.length Ax, .slice AR S.sources.length Ai, .slice An S.rules.length Ay, .slice Aw S.excepts.length AC, .slice AO S.totals.length AQ] 31))
     have G6 := ec (Grows.trans AJ g6)
     have CB := kD b _ (iS HV.out G6.out)
     rw [hqb] at CB
     have AS := ec CB
     clear CB g6 AJ RA hqb
     go_wp2_with fail
     refine AS.out.mono ?_
     rintro _ w7 ⟨R, st, rfl, hR, Aa, Ad⟩
     obtain ⟨s0, s1, s2, s3, s4, s5, s6, s7, s8⟩ := st
     have RB := ec Aa.sa
     have Ba : Grows w w7 := Grows.trans G6.out Ad
     have Az := ec (AB.out.keep (Keeps.of_below Ad))
     have Ag := ec ((Ad.block _ (eN NA.out)).trans NA.out)
     clear Aa hR Ad AS AB NA
     unfold St9.agg
     try simp only at RB
     obtain ⟨Bk, Bb, Aj⟩ := ed RB.out.kinds
     obtain ⟨Bd, Bq, AZ⟩ := ed RB.out.members
     obtain ⟨Bc, Bg, AE⟩ := ed RB.out.preds
     obtain ⟨Bn, Bl, AP⟩ := ed RB.out.classes
     obtain ⟨Bf, Bp, AY⟩ := ed RB.out.sources
     obtain ⟨Bi, Br, AL⟩ := ed RB.out.rules
     obtain ⟨Be, Bh, AF⟩ := ed RB.out.excepts
     obtain ⟨Bm, Bo, Ak⟩ := ed RB.out.totals
     have vt := RB.out.title
     simp only at vt Aj AZ AE AP AY AL AF Ak
     subst vt Aj AZ AE AP AY AL AF Ak
     have g8 := Grows.alloc w7 (.cells #[.string ⟨T.title.toArray⟩, .slice Bk T.kinds.length Bb, .slice Bd T.members.length Bq, .slice Bc T.preds.length Bg, .slice Bn T.classes.length Bl, .slice Bf T.sources.length Bp, .slice Bi T.rules.length Br, .slice Be T.excepts.length Bh, .slice Bm T.totals.length Bo] 31)
     have CS := vQ _ S T _ _ (Az.out.keep g8.keeps) (RB.out.keep g8.keeps) Ah.out AT.out
     have G8 := ec (Grows.trans Ba g8)
     obtain ⟨z0, z1, z2, z3, z4, z5, z6, z7, z8, z9⟩ := gi ((g8.block _ (eN Ag.out)).trans Ag.out)
     unfold St9.agg at CS
     have Ab := ec CS
     clear CS g8 Ba Az Ag RB
     by_cases hST : S = T
     · have Af : x = y := HE.out.2 hST
       have hd : decide (S = T) = true := decide_eq_true hST
       rw [hd] at Ab
       clear HE hd hST
       subst Af
       go_wp2_with fail
       refine Ab.out.mono ?_
       rintro _ w9 ⟨rfl, Ac⟩
       have G9 := ec (Grows.trans G8.out Ac)
       clear Ac Ab
       go_wp2_with fail
       go_ret
       exact ⟨rfl, G9.out⟩
     · have Af : ¬ x = y := fun e => hST (HE.out.1 e)
       have Bt : (x == y) = false := beq_eq_false_iff_ne.2 Af
       have hd : decide (S = T) = false := decide_eq_false hST
       rw [hd] at Ab
       clear HE hd hST
       go_wp2_with fail
       refine Ab.out.mono ?_
       rintro _ w9 ⟨rfl, Ac⟩
       have G9 := ec (Grows.trans G8.out Ac)
       clear Ac Ab
       go_wp2_with fail
       go_ret
       exact ⟨rfl, G9.out⟩
   · go_wp2_with fail
     go_ret
     exact ⟨rfl, G4.out⟩
 · go_wp2_with fail
   go_ret
   exact ⟨rfl, G3.out⟩
end Go.Proofs.YtbpphlmakmeoaaaGreatDoor.Sy
