/- SyntaxSpaced: its walk. -/
import Derived.Test.YthnjmfkiohgkkaaGreatDoorAlive5
import Derived.Test.YthnjmfkiohgkkaaGreatDoorSmall5
import Derived.Test.YthnjmfkiohgkkaaGreatDoorSpaced5
import Derived.Test.YthnjmfkiohgkkaaGreatDoorRefAll
namespace Go.Proofs.YthnjmfkiohgkkaaGreatDoor.Sy
open Go.RowKit

theorem kt_bare (L : List Tok) : kt L = bare L := rfl

theorem lex_zero {l : Bytes} (h : (lexT l).err = 0) : l.length ≤ 65536 ∧ lexT l = W l 0 [] [] := by
  unfold lexT at h ⊢
  split
  · next hl => rw [if_pos hl] at h; simp at h
  · next hl => exact ⟨by omega, rfl⟩

theorem lex_of {l : Bytes} (h : l.length ≤ 65536) : lexT l = W l 0 [] [] := by
  unfold lexT
  rw [if_neg (by omega)]
  rfl

theorem held_nothing : Held StatM.none := held_none []

/-- A statute's value, opened. -/
theorem SRep.form {R : Nat} {w : World} {st : St9} {S : StatM} (h : SRep R w st S) : ∃ a1 c1 a2 c2 a3 c3 a4 c4 a5 c5 a6 c6 a7 c7 a8 c8, st = ⟨.string ⟨S.title.toArray⟩, .slice a1 S.kinds.length c1, .slice a2 S.members.length c2, .slice a3 S.preds.length c3, .slice a4 S.classes.length c4, .slice a5 S.sources.length c5, .slice a6 S.rules.length c6, .slice a7 S.excepts.length c7, .slice a8 S.totals.length c8⟩ := by
  obtain ⟨g0, g1, g2, g3, g4, g5, g6, g7, g8⟩ := st
  have e0 := h.title
  simp only at e0
  subst e0
  obtain ⟨a1, c1, e⟩ := rows_form h.kinds
  simp only at e
  subst e
  obtain ⟨a2, c2, e⟩ := rows_form h.members
  simp only at e
  subst e
  obtain ⟨a3, c3, e⟩ := rows_form h.preds
  simp only at e
  subst e
  obtain ⟨a4, c4, e⟩ := rows_form h.classes
  simp only at e
  subst e
  obtain ⟨a5, c5, e⟩ := rows_form h.sources
  simp only at e
  subst e
  obtain ⟨a6, c6, e⟩ := rows_form h.rules
  simp only at e
  subst e
  obtain ⟨a7, c7, e⟩ := rows_form h.excepts
  simp only at e
  subst e
  obtain ⟨a8, c8, e⟩ := rows_form h.totals
  simp only at e
  subst e
  exact ⟨_, _, _, _, _, _, _, _, _, _, _, _, _, _, _, _, rfl⟩

/-- What Parse answers holds its limits. -/
theorem parse_held (l : Bytes) : Held (parseM l).1 := by
  unfold parseM
  split
  · split
    · next S t ht => exact post_text FN _ _ _ _ ht
    · exact held_nothing
  · exact held_nothing

/-- Texts of the same tokens are read as one. -/
theorem parse_kt {a b : Bytes} (ha : (lexT a).err = 0) (hb : (lexT b).err = 0) (h : kt (lexT a).tk = kt (lexT b).tk) : (parseM a).1 = (parseM b).1 ∧ (parseM a).2.1 = (parseM b).2.1 := by
  unfold parseM
  rw [if_pos ha, if_pos hb, h]
  cases textM FN (kt (lexT b).tk) ⟨0, false, false⟩ <;> exact ⟨rfl, rfl⟩

theorem parse_spaced (g : Nat → Nat) {a b : Bytes} (ha : (lexT a).err = 0) (hb : b = 10 :: spacedL g 0 (lexT a).tk) (hl : b.length ≤ 65536) : (parseM a).1 = (parseM b).1 ∧ (parseM a).2.1 = (parseM b).2.1 := by
  obtain ⟨_, e1⟩ := lex_zero ha
  have ha' := ha
  rw [e1] at hb ha'
  obtain ⟨h1, h2⟩ := W_spaced g ha'
  rw [← hb] at h1 h2
  have e2 := lex_of hl
  refine parse_kt ha (by rw [e2]; exact h1) ?_
  rw [kt_bare, kt_bare, e1, e2, h2]

set_option maxRecDepth 100000 in
set_option maxHeartbeats 1600000 in
theorem spaced_walk (sB : ByteArray) (ga : Option Addr) (gc : Nat) (gs : List Int) (w : World) (hV : Vars w.heap.size w) (hg : Mo.Nums .i64 w ga gs) (hgl : gs.length ≤ 140737488351232) :
    Calls Tryz.prog 5 #[.string sB, .slice ga gs.length gc] w fun e w' => e = .returned (.bool true) ∧ Below w.heap.size w w' := by
  have CA := hide (alive_any w hV)
  have CT := hide (fun w => refTokens_any sB w)
  have CP := hide (fun w h => parse_any sB w h)
  have HA := hide (lexT_all sB.data.toList)
  have HQ := hide (fun b (ha : (lexT sB.data.toList).err = 0) hb hl => parse_spaced (gapAt gs) (b := b) ha hb hl)
  have HH := hide (parse_held sB.data.toList)
  have HV := hide hV
  have HG := hide hg
  clear hV hg
  generalize lexT sB.data.toList = Z at *
  generalize parseM sB.data.toList = P at *
  go_enter Tryz.func5, Tryz.ntmps5
  go_wp2_with fail
  refine CA.out.mono ?_
  rintro _ w1 ⟨rfl, hb1⟩
  have HB1 := hide hb1
  clear CA hb1
  go_wp2_with fail
  refine (CT.out w1).mono ?_
  rintro _ w2 ⟨v, rfl, ho, hb2⟩
  obtain ⟨a, c, rfl, hr⟩ := own_rowT ho
  have HB2 := hide (HB1.out.trans (hb2.mono HB1.out.size))
  have HR := hide hr
  clear CT ho hb2 HB1 hr
  by_cases he : Z.err = 0
  · have he' : (Z.err : Int) = 0 := by omega
    rw [he']
    by_cases hn : 3000 < Z.tk.length
    · go_wp2_with fail
      go_ret
      exact ⟨rfl, HB2.out⟩
    · have CS := hide (spaced_any a ga c gc Z.tk gs w2 HR.out (HG.out.below HB2.out (Nat.le_refl _)) (by omega) (fun t ht => (HA.out.2.1 t ht).1) hgl)
      go_wp2_with fail
      refine CS.out.mono ?_
      rintro _ w3 ⟨o, rfl, hol, hos, hb3⟩
      have HB3 := hide (HB2.out.trans (hb3.mono HB2.out.size))
      have hlo : o.data.toList.length = o.size := by simp
      clear CS HB2 hb3
      by_cases hbig : 65536 < o.size
      · go_wp2_with fail
        go_ret
        exact ⟨rfl, HB3.out⟩
      · have HE := hide (HQ.out o.data.toList he hol (by omega))
        have CP1 := hide (CP.out w3 (HV.out.up HB3.out.size fun k hk => HB3.out.block k hk))
        have CP2 := hide (fun w h => parse_any o w h)
        generalize parseM o.data.toList = P2 at HE CP2
        obtain ⟨S, er, p1⟩ := P
        obtain ⟨S2, er2, p2⟩ := P2
        simp only at HE CP1 CP2 HH
        obtain ⟨h1, h2⟩ := HE.out
        subst h1
        subst h2
        clear HE CP hol hlo
        go_wp2_with fail
        refine CP1.out.mono ?_
        rintro _ w4 ⟨R, st, rfl, hR, hS, hb4⟩
        obtain ⟨xa1, xc1, xa2, xc2, xa3, xc3, xa4, xc4, xa5, xc5, xa6, xc6, xa7, xc7, xa8, xc8, rfl⟩ := hS.form
        have BA := (Below.refl w4.heap.size w4).alloc (Nat.le_refl _) (.cells #[.string ⟨S.title.toArray⟩, .slice xa1 S.kinds.length xc1, .slice xa2 S.members.length xc2, .slice xa3 S.preds.length xc3, .slice xa4 S.classes.length xc4, .slice xa5 S.sources.length xc5, .slice xa6 S.rules.length xc6, .slice xa7 S.excepts.length xc7, .slice xa8 S.totals.length xc8] 31)
        have HB4 := hide ((HB3.out.trans (hb4.mono HB3.out.size)).trans (BA.mono (Nat.le_trans HB3.out.size hb4.size)))
        have HS := hide (hS.keep (Kp.of_below BA))
        have LB := hide (heap_alloc_new w4 (.cells #[.string ⟨S.title.toArray⟩, .slice xa1 S.kinds.length xc1, .slice xa2 S.members.length xc2, .slice xa3 S.preds.length xc3, .slice xa4 S.classes.length xc4, .slice xa5 S.sources.length xc5, .slice xa6 S.rules.length xc6, .slice xa7 S.excepts.length xc7, .slice xa8 S.totals.length xc8] 31))
        clear CP1 hb4 hR hS HB3 BA
        simp only [St9.agg]
        go_wp2_with fail
        refine (CP2.out _ (HV.out.up HB4.out.size fun k hk => HB4.out.block k hk)).mono ?_
        rintro _ w5 ⟨R2, st2, rfl, hR2, hS2, hb5⟩
        obtain ⟨ya1, yc1, ya2, yc2, ya3, yc3, ya4, yc4, ya5, yc5, ya6, yc6, ya7, yc7, ya8, yc8, rfl⟩ := hS2.form
        have BA := (Below.refl w5.heap.size w5).alloc (Nat.le_refl _) (.cells #[.string ⟨S.title.toArray⟩, .slice ya1 S.kinds.length yc1, .slice ya2 S.members.length yc2, .slice ya3 S.preds.length yc3, .slice ya4 S.classes.length yc4, .slice ya5 S.sources.length yc5, .slice ya6 S.rules.length yc6, .slice ya7 S.excepts.length yc7, .slice ya8 S.totals.length yc8] 31)
        have HB5 := hide ((HB4.out.trans (hb5.mono HB4.out.size)).trans (BA.mono (Nat.le_trans HB4.out.size hb5.size)))
        have CS := hide (yes_SameStatute _ ((HS.out.keep (Kp.of_below hb5)).keep (Kp.of_below BA)) (hS2.keep (Kp.of_below BA)) HH.out.small)
        have LB1 := hide ((hb5.block _ (loc_lt LB.out)).trans LB.out)
        have LB2 := hide ((BA.block _ (loc_lt LB1.out)).trans LB1.out)
        obtain ⟨z0, z1, z2, z3, z4, z5, z6, z7, z8, zz⟩ := row9 LB2.out
        have n1 := Nat.ne_of_lt (loc_lt LB1.out)
        have n2 := Nat.ne_of_gt (loc_lt LB1.out)
        clear CP2 hb5 hR2 hS2 HB4 HS LB BA
        simp only [St9.agg] at CS ⊢
        go_wp2_with fail
        refine CS.out.mono ?_
        rintro _ w6 ⟨rfl, hb6⟩
        have HB6 := hide (HB5.out.trans (hb6.mono HB5.out.size))
        clear CS hb6 HB5
        go_wp2_with fail
        go_ret
        exact ⟨rfl, HB6.out⟩
  · have he' : ¬ (Z.err : Int) = 0 := by omega
    go_wp2_with fail
    go_ret
    exact ⟨rfl, HB2.out⟩
end Go.Proofs.YthnjmfkiohgkkaaGreatDoor.Sy
