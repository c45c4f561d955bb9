/- SyntaxOwn: its walk. -/
import Derived.Test.YthnjmfkiohgkkaaGreatDoorHeld5
import Derived.Test.YthnjmfkiohgkkaaGreatDoorCopy8
import Derived.Test.YthnjmfkiohgkkaaGreatDoorMark5
namespace Go.Proofs.YthnjmfkiohgkkaaGreatDoor.Sy
open Go.RowKit

/-- A statute lies behind what its blocks lie behind, and behind less. -/
theorem SRep.low {R R' : Nat} {w : World} {st : St9} {S : StatM} (h : SRep R w st S) (hle : R' ≤ R) : SRep R' w st S := by
  have hz : ∀ g, Beh R st.kinds g → Beh R' st.kinds g := fun g hg => ⟨Nat.lt_of_le_of_lt hle hg.1, hg.2⟩
  exact ⟨h.title, Rows.mono h.kinds (fun g (hg : R < g) => Nat.lt_of_le_of_lt hle hg) fun _ _ h => h, Rows.mono h.members hz fun _ _ h => h, Rows.mono h.preds hz fun _ _ h => h.mono hz, Rows.mono h.classes hz fun _ _ h => h.mono hz,
    Rows.mono h.sources hz fun _ _ h => h, Rows.mono h.rules hz fun _ _ h => h.mono hz, Rows.mono h.excepts hz fun _ _ h => h, Rows.mono h.totals hz fun _ _ h => h.mono hz⟩

set_option maxRecDepth 100000 in
set_option maxHeartbeats 3200000 in
theorem own_walk (sB : ByteArray) (w : World) (hV : Vars w.heap.size w) :
    Calls Tryz.prog 7 #[.string sB] w fun e w' => e = .returned (.bool true) ∧ Below w.heap.size w w' := by
  have CA := hide (alive_any w hV)
  have CP := hide (fun w h => parse_any sB w h)
  have HH := hide (parse_held sB.data.toList)
  have HV := hide hV
  clear hV
  generalize parseM sB.data.toList = P at *
  obtain ⟨S, er, p1⟩ := P
  simp only at CP HH
  go_enter Tryz.func7, Tryz.ntmps7
  go_wp2_with fail
  refine CA.out.mono ?_
  rintro _ w1 ⟨rfl, hb1⟩
  have HB1 := hide hb1
  clear CA hb1
  go_wp2_with fail
  refine (CP.out w1 (HV.out.up HB1.out.size fun k hk => HB1.out.block k hk)).mono ?_
  rintro _ w2 ⟨R1, st1, rfl, hR1, hS1, hb2⟩
  obtain ⟨xa1, xc1, xa2, xc2, xa3, xc3, xa4, xc4, xa5, xc5, xa6, xc6, xa7, xc7, xa8, xc8, rfl⟩ := hS1.form
  have BA := (Below.refl w2.heap.size w2).alloc (Nat.le_refl _) (.cells #[.string ⟨S.title.toArray⟩, .slice xa1 S.kinds.length xc1, .slice xa2 S.members.length xc2, .slice xa3 S.preds.length xc3, .slice xa4 S.classes.length xc4, .slice xa5 S.sources.length xc5, .slice xa6 S.rules.length xc6, .slice xa7 S.excepts.length xc7, .slice xa8 S.totals.length xc8] 31)
  have HB2 := hide ((HB1.out.trans (hb2.mono HB1.out.size)).trans (BA.mono (Nat.le_trans HB1.out.size hb2.size)))
  have HS1 := hide (hS1.keep (Kp.of_below BA))
  have LA := hide (heap_alloc_new w2 (.cells #[.string ⟨S.title.toArray⟩, .slice xa1 S.kinds.length xc1, .slice xa2 S.members.length xc2, .slice xa3 S.preds.length xc3, .slice xa4 S.classes.length xc4, .slice xa5 S.sources.length xc5, .slice xa6 S.rules.length xc6, .slice xa7 S.excepts.length xc7, .slice xa8 S.totals.length xc8] 31))
  have CC := hide (copy_statute _ HS1.out HH.out.small)
  clear hb2 hR1 hS1 HB1 BA
  simp only [St9.agg] at CC ⊢
  go_wp2_with fail
  refine CC.out.mono ?_
  rintro _ w3 ⟨st2, rfl, hS2, hb3⟩
  obtain ⟨ya1, yc1, ya2, yc2, ya3, yc3, ya4, yc4, ya5, yc5, ya6, yc6, ya7, yc7, ya8, yc8, rfl⟩ := hS2.form
  have BA := (Below.refl w3.heap.size w3).alloc (Nat.le_refl _) (.cells #[.string ⟨S.title.toArray⟩, .slice ya1 S.kinds.length yc1, .slice ya2 S.members.length yc2, .slice ya3 S.preds.length yc3, .slice ya4 S.classes.length yc4, .slice ya5 S.sources.length yc5, .slice ya6 S.rules.length yc6, .slice ya7 S.excepts.length yc7, .slice ya8 S.totals.length yc8] 31)
  have HB3 := hide ((HB2.out.trans (hb3.mono HB2.out.size)).trans (BA.mono (Nat.le_trans HB2.out.size hb3.size)))
  have HS1b := hide ((HS1.out.keep (Kp.of_below hb3)).keep (Kp.of_below BA))
  have HS2 := hide (hS2.keep (Kp.of_below BA))
  have LA1 := hide ((hb3.block _ (loc_lt LA.out)).trans LA.out)
  have LA2 := hide ((BA.block _ (loc_lt LA1.out)).trans LA1.out)
  have LB := hide (heap_alloc_new w3 (.cells #[.string ⟨S.title.toArray⟩, .slice ya1 S.kinds.length yc1, .slice ya2 S.members.length yc2, .slice ya3 S.preds.length yc3, .slice ya4 S.classes.length yc4, .slice ya5 S.sources.length yc5, .slice ya6 S.rules.length yc6, .slice ya7 S.excepts.length yc7, .slice ya8 S.totals.length yc8] 31))
  have N1 := hide (loc_lt LA1.out)
  clear hb3 hS2 HB2 BA CC HS1 LA LA1
  go_wp2_with fail
  refine (CP.out _ (HV.out.up HB3.out.size fun k hk => HB3.out.block k hk)).mono ?_
  rintro _ w4 ⟨R3, st3, rfl, hR3, hS3, hb4⟩
  obtain ⟨za1, zc1, za2, zc2, za3, zc3, za4, zc4, za5, zc5, za6, zc6, za7, zc7, za8, zc8, rfl⟩ := hS3.form
  have BA := (Below.refl w4.heap.size w4).alloc (Nat.le_refl _) (.cells #[.string ⟨S.title.toArray⟩, .slice za1 S.kinds.length zc1, .slice za2 S.members.length zc2, .slice za3 S.preds.length zc3, .slice za4 S.classes.length zc4, .slice za5 S.sources.length zc5, .slice za6 S.rules.length zc6, .slice za7 S.excepts.length zc7, .slice za8 S.totals.length zc8] 31)
  have B34 := hb4.trans (BA.mono hb4.size)
  have HB4 := hide (HB3.out.trans (B34.mono HB3.out.size))
  have hle : min R3 w4.heap.size < (w4.alloc (.cells #[.string ⟨S.title.toArray⟩, .slice za1 S.kinds.length zc1, .slice za2 S.members.length zc2, .slice za3 S.preds.length zc3, .slice za4 S.classes.length zc4, .slice za5 S.sources.length zc5, .slice za6 S.rules.length zc6, .slice za7 S.excepts.length zc7, .slice za8 S.totals.length zc8] 31)).heap.size := by simp; omega
  have hlo : (w3.alloc (.cells #[.string ⟨S.title.toArray⟩, .slice ya1 S.kinds.length yc1, .slice ya2 S.members.length yc2, .slice ya3 S.preds.length yc3, .slice ya4 S.classes.length yc4, .slice ya5 S.sources.length yc5, .slice ya6 S.rules.length yc6, .slice ya7 S.excepts.length yc7, .slice ya8 S.totals.length yc8] 31)).heap.size ≤ min R3 w4.heap.size := Nat.le_min.2 ⟨hR3, hb4.size⟩
  have CM := hide (mark_any _ ((hS3.keep (Kp.of_below BA)).low (Nat.min_le_left R3 w4.heap.size)) HH.out.small hle)
  have HB34 := hide B34
  have HLO := hide hlo
  clear hb4 BA hS3 CP B34 hR3 hle hlo
  simp only [St9.agg] at CM ⊢
  go_wp2_with fail
  refine CM.out.mono ?_
  rintro _ w5 ⟨rfl, hb5⟩
  have B35 := HB34.out.trans (hb5.mono (Nat.le_succ_of_le HLO.out))
  have HB5 := hide (HB4.out.trans (hb5.mono (Nat.le_succ_of_le (Nat.le_trans HB3.out.size HLO.out))))
  have CS := hide (yes_SameStatute w5 (HS1b.out.keep (Kp.of_below B35)) (HS2.out.keep (Kp.of_below B35)) HH.out.small)
  have LA3 := hide ((B35.block _ (loc_lt LA2.out)).trans LA2.out)
  have LB3 := hide ((B35.block _ (loc_lt LB.out)).trans LB.out)
  obtain ⟨k0, k1, k2, k3, k4, k5, k6, k7, k8, kk⟩ := row9 LA3.out
  obtain ⟨l0, l1, l2, l3, l4, l5, l6, l7, l8, ll⟩ := row9 LB3.out
  clear hb5 B35 CM HB34 HLO LA2 LB HB3 HB4 HS1b HS2
  simp only [St9.agg] at CS
  go_wp2_with fail
  refine CS.out.mono ?_
  rintro _ w6 ⟨rfl, hb6⟩
  have HB6 := hide (HB5.out.trans (hb6.mono HB5.out.size))
  clear CS hb6 HB5
  go_wp2_with fail
  go_ret
  exact ⟨rfl, HB6.out⟩
end Go.Proofs.YthnjmfkiohgkkaaGreatDoor.Sy
