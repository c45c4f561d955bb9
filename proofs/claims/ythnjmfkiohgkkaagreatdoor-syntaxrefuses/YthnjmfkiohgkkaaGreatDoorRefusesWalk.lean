/- SyntaxRefuses: its walk. -/
import Derived.Test.YthnjmfkiohgkkaaGreatDoorAlive5
namespace Go.Proofs.YthnjmfkiohgkkaaGreatDoor.Sy
open Go.RowKit

set_option maxRecDepth 100000 in
set_option maxHeartbeats 1600000 in
theorem refuses_walk (sB : ByteArray) (w : World) (hV : Vars w.heap.size w) (hs : sB.size ≤ 140737488355328) :
    Calls Tryz.prog 4 #[.string sB] w fun e w' => e = .returned (.bool true) ∧ Below w.heap.size w w' := by
  have CA := hide (alive_any w hV)
  have CP := hide (fun w h => parse_any sB w h)
  have HC := hide (parse_cases sB.data.toList)
  have hsl : sB.data.toList.length = sB.size := by simp
  rw [hsl] at HC
  generalize parseM sB.data.toList = P at CP HC
  obtain ⟨S, er, at'⟩ := P
  simp only at CP HC
  have HV := hide hV
  clear hV hsl
  go_enter Tryz.func4, Tryz.ntmps4
  go_wp2_with fail
  refine CA.out.mono ?_
  rintro _ w1 ⟨rfl, hb1⟩
  have CP1 := hide (CP.out w1 (HV.out.up hb1.size fun k hk => hb1.block k hk))
  have HB1 := hide hb1
  clear CA CP HV hb1
  go_wp2_with fail
  refine CP1.out.mono ?_
  rintro _ w2 ⟨R, st, rfl, hR, hS, hb2⟩
  obtain ⟨g0, g1, g2, g3, g4, g5, g6, g7, g8⟩ := st
  have e0 := hS.title
  simp only at e0
  subst e0
  obtain ⟨la1, lc1, e1⟩ := rows_form hS.kinds
  simp only at e1
  subst e1
  obtain ⟨la2, lc2, e2⟩ := rows_form hS.members
  simp only at e2
  subst e2
  obtain ⟨la3, lc3, e3⟩ := rows_form hS.preds
  simp only at e3
  subst e3
  obtain ⟨la4, lc4, e4⟩ := rows_form hS.classes
  simp only at e4
  subst e4
  obtain ⟨la5, lc5, e5⟩ := rows_form hS.sources
  simp only at e5
  subst e5
  obtain ⟨la6, lc6, e6⟩ := rows_form hS.rules
  simp only at e6
  subst e6
  obtain ⟨la7, lc7, e7⟩ := rows_form hS.excepts
  simp only at e7
  subst e7
  obtain ⟨la8, lc8, e8⟩ := rows_form hS.totals
  simp only at e8
  subst e8
  have HB2 := hide (HB1.out.trans (hb2.mono HB1.out.size))
  have CN := hide num_any
  clear hS hb2 HB1 CP1 hR
  simp only [St9.agg]
  rcases HC.out with ⟨h1, h2⟩ | ⟨h1, h2, h3⟩
  · subst h1
    subst h2
    have q1 : ¬ ((sB.size : Nat) : Int) < 0 := by omega
    clear HC
    have HB3 := hide (HB2.out.alloc HB2.out.size (.cells #[.string ⟨S.title.toArray⟩, .slice la1 S.kinds.length lc1, .slice la2 S.members.length lc2, .slice la3 S.preds.length lc3, .slice la4 S.classes.length lc4, .slice la5 S.sources.length lc5, .slice la6 S.rules.length lc6, .slice la7 S.excepts.length lc7, .slice la8 S.totals.length lc8] 31))
    go_wp2_with (go_at_call 11; refine (CN.out _ _).mono ?_; rintro _ w9 ⟨rfl, hw9⟩; subst w9)
    go_ret
    exact ⟨rfl, HB3.out⟩
  · subst h2
    have q1 : ¬ ((at' : Nat) : Int) < 0 := by omega
    have q2 : ¬ ((sB.size : Nat) : Int) < ((at' : Nat) : Int) := by omega
    clear HC
    simp only [show StatM.none.title = [] from rfl, show StatM.none.kinds.length = 0 from rfl, show StatM.none.members.length = 0 from rfl, show StatM.none.preds.length = 0 from rfl, show StatM.none.classes.length = 0 from rfl, show StatM.none.sources.length = 0 from rfl, show StatM.none.rules.length = 0 from rfl, show StatM.none.excepts.length = 0 from rfl, show StatM.none.totals.length = 0 from rfl]
    have HB3 := hide (HB2.out.alloc HB2.out.size (.cells #[.string ⟨[].toArray⟩, .slice la1 0 lc1, .slice la2 0 lc2, .slice la3 0 lc3, .slice la4 0 lc4, .slice la5 0 lc5, .slice la6 0 lc6, .slice la7 0 lc7, .slice la8 0 lc8] 31))
    have CS := hide (nil_SameStatute la1 la2 la3 la4 la5 la6 la7 la8 lc1 lc2 lc3 lc4 lc5 lc6 lc7 lc8 (w2.alloc (.cells #[.string ⟨[].toArray⟩, .slice la1 0 lc1, .slice la2 0 lc2, .slice la3 0 lc3, .slice la4 0 lc4, .slice la5 0 lc5, .slice la6 0 lc6, .slice la7 0 lc7, .slice la8 0 lc8] 31)))
    go_wp2_with (go_at_call 11; refine (CN.out _ _).mono ?_; rintro _ w9 ⟨rfl, hw9⟩; subst w9)
    refine CS.out.mono ?_
    rintro _ w5 ⟨rfl, hb5⟩
    have HB5 := hide (HB3.out.trans (hb5.mono HB3.out.size))
    clear hb5 CS HB3
    go_wp2_with fail
    go_ret
    exact ⟨rfl, HB5.out⟩
end Go.Proofs.YthnjmfkiohgkkaaGreatDoor.Sy
