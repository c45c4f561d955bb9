/- The page's examples; of a refused text the statute is empty. By program. -/
import Derived.Test.YthnjmfkiohgkkaaGreatDoorParse5
import Derived.Test.YthnjmfkiohgkkaaGreatDoorNz5
namespace Go.Proofs.YthnjmfkiohgkkaaGreatDoor.Sy
open Go.RowKit

def S1 : StatM := ⟨[], [[112, 101, 114, 115, 111, 110]], [([97, 110, 110, 97], [112, 101, 114, 115, 111, 110]), ([98, 101, 110], [112, 101, 114, 115, 111, 110])], [⟨[111, 108, 100], 1, [[112, 101, 114, 115, 111, 110]], []⟩], [], [], [], [], []⟩

theorem kt_one : kt (lexT [107, 105, 110, 100, 32, 112, 101, 114, 115, 111, 110, 46, 32, 109, 101, 109, 98, 101, 114, 32, 97, 110, 110, 97, 44, 32, 98, 101, 110, 32, 58, 32, 112, 101, 114, 115, 111, 110, 46, 32, 112, 114, 101, 100, 32, 111, 108, 100, 40, 112, 101, 114, 115, 111, 110, 41, 46]).tk = [(1, [107, 105, 110, 100]), (1, [112, 101, 114, 115, 111, 110]), (6, [46]), (1, [109, 101, 109, 98, 101, 114]), (1, [97, 110, 110, 97]), (6, [44]), (1, [98, 101, 110]), (6, [58]), (1, [112, 101, 114, 115, 111, 110]), (6, [46]),
    (1, [112, 114, 101, 100]), (1, [111, 108, 100]), (6, [40]), (1, [112, 101, 114, 115, 111, 110]), (6, [41]), (6, [46])] := by decide +kernel
theorem err_one : (lexT [107, 105, 110, 100, 32, 112, 101, 114, 115, 111, 110, 46, 32, 109, 101, 109, 98, 101, 114, 32, 97, 110, 110, 97, 44, 32, 98, 101, 110, 32, 58, 32, 112, 101, 114, 115, 111, 110, 46, 32, 112, 114, 101, 100, 32, 111, 108, 100, 40, 112, 101, 114, 115, 111, 110, 41, 46]).err = 0 := by decide +kernel
theorem kt_two : kt (lexT [107, 105, 110, 100, 32, 114, 117, 108, 101, 46]).tk = [(1, [107, 105, 110, 100]), (1, [114, 117, 108, 101]), (6, [46])] := by decide +kernel
theorem err_two : (lexT [107, 105, 110, 100, 32, 114, 117, 108, 101, 46]).err = 0 := by decide +kernel
theorem at_two : placeAt (lexT [107, 105, 110, 100, 32, 114, 117, 108, 101, 46]).tk 10 1 = 5 := by decide +kernel
theorem parse_one : parseM [107, 105, 110, 100, 32, 112, 101, 114, 115, 111, 110, 46, 32, 109, 101, 109, 98, 101, 114, 32, 97, 110, 110, 97, 44, 32, 98, 101, 110, 32, 58, 32, 112, 101, 114, 115, 111, 110, 46, 32, 112, 114, 101, 100, 32, 111, 108, 100, 40, 112, 101, 114, 115, 111, 110, 41, 46] = (S1, 0, 57) := by
  unfold parseM
  rw [if_pos err_one, kt_one, alive_one FN]
  rfl
theorem parse_two : parseM [107, 105, 110, 100, 32, 114, 117, 108, 101, 46] = (StatM.none, 51, 5) := by
  unfold parseM
  rw [if_pos err_two, kt_two, alive_two FN]
  show (StatM.none, (51 : Int), placeAt (lexT [107, 105, 110, 100, 32, 114, 117, 108, 101, 46]).tk 10 1) = _
  rw [at_two]

theorem num_any (x : Int) (w : World) : Calls Tryz.prog 11 #[.int .i64 x] w fun e w' => e = .returned (.int .i64 x) ∧ w' = w := by
  go_enter Tryz.func11, Tryz.ntmps11
  go_wp2_with fail
  go_ret
  exact ⟨rfl, rfl⟩

theorem parse_at {l : Bytes} {S : StatM} {e : Int} {p : Nat} (h : parseM l = (S, e, p)) (w : World) (hV : Vars w.heap.size w) :
    Calls Tryz.prog 8 #[.string ⟨l.toArray⟩] w fun r w' => ∃ R st, r = .returned (.tuple #[St9.agg st, .int .i64 e, .int .i64 p]) ∧ w.heap.size ≤ R ∧ SRep R w' st S ∧ Below w.heap.size w w' := by
  have h1 := parse_any ⟨l.toArray⟩ w hV
  have h2 : (⟨l.toArray⟩ : ByteArray).data.toList = l := by simp
  rw [h2, h] at h1
  exact h1

set_option maxRecDepth 100000 in
set_option maxHeartbeats 1600000 in
theorem alive_any (w : World) (hV : Vars w.heap.size w) : Calls Tryz.prog 12 #[] w fun e w' => e = .returned (.bool true) ∧ Below w.heap.size w w' := by
  have C1 := hide (parse_at parse_one w hV)
  have C2 := hide (fun w h => parse_at parse_two w h)
  have HV := hide hV
  clear hV
  go_enter Tryz.func12, Tryz.ntmps12
  go_wp2_with fail
  refine C1.out.mono ?_
  rintro _ w1 ⟨R, st, rfl, hR, hS, hb⟩
  obtain ⟨f0, f1, f2, f3, f4, f5, f6, f7, f8⟩ := st
  have e0 := hS.title
  simp only at e0
  subst e0
  obtain ⟨ka1, kc1, e1⟩ := rows_form hS.kinds
  simp only at e1
  subst e1
  obtain ⟨mg, mcap, ys, e2, y1, y2, y3, y4⟩ := pairs_row hS.members (by decide)
  simp only at e2
  subst e2
  obtain ⟨ka3, kc3, e3⟩ := rows_form hS.preds
  simp only at e3
  subst e3
  obtain ⟨ka4, kn4, kc4, e4⟩ := rows_form3 hS.classes
  obtain ⟨ka5, kn5, kc5, e5⟩ := rows_form3 hS.sources
  obtain ⟨ka6, kn6, kc6, e6⟩ := rows_form3 hS.rules
  obtain ⟨ka7, kn7, kc7, e7⟩ := rows_form3 hS.excepts
  obtain ⟨ka8, kn8, kc8, e8⟩ := rows_form3 hS.totals
  simp only at e4 e5 e6 e7 e8
  subst e4 e5 e6 e7 e8
  have hben : w1.cell? ⟨mg, 2, none⟩ = some (.string ⟨#[98, 101, 110]⟩) := by
    have h4 := y4 1 ([98, 101, 110], [112, 101, 114, 115, 111, 110]) rfl
    unfold cM at h4
    have h0 := congrArg (fun l => l[0]?) h4
    simp only [List.getElem?_take, List.getElem?_drop] at h0
    simp at h0
    have := y2 2 _ h0
    rw [show ((⟨mg, 0, none⟩ : Addr).add 2) = ⟨mg, 2, none⟩ from rfl] at this
    exact this
  have hmg := World.block_lt_of_cell? w1 ⟨mg, 2, none⟩ hben
  have HB := hide hb
  have HBEN := hide hben
  clear hS y1 y2 y3 y4 hben hR hb C1
  simp only [St9.agg, show S1.title = [] from rfl, show S1.kinds.length = 1 from rfl, show S1.members.length = 2 from rfl, show S1.preds.length = 1 from rfl]
  have B1 := (Below.refl w1.heap.size w1).alloc (Nat.le_refl _) (.cells #[.string ⟨[].toArray⟩, .slice ka1 1 kc1, .slice (some ⟨mg, 0, none⟩) 2 mcap, .slice ka3 1 kc3, .slice ka4 kn4 kc4, .slice ka5 kn5 kc5, .slice ka6 kn6 kc6, .slice ka7 kn7 kc7, .slice ka8 kn8 kc8] 31)
  have hV1 : Vars (w1.alloc (.cells #[.string ⟨[].toArray⟩, .slice ka1 1 kc1, .slice (some ⟨mg, 0, none⟩) 2 mcap, .slice ka3 1 kc3, .slice ka4 kn4 kc4, .slice ka5 kn5 kc5, .slice ka6 kn6 kc6, .slice ka7 kn7 kc7, .slice ka8 kn8 kc8] 31)).heap.size (w1.alloc (.cells #[.string ⟨[].toArray⟩, .slice ka1 1 kc1, .slice (some ⟨mg, 0, none⟩) 2 mcap, .slice ka3 1 kc3, .slice ka4 kn4 kc4, .slice ka5 kn5 kc5, .slice ka6 kn6 kc6, .slice ka7 kn7 kc7, .slice ka8 kn8 kc8] 31)) := HV.out.up (by have := HB.out.size; simp; omega) fun k hk => (B1.block k (Nat.lt_of_lt_of_le hk HB.out.size)).trans (HB.out.block k hk)
  have C3 := hide (C2.out _ hV1)
  have N1 := hide (heap_alloc_new w1 (.cells #[.string ⟨[].toArray⟩, .slice ka1 1 kc1, .slice (some ⟨mg, 0, none⟩) 2 mcap, .slice ka3 1 kc3, .slice ka4 kn4 kc4, .slice ka5 kn5 kc5, .slice ka6 kn6 kc6, .slice ka7 kn7 kc7, .slice ka8 kn8 kc8] 31))
  have BEN1 := hide ((B1.cell (p := ⟨mg, 2, none⟩) hmg).trans HBEN.out)
  have HB1 := hide (HB.out.trans (B1.mono HB.out.size))
  clear B1 hV1 C2 HBEN HB
  go_wp2_with fail
  refine C3.out.mono ?_
  rintro _ w2 ⟨R2, st2, rfl, hR2, hS2, hb2⟩
  obtain ⟨g0, g1, g2, g3, g4, g5, g6, g7, g8⟩ := st2
  have e0 := hS2.title
  simp only at e0
  subst e0
  obtain ⟨la1, ln1, lc1, e1⟩ := rows_form3 hS2.kinds
  simp only at e1
  subst e1
  obtain ⟨la2, ln2, lc2, e2⟩ := rows_form3 hS2.members
  simp only at e2
  subst e2
  obtain ⟨la3, ln3, lc3, e3⟩ := rows_form3 hS2.preds
  simp only at e3
  subst e3
  obtain ⟨la4, ln4, lc4, e4⟩ := rows_form3 hS2.classes
  simp only at e4
  subst e4
  obtain ⟨la5, ln5, lc5, e5⟩ := rows_form3 hS2.sources
  simp only at e5
  subst e5
  obtain ⟨la6, ln6, lc6, e6⟩ := rows_form3 hS2.rules
  simp only at e6
  subst e6
  obtain ⟨la7, ln7, lc7, e7⟩ := rows_form3 hS2.excepts
  simp only at e7
  subst e7
  obtain ⟨la8, ln8, lc8, e8⟩ := rows_form3 hS2.totals
  simp only at e8
  subst e8
  have B2 := (Below.refl w2.heap.size w2).alloc (Nat.le_refl _) (.cells #[.string ⟨[].toArray⟩, .slice la1 ln1 lc1, .slice la2 ln2 lc2, .slice la3 ln3 lc3, .slice la4 ln4 lc4, .slice la5 ln5 lc5, .slice la6 ln6 lc6, .slice la7 ln7 lc7, .slice la8 ln8 lc8] 31)
  have hl1 : w1.heap.size < (w1.alloc (.cells #[.string ⟨[].toArray⟩, .slice ka1 1 kc1, .slice (some ⟨mg, 0, none⟩) 2 mcap, .slice ka3 1 kc3, .slice ka4 kn4 kc4, .slice ka5 kn5 kc5, .slice ka6 kn6 kc6, .slice ka7 kn7 kc7, .slice ka8 kn8 kc8] 31)).heap.size := by simp
  have L1 := (B2.block w1.heap.size (Nat.lt_of_lt_of_le hl1 hb2.size)).trans ((hb2.block w1.heap.size hl1).trans N1.out)
  have ben := (B2.cell (p := ⟨mg, 2, none⟩) (Nat.lt_of_lt_of_le (Nat.lt_trans hmg hl1) hb2.size)).trans ((hb2.cell (p := ⟨mg, 2, none⟩) (Nat.lt_trans hmg hl1)).trans BEN1.out)
  have HB2 := hide (HB1.out.trans ((hb2.mono HB1.out.size).trans (B2.mono (Nat.le_trans HB1.out.size hb2.size))))
  obtain ⟨z0, z1, z2, z3, z4, z5, z6, z7, z8, z9⟩ := row9 L1
  clear hS2 hb2 B2 L1 N1 BEN1 HB1 C3 hR2
  simp only [St9.agg, show StatM.none.title = [] from rfl]
  have CN := hide num_any
  go_wp2_with (go_at_call 11; refine (CN.out _ _).mono ?_; rintro _ w9 ⟨rfl, hw9⟩; subst w9)
  go_ret
  exact ⟨rfl, HB2.out⟩
end Go.Proofs.YthnjmfkiohgkkaaGreatDoor.Sy
