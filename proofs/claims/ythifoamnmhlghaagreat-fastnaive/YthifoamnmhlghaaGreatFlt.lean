/- fault, solve, Solve. -/
import Derived.Test.YthifoamnmhlghaaGreatNkn
namespace Go.Proofs.YthifoamnmhlghaaGreat
open Go.RowKit

section
variable {w : World} {T : Th} {F : List Int} {fa ra ba ea : Option Addr} {fc rc bc ec : Nat}
set_option maxRecDepth 100000 in
set_option maxHeartbeats 3200000 in
theorem checkFacts_any (hF : Ints w.heap.size w F (.slice ea F.length ec)) :
    Calls Tryz.prog 15 #[tv T fa fc ra rc ba bc, .slice ea F.length ec] w fun e w' => e = .returned (.int .i64 (if risesM F T.lits then 0 else 181)) ∧ Below w.heap.size w w' := by
  have hB := below_new w (.cells #[.int .i64 T.lits, .slice fa T.foes.length fc, .slice ra T.rules.length rc, .slice ba T.beats.length bc] 25)
  have hX := heap_alloc_new w (.cells #[.int .i64 T.lits, .slice fa T.foes.length fc, .slice ra T.rules.length rc, .slice ba T.beats.length bc] 25)
  have HF := hide (Ints.go hB hF)
  have hl := hF.lim
  obtain ⟨b, hb⟩ : ∃ b, risesM F T.lits = b := ⟨_, rfl⟩
  have CR := hide (rising_any (c := ec) HF.out.at1 hl T.lits)
  rw [hb] at CR ⊢
  have HB := hide hB
  clear hB hF hb
  go_enter Tryz.func15, Tryz.ntmps15
  go_upto_region 1 with fail
  generalize w.alloc (.cells #[.int .i64 T.lits, .slice fa T.foes.length fc, .slice ra T.rules.length rc, .slice ba T.beats.length bc] 25) = W at *
  obtain ⟨-, c0, c1, c2, c3⟩ := Bt.of hX
  clear hX
  cases b with
  | true =>
    go_wp2_with (go_at_call 26; refine CR.out.mono ?_; rintro _ w2 ⟨rfl, rfl⟩)
    go_ret
    exact ⟨rfl, HB.out⟩
  | false =>
    go_wp2_with (go_at_call 26; refine CR.out.mono ?_; rintro _ w2 ⟨rfl, rfl⟩)
    go_ret
    exact ⟨rfl, HB.out⟩
set_option maxRecDepth 100000 in
set_option maxHeartbeats 3200000 in
theorem fault_any (h : TA w.heap.size w T fa fc ra rc ba bc) (hF : Ints w.heap.size w F (.slice ea F.length ec)) :
    Calls Tryz.prog 12 #[tv T fa fc ra rc ba bc, .slice ea F.length ec] w fun e w' => e = .returned (.int .i64 (faultM T F)) ∧ Below w.heap.size w w' := by
  have hB := below_new w (.cells #[.int .i64 T.lits, .slice fa T.foes.length fc, .slice ra T.rules.length rc, .slice ba T.beats.length bc] 25)
  have hX := heap_alloc_new w (.cells #[.int .i64 T.lits, .slice fa T.foes.length fc, .slice ra T.rules.length rc, .slice ba T.beats.length bc] 25)
  have HF := hide (Ints.go hB hF)
  have hL := TR.go hB h
  have CC := hide (check_any hL)
  have HB := hide hB
  have HX := hide hX
  obtain ⟨e0, p0, hab⟩ : ∃ a b, checkM T = (a, b) := ⟨_, _, rfl⟩
  rw [hab] at CC
  unfold dup at CC
  simp only at CC
  have HE : Hid ((checkM T).1 = e0) := hide (by rw [hab])
  clear h hB hL hab hF
  go_enter Tryz.func12, Tryz.ntmps12
  go_upto_region 1 with fail
  generalize w.alloc (.cells #[.int .i64 T.lits, .slice fa T.foes.length fc, .slice ra T.rules.length rc, .slice ba T.beats.length bc] 25) = W at *
  obtain ⟨-, c0, c1, c2, c3⟩ := Bt.of hX
  clear hX
  by_cases ha : e0 = 0
  · subst ha
    go_upto_region 4 with (go_at_call 14; refine CC.out.mono ?_; rintro _ w1 ⟨rfl, hw1⟩; have HB1 := hide (HB.out.trans (hw1.mono HB.out.size)); have HI1 := hide (Ints.go hw1 HF.out); have HX1 := hide ((hw1.block _ (loc_lt HX.out)).trans HX.out); clear hw1)
    clear c0 c1 c2 c3 CC HB HX HF
    obtain ⟨-, c0, c1, c2, c3⟩ := Bt.of HX1.out
    have CF := hide (checkFacts_any (T := T) (fa := fa) (fc := fc) (ra := ra) (rc := rc) (ba := ba) (bc := bc) HI1.out)
    obtain ⟨v, hv⟩ : ∃ v, (if risesM F T.lits then (0 : Int) else 181) = v := ⟨_, rfl⟩
    have HV := hide hv
    rw [hv] at CF
    clear hv
    go_wp2_with (go_at_call 15; refine CF.out.mono ?_; rintro _ w2 ⟨rfl, hw2⟩; have HB2 := hide (HB1.out.trans (hw2.mono HB1.out.size)); clear hw2)
    go_ret
    refine ⟨?_, HB2.out⟩
    unfold faultM
    rw [HE.out, if_neg (by decide), HV.out]
    rfl
  · have hab2 : (e0 != 0) = true := by simpa using ha
    have HF0 : Hid (faultM T F = e0) := hide (by unfold faultM; rw [HE.out, if_pos ha])
    go_wp2_with (go_at_call 14; refine CC.out.mono ?_; rintro _ w1 ⟨rfl, hw1⟩; have HB1 := hide (HB.out.trans (hw1.mono HB.out.size)); clear hw1)
    go_ret
    exact ⟨by rw [HF0.out]; rfl, HB1.out⟩
/-- How a question of both kinds ends. -/
def Sgd (T : Th) (F l : List Int) (w : World) (e : Ending) (w' : World) : Prop :=
  (faultM T F ≠ 0 ∧ e = .returned (.tuple #[.slice none 0 0, .int .i64 (faultM T F)])) ∨
  (faultM T F = 0 ∧ ∃ xa xc, e = .returned (.tuple #[.slice xa l.length xc, .int .i64 0]) ∧ w'.ownsRow w.heap.size 3 1 (.slice xa l.length xc) l.length (ints l))
def selK (sg : List Int) (i : Int) (k : Nat) : List Int := ((List.range k).filter fun q => decide (sg.getD q 0 = i)).map Int.ofNat
theorem selK_succ {sg : List Int} {i : Int} {k : Nat} : selK sg i (k + 1) = if sg.getD k 0 = i then selK sg i k ++ [(k : Int)] else selK sg i k := by
  unfold selK
  rw [List.range_succ, List.filter_append, List.map_append]
  by_cases h : sg.getD k 0 = i
  · rw [if_pos h, List.filter_cons_of_pos (by rw [decide_eq_true_eq]; exact h)]; rfl
  · rw [if_neg h, List.filter_cons_of_neg (by rw [decide_eq_true_eq]; exact h)]; simp
theorem selK_len {sg : List Int} {i : Int} {k : Nat} : (selK sg i k).length ≤ k := by
  unfold selK
  rw [List.length_map]
  exact Nat.le_trans (List.length_filter_le _ _) (by simp)
end
end Go.Proofs.YthifoamnmhlghaaGreat
