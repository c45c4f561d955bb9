/- The book is apart where two lists are, and the others hold nothing. By program (tools/gen_apart2.py). -/
import Derived.Test.YtlllgndbcagkgabNils
import Derived.Test.YtlllgndbcagkgabSmall
namespace Go.Proofs.Ytlllgndbcagkgab
open Go.RowKit

/-- All lists but two are nil. -/
def Empty2 (bb : Nat) (w : World) : Prop := ∀ f, f < 24 → f ≠ 2 → f ≠ 13 → w.cell? ⟨bb, f, none⟩ = some (.slice none 0 0)

theorem Empty2.below {bb B : Nat} {w w' : World} (h : Empty2 bb w) (hb : Below B w w') (hB : bb < B) : Empty2 bb w' := fun f hf h1 h2 => (hb.cell (p := ⟨bb, f, none⟩) hB).trans (h f hf h1 h2)

set_option maxRecDepth 100000 in
set_option maxHeartbeats 4000000 in
theorem apart_two (bb B : Nat) (w : World) (S : World → Prop) (hB : bb < B) (hE : Empty2 bb w) (C1 : Calls Try.prog 15 #[.pointer (some ⟨bb, 0, none⟩)] w fun e w' => e = .returned (.bool true) ∧ Below B w w' ∧ S w')
    (C2 : ∀ w1, S w1 → Calls Try.prog 20 #[.pointer (some ⟨bb, 0, none⟩)] w1 fun e w' => e = .returned (.bool true) ∧ Below B w1 w') :
    Calls Try.prog 9 #[.pointer (some ⟨bb, 0, none⟩)] w fun e w' => e = .returned (.bool true) ∧ Below B w w' := by
  have HE := hide hE
  have HC1 := hide C1
  have HC2 := hide C2
  clear hE C1 C2
  go_enter Try.func9, Try.ntmps9
  go_wp2_with (first
    | (go_at_call 13; refine (nilBytes bb _ (HE.out 0 (by decide) (by decide) (by decide))).mono ?_; rintro e w' ⟨rfl, hww⟩; subst w')
    | (go_at_call 14; refine (nilInts bb _ (HE.out 1 (by decide) (by decide) (by decide))).mono ?_; rintro e w' ⟨rfl, hww⟩; subst w'))
  refine HC1.out.mono ?_
  rintro e w1 ⟨rfl, hb1, hs1⟩
  have HE1 : Hid (Empty2 bb w1) := HE.out.below hb1 hB
  have HS1 := hide hs1
  have HB1 := hide hb1
  clear hs1 hb1
  go_wp2_with (first
    | (go_at_call 16; refine (nilMarks bb _ (HE1.out 3 (by decide) (by decide) (by decide))).mono ?_; rintro e w' ⟨rfl, hww⟩; subst w')
    | (go_at_call 17; refine (nilPairs bb _ (HE1.out 4 (by decide) (by decide) (by decide))).mono ?_; rintro e w' ⟨rfl, hww⟩; subst w')
    | (go_at_call 18; refine (nilMoney bb _ (HE1.out 5 (by decide) (by decide) (by decide))).mono ?_; rintro e w' ⟨rfl, hww⟩; subst w')
    | (go_at_call 19; refine (nilChoices bb _ (HE1.out 7 (by decide) (by decide) (by decide))).mono ?_; rintro e w' ⟨rfl, hww⟩; subst w'))
  refine (HC2.out _ HS1.out).mono ?_
  rintro e w2 ⟨rfl, hb2⟩
  have HE2 : Hid (Empty2 bb w2) := HE1.out.below hb2 hB
  have HB2 := hide (HB1.out.trans hb2)
  clear hb2
  go_wp2_with (first
    | (go_at_call 21; refine (nilKinds bb _ (HE2.out 15 (by decide) (by decide) (by decide))).mono ?_; rintro e w' ⟨rfl, hww⟩; subst w')
    | (go_at_call 22; refine (nilMembers bb _ (HE2.out 16 (by decide) (by decide) (by decide))).mono ?_; rintro e w' ⟨rfl, hww⟩; subst w')
    | (go_at_call 23; refine (nilSources bb _ (HE2.out 18 (by decide) (by decide) (by decide))).mono ?_; rintro e w' ⟨rfl, hww⟩; subst w')
    | (go_at_call 24; refine (nilExcepts bb _ (HE2.out 22 (by decide) (by decide) (by decide))).mono ?_; rintro e w' ⟨rfl, hww⟩; subst w')
    | (go_at_call 25; refine (nilTermTexts bb _ (HE2.out 21 (by decide) (by decide) (by decide))).mono ?_; rintro e w' ⟨rfl, hww⟩; subst w')
    | (go_at_call 26; refine (nilTerms bb _ (HE2.out 10 (by decide) (by decide) (by decide))).mono ?_; rintro e w' ⟨rfl, hww⟩; subst w')
    | (go_at_call 27; refine (nilAtoms bb _ (HE2.out 14 (by decide) (by decide) (by decide))).mono ?_; rintro e w' ⟨rfl, hww⟩; subst w')
    | (go_at_call 28; refine (nilNumbers bb _ (HE2.out 12 (by decide) (by decide) (by decide))).mono ?_; rintro e w' ⟨rfl, hww⟩; subst w')
    | (go_at_call 29; refine (nilSteps bb _ (HE2.out 6 (by decide) (by decide) (by decide))).mono ?_; rintro e w' ⟨rfl, hww⟩; subst w')
    | (go_at_call 30; refine (nilLits bb _ (HE2.out 8 (by decide) (by decide) (by decide))).mono ?_; rintro e w' ⟨rfl, hww⟩; subst w')
    | (go_at_call 31; refine (nilRules bb _ (HE2.out 9 (by decide) (by decide) (by decide))).mono ?_; rintro e w' ⟨rfl, hww⟩; subst w')
    | (go_at_call 32; refine (nilGuards bb _ (HE2.out 11 (by decide) (by decide) (by decide))).mono ?_; rintro e w' ⟨rfl, hww⟩; subst w')
    | (go_at_call 33; refine (nilPremises bb _ (HE2.out 20 (by decide) (by decide) (by decide))).mono ?_; rintro e w' ⟨rfl, hww⟩; subst w')
    | (go_at_call 34; refine (nilPreds bb _ (HE2.out 17 (by decide) (by decide) (by decide))).mono ?_; rintro e w' ⟨rfl, hww⟩; subst w')
    | (go_at_call 35; refine (nilRuleTexts bb _ (HE2.out 19 (by decide) (by decide) (by decide))).mono ?_; rintro e w' ⟨rfl, hww⟩; subst w')
    | (go_at_call 36; refine (nilTotals bb _ (HE2.out 23 (by decide) (by decide) (by decide))).mono ?_; rintro e w' ⟨rfl, hww⟩; subst w'))
  go_ret
  exact ⟨rfl, HB2.out⟩

end Go.Proofs.Ytlllgndbcagkgab
