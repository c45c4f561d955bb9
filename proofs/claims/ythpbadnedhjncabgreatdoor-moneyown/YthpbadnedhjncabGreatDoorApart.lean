/- The book is apart where one list is, and the others hold nothing. By program (tools/gen_apart.py). -/
import Derived.Test.YthpbadnedhjncabGreatDoorNils
namespace Go.Proofs.YthpbadnedhjncabGreatDoor
open Go.RowKit

/-- All lists but one are nil. -/
def Empty (but bb : Nat) (w : World) : Prop := ∀ f, f < 24 → f ≠ but → w.cell? ⟨bb, f, none⟩ = some (.slice none 0 0)

theorem Empty.below {but bb B : Nat} {w w' : World} (h : Empty but bb w) (hb : Below B w w') (hB : bb < B) : Empty but bb w' := fun f hf hne => (hb.cell (p := ⟨bb, f, none⟩) hB).trans (h f hf hne)

set_option maxRecDepth 100000 in
set_option maxHeartbeats 4000000 in
theorem apart_Money (bb B : Nat) (w : World) (hB : bb < B) (hE : Empty 5 bb w) (C : Calls Tryz.prog 20 #[.pointer (some ⟨bb, 0, none⟩)] w fun e w' => e = .returned (.bool true) ∧ Below B w w') :
    Calls Tryz.prog 7 #[.pointer (some ⟨bb, 0, none⟩)] w fun e w' => e = .returned (.bool true) ∧ Below B w w' := by
  have HE : Hid (Empty 5 bb w) := hE
  have HC : Hid (Calls Tryz.prog 20 #[.pointer (some ⟨bb, 0, none⟩)] w fun e w' => e = .returned (.bool true) ∧ Below B w w') := C
  clear hE C
  go_enter Tryz.func7, Tryz.ntmps7
  go_wp2_with (first
    | (go_at_call 15; refine (nilBytes bb _ (HE.out 0 (by decide) (by decide))).mono ?_; rintro e w' ⟨rfl, hww⟩; subst w')
    | (go_at_call 16; refine (nilInts bb _ (HE.out 1 (by decide) (by decide))).mono ?_; rintro e w' ⟨rfl, hww⟩; subst w')
    | (go_at_call 17; refine (nilStrings bb _ (HE.out 2 (by decide) (by decide))).mono ?_; rintro e w' ⟨rfl, hww⟩; subst w')
    | (go_at_call 18; refine (nilMarks bb _ (HE.out 3 (by decide) (by decide))).mono ?_; rintro e w' ⟨rfl, hww⟩; subst w')
    | (go_at_call 19; refine (nilPairs bb _ (HE.out 4 (by decide) (by decide))).mono ?_; rintro e w' ⟨rfl, hww⟩; subst w'))
  refine HC.out.mono ?_
  rintro e w1 ⟨rfl, hb1⟩
  have HE1 : Hid (Empty 5 bb w1) := HE.out.below hb1 hB
  go_wp2_with (first
    | (go_at_call 21; refine (nilChoices bb _ (HE1.out 7 (by decide) (by decide))).mono ?_; rintro e w' ⟨rfl, hww⟩; subst w')
    | (go_at_call 22; refine (nilTokens bb _ (HE1.out 13 (by decide) (by decide))).mono ?_; rintro e w' ⟨rfl, hww⟩; subst w')
    | (go_at_call 23; refine (nilKinds bb _ (HE1.out 15 (by decide) (by decide))).mono ?_; rintro e w' ⟨rfl, hww⟩; subst w')
    | (go_at_call 24; refine (nilMembers bb _ (HE1.out 16 (by decide) (by decide))).mono ?_; rintro e w' ⟨rfl, hww⟩; subst w')
    | (go_at_call 25; refine (nilSources bb _ (HE1.out 18 (by decide) (by decide))).mono ?_; rintro e w' ⟨rfl, hww⟩; subst w')
    | (go_at_call 26; refine (nilExcepts bb _ (HE1.out 22 (by decide) (by decide))).mono ?_; rintro e w' ⟨rfl, hww⟩; subst w')
    | (go_at_call 27; refine (nilTermTexts bb _ (HE1.out 21 (by decide) (by decide))).mono ?_; rintro e w' ⟨rfl, hww⟩; subst w')
    | (go_at_call 28; refine (nilTerms bb _ (HE1.out 10 (by decide) (by decide))).mono ?_; rintro e w' ⟨rfl, hww⟩; subst w')
    | (go_at_call 29; refine (nilAtoms bb _ (HE1.out 14 (by decide) (by decide))).mono ?_; rintro e w' ⟨rfl, hww⟩; subst w')
    | (go_at_call 30; refine (nilNumbers bb _ (HE1.out 12 (by decide) (by decide))).mono ?_; rintro e w' ⟨rfl, hww⟩; subst w')
    | (go_at_call 31; refine (nilSteps bb _ (HE1.out 6 (by decide) (by decide))).mono ?_; rintro e w' ⟨rfl, hww⟩; subst w')
    | (go_at_call 32; refine (nilLits bb _ (HE1.out 8 (by decide) (by decide))).mono ?_; rintro e w' ⟨rfl, hww⟩; subst w')
    | (go_at_call 33; refine (nilRules bb _ (HE1.out 9 (by decide) (by decide))).mono ?_; rintro e w' ⟨rfl, hww⟩; subst w')
    | (go_at_call 34; refine (nilGuards bb _ (HE1.out 11 (by decide) (by decide))).mono ?_; rintro e w' ⟨rfl, hww⟩; subst w')
    | (go_at_call 35; refine (nilPremises bb _ (HE1.out 20 (by decide) (by decide))).mono ?_; rintro e w' ⟨rfl, hww⟩; subst w')
    | (go_at_call 36; refine (nilPreds bb _ (HE1.out 17 (by decide) (by decide))).mono ?_; rintro e w' ⟨rfl, hww⟩; subst w')
    | (go_at_call 37; refine (nilRuleTexts bb _ (HE1.out 19 (by decide) (by decide))).mono ?_; rintro e w' ⟨rfl, hww⟩; subst w')
    | (go_at_call 38; refine (nilTotals bb _ (HE1.out 23 (by decide) (by decide))).mono ?_; rintro e w' ⟨rfl, hww⟩; subst w'))
  go_ret
  exact ⟨rfl, hb1⟩

end Go.Proofs.YthpbadnedhjncabGreatDoor
