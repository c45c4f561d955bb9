/-
  No cell of these rows narrows 'for every input' (looked for: loops, veiled, ifaces, maps, wideKeys, modest, calm, conditions, laid).
  DERIVED. THE GIVEN ROWS OF THIS SEAT. 6 by the template 'for every input the law returns true; each argument reads behind the call as it read before'; 0 by the template 'total and deterministic' (their statements: YtnafhjmeofddoaaTotals.lean).
  GIVEN WITH THE SEED: the statements are not yours to turn. If you find one false, say at which input.
  Laid BY PROGRAM, IN A SANDBOX (cutbox-rows.mjs): the forced cells as the released guide's own fill.sh prints them over the translation ec0e8c95833bde17… (all of the seat's roots in one cut). By AI agents, Wed Nov 11 2026. No macro, syntax, notation, axiom, sorry.
-/
import Derived.Test.YtnafhjmeofddoaaChecked
import GoSem.Claim
import GoSem.ClaimJoined
import GoSem.ClaimMapViews
import Derived.JoinedTies
import Derived.KernelRfl
namespace Go.Proofs.Ytnafhjmeofddoaa
/- THE CELL 'sum', in the pinned program and in every row, IS THE sha256 OF THE DUMP (.gsa) THAT YtnafhjmeofddoaaProg.lean LOADS. Nothing in Lean hashes anything: it is a label: what it is worth is what the hold of that sum in a sandbox is worth. -/
noncomputable def Try.pinned : Pinned := { name := "ytnafhjmeofddoaa", sum := "ec0e8c95833bde17ad6252f8918b0ccd6c5db129046240a8f4b532296742bacc", checked := Try.checked }
namespace Rows
def none {H : Type} : Left H := { results := [], args := [] }

/-- 'lexpriorlaw03.CalendarDays': WHATEVER THE INPUT: true; the input reads as it did. -/
def calendarDaysSpec : ChangeSpec := { name := "calendarDays", fn := fun _ => fun
  | [d1, d2, d3, d4] => { results := [.lit (.bool true)], args := [d1, d2, d3, d4] }
  | _ => none }
def calendarDaysRow : OpenClaim := { program := "ytnafhjmeofddoaa", sum := "ec0e8c95833bde17ad6252f8918b0ccd6c5db129046240a8f4b532296742bacc", func := "lexprior/lexpriorlaw03.CalendarDays", spec := "calendarDays", apart := false }
def CalendarDaysSaid : Prop := calendarDaysRow.holds Try.pinned (OpenSpec.ofChange calendarDaysSpec)

/-- ITS FALSE NEIGHBOUR: 'it returns false'. Refute it at one input. -/
def calendarDaysWrong : ChangeSpec := { name := "calendarDays", fn := fun _ => fun
  | [d1, d2, d3, d4] => { results := [.lit (.bool false)], args := [d1, d2, d3, d4] }
  | _ => none }
def CalendarDaysWrongFalsely : Prop := calendarDaysRow.holds Try.pinned (OpenSpec.ofChange calendarDaysWrong)

/-- 'lexpriorlaw03.CalendarTexts': WHATEVER THE INPUT: true; the input reads as it did. -/
def calendarTextsSpec : ChangeSpec := { name := "calendarTexts", fn := fun _ => fun
  | [d1, d2] => { results := [.lit (.bool true)], args := [d1, d2] }
  | _ => none }
def calendarTextsRow : OpenClaim := { program := "ytnafhjmeofddoaa", sum := "ec0e8c95833bde17ad6252f8918b0ccd6c5db129046240a8f4b532296742bacc", func := "lexprior/lexpriorlaw03.CalendarTexts", spec := "calendarTexts", recurses := true, apart := false }
def CalendarTextsSaid : Prop := calendarTextsRow.holds Try.pinned (OpenSpec.ofChange calendarTextsSpec)

/-- ITS FALSE NEIGHBOUR: 'it returns false'. Refute it at one input. -/
def calendarTextsWrong : ChangeSpec := { name := "calendarTexts", fn := fun _ => fun
  | [d1, d2] => { results := [.lit (.bool false)], args := [d1, d2] }
  | _ => none }
def CalendarTextsWrongFalsely : Prop := calendarTextsRow.holds Try.pinned (OpenSpec.ofChange calendarTextsWrong)

/-- 'lexpriorlaw03.CalendarGoes': WHATEVER THE INPUT: true; the input reads as it did. -/
def calendarGoesSpec : ChangeSpec := { name := "calendarGoes", fn := fun _ => fun
  | [d1, d2, d3] => { results := [.lit (.bool true)], args := [d1, d2, d3] }
  | _ => none }
def calendarGoesRow : OpenClaim := { program := "ytnafhjmeofddoaa", sum := "ec0e8c95833bde17ad6252f8918b0ccd6c5db129046240a8f4b532296742bacc", func := "lexprior/lexpriorlaw03.CalendarGoes", spec := "calendarGoes", apart := false }
def CalendarGoesSaid : Prop := calendarGoesRow.holds Try.pinned (OpenSpec.ofChange calendarGoesSpec)

/-- ITS FALSE NEIGHBOUR: 'it returns false'. Refute it at one input. -/
def calendarGoesWrong : ChangeSpec := { name := "calendarGoes", fn := fun _ => fun
  | [d1, d2, d3] => { results := [.lit (.bool false)], args := [d1, d2, d3] }
  | _ => none }
def CalendarGoesWrongFalsely : Prop := calendarGoesRow.holds Try.pinned (OpenSpec.ofChange calendarGoesWrong)

/-- 'lexpriorlaw03.CalendarBack': WHATEVER THE INPUT: true; the input reads as it did. -/
def calendarBackSpec : ChangeSpec := { name := "calendarBack", fn := fun _ => fun
  | [d] => { results := [.lit (.bool true)], args := [d] }
  | _ => none }
def calendarBackRow : OpenClaim := { program := "ytnafhjmeofddoaa", sum := "ec0e8c95833bde17ad6252f8918b0ccd6c5db129046240a8f4b532296742bacc", func := "lexprior/lexpriorlaw03.CalendarBack", spec := "calendarBack", apart := false }
def CalendarBackSaid : Prop := calendarBackRow.holds Try.pinned (OpenSpec.ofChange calendarBackSpec)

/-- ITS FALSE NEIGHBOUR: 'it returns false'. Refute it at one input. -/
def calendarBackWrong : ChangeSpec := { name := "calendarBack", fn := fun _ => fun
  | [d] => { results := [.lit (.bool false)], args := [d] }
  | _ => none }
def CalendarBackWrongFalsely : Prop := calendarBackRow.holds Try.pinned (OpenSpec.ofChange calendarBackWrong)

/-- 'lexpriorlaw03.CalendarRound': WHATEVER THE INPUT: true; the input reads as it did. -/
def calendarRoundSpec : ChangeSpec := { name := "calendarRound", fn := fun _ => fun
  | [d] => { results := [.lit (.bool true)], args := [d] }
  | _ => none }
def calendarRoundRow : OpenClaim := { program := "ytnafhjmeofddoaa", sum := "ec0e8c95833bde17ad6252f8918b0ccd6c5db129046240a8f4b532296742bacc", func := "lexprior/lexpriorlaw03.CalendarRound", spec := "calendarRound", apart := false }
def CalendarRoundSaid : Prop := calendarRoundRow.holds Try.pinned (OpenSpec.ofChange calendarRoundSpec)

/-- ITS FALSE NEIGHBOUR: 'it returns false'. Refute it at one input. -/
def calendarRoundWrong : ChangeSpec := { name := "calendarRound", fn := fun _ => fun
  | [d] => { results := [.lit (.bool false)], args := [d] }
  | _ => none }
def CalendarRoundWrongFalsely : Prop := calendarRoundRow.holds Try.pinned (OpenSpec.ofChange calendarRoundWrong)

/-- 'lexpriorlaw03.CalendarMonths': WHATEVER THE INPUT: true; the input reads as it did. -/
def calendarMonthsSpec : ChangeSpec := { name := "calendarMonths", fn := fun _ => fun
  | [d1, d2, d3] => { results := [.lit (.bool true)], args := [d1, d2, d3] }
  | _ => none }
def calendarMonthsRow : OpenClaim := { program := "ytnafhjmeofddoaa", sum := "ec0e8c95833bde17ad6252f8918b0ccd6c5db129046240a8f4b532296742bacc", func := "lexprior/lexpriorlaw03.CalendarMonths", spec := "calendarMonths", apart := false }
def CalendarMonthsSaid : Prop := calendarMonthsRow.holds Try.pinned (OpenSpec.ofChange calendarMonthsSpec)

/-- ITS FALSE NEIGHBOUR: 'it returns false'. Refute it at one input. -/
def calendarMonthsWrong : ChangeSpec := { name := "calendarMonths", fn := fun _ => fun
  | [d1, d2, d3] => { results := [.lit (.bool false)], args := [d1, d2, d3] }
  | _ => none }
def CalendarMonthsWrongFalsely : Prop := calendarMonthsRow.holds Try.pinned (OpenSpec.ofChange calendarMonthsWrong)

/- THE SECOND FORM. 'bulk': how many values and letters a reading holds, each counted each time it is reached (what is shared counts as often as it is met; a slice's spare places count too). A statement '..UptoSaid' is the law's where the arguments, and the package variables that the reading takes, are together of bulk at most 1048576: NARROWER than '..Said'. Prove '..Said' where nothing that the law and all that it calls make is longer than what came in: it says more and counts as full. Else prove '..UptoSaid'. A law counts once. -/
mutual
def uptoBulk {H : Type} : DataW H → Nat
  | .lit (.string bytes) => bytes.length + 1
  | .lit _ => 1
  | .nil => 1
  | .ptr d => uptoBulk d + 1
  | .slice elems spare => uptoBulkAll elems + uptoBulkAll spare + 1
  | .agg parts => uptoBulkAll parts + 1
  | .iface _ d => uptoBulk d + 1
  | .map entries => uptoBulkEntries entries + 1
  | .held _ => 1
def uptoBulkAll {H : Type} : List (DataW H) → Nat
  | [] => 0
  | d :: r => uptoBulk d + uptoBulkAll r
def uptoBulkEntries {H : Type} : List (Lit × DataW H) → Nat
  | [] => 0
  | x :: r => uptoBulkEntry x + uptoBulkEntries r
def uptoBulkEntry {H : Type} : Lit × DataW H → Nat
  | (.string bytes, d) => bytes.length + uptoBulk d + 1
  | (_, d) => uptoBulk d + 1
 end
def uptoSmall : (H : Type) → List (DataW H) → Bool := fun _ ds => decide (uptoBulkAll ds ≤ 1048576)
def OpenSpec.upto (s : _root_.Go.ChangeSpec) : _root_.Go.OpenSpec := { _root_.Go.OpenSpec.ofChange s with cond := some uptoSmall }

/-- 'lexpriorlaw03.CalendarDays', WHERE WHAT IT READS IS OF BULK AT MOST 1048576: true; the input reads as it did. -/
def calendarDaysUptoRow : OpenClaim := { program := "ytnafhjmeofddoaa", sum := "ec0e8c95833bde17ad6252f8918b0ccd6c5db129046240a8f4b532296742bacc", func := "lexprior/lexpriorlaw03.CalendarDays", spec := "calendarDays", apart := false, narrowed := true }
def CalendarDaysUptoSaid : Prop := calendarDaysUptoRow.holds Try.pinned (OpenSpec.upto calendarDaysSpec)

/-- 'lexpriorlaw03.CalendarTexts', WHERE WHAT IT READS IS OF BULK AT MOST 1048576: true; the input reads as it did. -/
def calendarTextsUptoRow : OpenClaim := { program := "ytnafhjmeofddoaa", sum := "ec0e8c95833bde17ad6252f8918b0ccd6c5db129046240a8f4b532296742bacc", func := "lexprior/lexpriorlaw03.CalendarTexts", spec := "calendarTexts", recurses := true, apart := false, narrowed := true }
def CalendarTextsUptoSaid : Prop := calendarTextsUptoRow.holds Try.pinned (OpenSpec.upto calendarTextsSpec)

/-- 'lexpriorlaw03.CalendarGoes', WHERE WHAT IT READS IS OF BULK AT MOST 1048576: true; the input reads as it did. -/
def calendarGoesUptoRow : OpenClaim := { program := "ytnafhjmeofddoaa", sum := "ec0e8c95833bde17ad6252f8918b0ccd6c5db129046240a8f4b532296742bacc", func := "lexprior/lexpriorlaw03.CalendarGoes", spec := "calendarGoes", apart := false, narrowed := true }
def CalendarGoesUptoSaid : Prop := calendarGoesUptoRow.holds Try.pinned (OpenSpec.upto calendarGoesSpec)

/-- 'lexpriorlaw03.CalendarBack', WHERE WHAT IT READS IS OF BULK AT MOST 1048576: true; the input reads as it did. -/
def calendarBackUptoRow : OpenClaim := { program := "ytnafhjmeofddoaa", sum := "ec0e8c95833bde17ad6252f8918b0ccd6c5db129046240a8f4b532296742bacc", func := "lexprior/lexpriorlaw03.CalendarBack", spec := "calendarBack", apart := false, narrowed := true }
def CalendarBackUptoSaid : Prop := calendarBackUptoRow.holds Try.pinned (OpenSpec.upto calendarBackSpec)

/-- 'lexpriorlaw03.CalendarRound', WHERE WHAT IT READS IS OF BULK AT MOST 1048576: true; the input reads as it did. -/
def calendarRoundUptoRow : OpenClaim := { program := "ytnafhjmeofddoaa", sum := "ec0e8c95833bde17ad6252f8918b0ccd6c5db129046240a8f4b532296742bacc", func := "lexprior/lexpriorlaw03.CalendarRound", spec := "calendarRound", apart := false, narrowed := true }
def CalendarRoundUptoSaid : Prop := calendarRoundUptoRow.holds Try.pinned (OpenSpec.upto calendarRoundSpec)

/-- 'lexpriorlaw03.CalendarMonths', WHERE WHAT IT READS IS OF BULK AT MOST 1048576: true; the input reads as it did. -/
def calendarMonthsUptoRow : OpenClaim := { program := "ytnafhjmeofddoaa", sum := "ec0e8c95833bde17ad6252f8918b0ccd6c5db129046240a8f4b532296742bacc", func := "lexprior/lexpriorlaw03.CalendarMonths", spec := "calendarMonths", apart := false, narrowed := true }
def CalendarMonthsUptoSaid : Prop := calendarMonthsUptoRow.holds Try.pinned (OpenSpec.upto calendarMonthsSpec)

end Rows
end Go.Proofs.Ytnafhjmeofddoaa
