/-
  No cell of these rows narrows 'for every input' (looked for: loops, veiled, ifaces, maps, wideKeys, modest, calm, conditions, laid).
  DERIVED. THE GIVEN ROWS OF THIS SEAT. 4 by the template 'for every input the law returns true; each argument reads behind the call as it read before'; 0 by the template 'total and deterministic' (their statements: YtmlhcncagdfjfaaGreatTotals.lean).
  GIVEN WITH THE SEED: the statements are not yours to turn. If you find one false, say at which input.
  Laid BY PROGRAM, IN A SANDBOX (cutbox-rows.mjs): the forced cells as the released guide's own fill.sh prints them over the translation 319b971bfd01f5a5… (all of the seat's roots in one cut). By AI agents, Wed Nov 11 2026. No macro, syntax, notation, axiom, sorry.
-/
import Derived.Test.YtmlhcncagdfjfaaGreatChecked
import GoSem.Claim
import GoSem.ClaimJoined
import GoSem.ClaimMapViews
import Derived.JoinedTies
import Derived.KernelRfl
namespace Go.Proofs.YtmlhcncagdfjfaaGreat
/- THE CELL 'sum', in the pinned program and in every row, IS THE sha256 OF THE DUMP (.gsa) THAT YtmlhcncagdfjfaaGreatProg.lean LOADS. Nothing in Lean hashes anything: it is a label: what it is worth is what the hold of that sum in a sandbox is worth. -/
noncomputable def Tryz.pinned : Pinned := { name := "ytmlhcncagdfjfaagreat", sum := "319b971bfd01f5a50bc8a82677ffd62f39f03dccc8b1efd6e83433e2649cc665", checked := Tryz.checked }
namespace Rows
def none {H : Type} : Left H := { results := [], args := [] }

/-- 'lexpriorlaw20.DeriveFollows': WHATEVER THE INPUT: true; the input reads as it did. -/
def deriveFollowsSpec : ChangeSpec := { name := "deriveFollows", fn := fun _ => fun
  | [d1, d2, d3, d4] => { results := [.lit (.bool true)], args := [d1, d2, d3, d4] }
  | _ => none }
def deriveFollowsRow : OpenClaim := { program := "ytmlhcncagdfjfaagreat", sum := "319b971bfd01f5a50bc8a82677ffd62f39f03dccc8b1efd6e83433e2649cc665", func := "lexprior/lexpriorlaw20.DeriveFollows", spec := "deriveFollows", unfollowed := true, recurses := true, plainKeys := false, apart := false }
def DeriveFollowsSaid : Prop := deriveFollowsRow.holds Tryz.pinned (OpenSpec.ofChange deriveFollowsSpec)

/-- ITS FALSE NEIGHBOUR: 'it returns false'. Refute it at one input. -/
def deriveFollowsWrong : ChangeSpec := { name := "deriveFollows", fn := fun _ => fun
  | [d1, d2, d3, d4] => { results := [.lit (.bool false)], args := [d1, d2, d3, d4] }
  | _ => none }
def DeriveFollowsWrongFalsely : Prop := deriveFollowsRow.holds Tryz.pinned (OpenSpec.ofChange deriveFollowsWrong)

/-- 'lexpriorlaw20.DeriveChecks': WHATEVER THE INPUT: true; the input reads as it did. -/
def deriveChecksSpec : ChangeSpec := { name := "deriveChecks", fn := fun _ => fun
  | [d1, d2, d3] => { results := [.lit (.bool true)], args := [d1, d2, d3] }
  | _ => none }
def deriveChecksRow : OpenClaim := { program := "ytmlhcncagdfjfaagreat", sum := "319b971bfd01f5a50bc8a82677ffd62f39f03dccc8b1efd6e83433e2649cc665", func := "lexprior/lexpriorlaw20.DeriveChecks", spec := "deriveChecks", unfollowed := true, recurses := true, plainKeys := false, apart := false }
def DeriveChecksSaid : Prop := deriveChecksRow.holds Tryz.pinned (OpenSpec.ofChange deriveChecksSpec)

/-- ITS FALSE NEIGHBOUR: 'it returns false'. Refute it at one input. -/
def deriveChecksWrong : ChangeSpec := { name := "deriveChecks", fn := fun _ => fun
  | [d1, d2, d3] => { results := [.lit (.bool false)], args := [d1, d2, d3] }
  | _ => none }
def DeriveChecksWrongFalsely : Prop := deriveChecksRow.holds Tryz.pinned (OpenSpec.ofChange deriveChecksWrong)

/-- 'lexpriorlaw20.DeriveSame': WHATEVER THE INPUT: true; the input reads as it did. -/
def deriveSameSpec : ChangeSpec := { name := "deriveSame", fn := fun _ => fun
  | [d1, d2] => { results := [.lit (.bool true)], args := [d1, d2] }
  | _ => none }
def deriveSameRow : OpenClaim := { program := "ytmlhcncagdfjfaagreat", sum := "319b971bfd01f5a50bc8a82677ffd62f39f03dccc8b1efd6e83433e2649cc665", func := "lexprior/lexpriorlaw20.DeriveSame", spec := "deriveSame", unfollowed := true, recurses := true, plainKeys := false, apart := false }
def DeriveSameSaid : Prop := deriveSameRow.holds Tryz.pinned (OpenSpec.ofChange deriveSameSpec)

/-- ITS FALSE NEIGHBOUR: 'it returns false'. Refute it at one input. -/
def deriveSameWrong : ChangeSpec := { name := "deriveSame", fn := fun _ => fun
  | [d1, d2] => { results := [.lit (.bool false)], args := [d1, d2] }
  | _ => none }
def DeriveSameWrongFalsely : Prop := deriveSameRow.holds Tryz.pinned (OpenSpec.ofChange deriveSameWrong)

/-- 'lexpriorlaw20.DeriveSound': WHATEVER THE INPUT: true; the input reads as it did. -/
def deriveSoundSpec : ChangeSpec := { name := "deriveSound", fn := fun _ => fun
  | [d1, d2, d3] => { results := [.lit (.bool true)], args := [d1, d2, d3] }
  | _ => none }
def deriveSoundRow : OpenClaim := { program := "ytmlhcncagdfjfaagreat", sum := "319b971bfd01f5a50bc8a82677ffd62f39f03dccc8b1efd6e83433e2649cc665", func := "lexprior/lexpriorlaw20.DeriveSound", spec := "deriveSound", unfollowed := true, recurses := true, plainKeys := false, apart := false }
def DeriveSoundSaid : Prop := deriveSoundRow.holds Tryz.pinned (OpenSpec.ofChange deriveSoundSpec)

/-- ITS FALSE NEIGHBOUR: 'it returns false'. Refute it at one input. -/
def deriveSoundWrong : ChangeSpec := { name := "deriveSound", fn := fun _ => fun
  | [d1, d2, d3] => { results := [.lit (.bool false)], args := [d1, d2, d3] }
  | _ => none }
def DeriveSoundWrongFalsely : Prop := deriveSoundRow.holds Tryz.pinned (OpenSpec.ofChange deriveSoundWrong)

/- THE SECOND FORM. 'bulk': how many values and letters a reading holds, each counted each time it is reached (what is shared counts as often as it is met; a slice's spare places count too). A statement '..UptoSaid' is the law's where the arguments, and the package variables that the reading takes, are together of bulk at most 1048576: NARROWER than '..Said'. Prove '..Said' where nothing that the law and all that it calls make is longer than what came in: it says more and counts as full. Else prove '..UptoSaid'. A law counts once. -/
mutual
def uptoBulk {H : Type} : DataW H → Nat
  | .lit (.string bytes) => bytes.length + 1
  | .lit _ => 1
  | .nil => 1
  | .ptr d => uptoBulk d + 1
  | .slice elems spare => uptoBulkAll elems + uptoBulkAll spare + 1
  | .agg parts => uptoBulkAll parts + 1
  | .iface _ d => uptoBulk d + 1
  | .map entries => uptoBulkEntries entries + 1
  | .held _ => 1
def uptoBulkAll {H : Type} : List (DataW H) → Nat
  | [] => 0
  | d :: r => uptoBulk d + uptoBulkAll r
def uptoBulkEntries {H : Type} : List (Lit × DataW H) → Nat
  | [] => 0
  | x :: r => uptoBulkEntry x + uptoBulkEntries r
def uptoBulkEntry {H : Type} : Lit × DataW H → Nat
  | (.string bytes, d) => bytes.length + uptoBulk d + 1
  | (_, d) => uptoBulk d + 1
 end
def uptoSmall : (H : Type) → List (DataW H) → Bool := fun _ ds => decide (uptoBulkAll ds ≤ 1048576)
def OpenSpec.upto (s : _root_.Go.ChangeSpec) : _root_.Go.OpenSpec := { _root_.Go.OpenSpec.ofChange s with cond := some uptoSmall }

/-- 'lexpriorlaw20.DeriveFollows', WHERE WHAT IT READS IS OF BULK AT MOST 1048576: true; the input reads as it did. -/
def deriveFollowsUptoRow : OpenClaim := { program := "ytmlhcncagdfjfaagreat", sum := "319b971bfd01f5a50bc8a82677ffd62f39f03dccc8b1efd6e83433e2649cc665", func := "lexprior/lexpriorlaw20.DeriveFollows", spec := "deriveFollows", unfollowed := true, recurses := true, plainKeys := false, apart := false, narrowed := true }
def DeriveFollowsUptoSaid : Prop := deriveFollowsUptoRow.holds Tryz.pinned (OpenSpec.upto deriveFollowsSpec)

/-- 'lexpriorlaw20.DeriveChecks', WHERE WHAT IT READS IS OF BULK AT MOST 1048576: true; the input reads as it did. -/
def deriveChecksUptoRow : OpenClaim := { program := "ytmlhcncagdfjfaagreat", sum := "319b971bfd01f5a50bc8a82677ffd62f39f03dccc8b1efd6e83433e2649cc665", func := "lexprior/lexpriorlaw20.DeriveChecks", spec := "deriveChecks", unfollowed := true, recurses := true, plainKeys := false, apart := false, narrowed := true }
def DeriveChecksUptoSaid : Prop := deriveChecksUptoRow.holds Tryz.pinned (OpenSpec.upto deriveChecksSpec)

/-- 'lexpriorlaw20.DeriveSame', WHERE WHAT IT READS IS OF BULK AT MOST 1048576: true; the input reads as it did. -/
def deriveSameUptoRow : OpenClaim := { program := "ytmlhcncagdfjfaagreat", sum := "319b971bfd01f5a50bc8a82677ffd62f39f03dccc8b1efd6e83433e2649cc665", func := "lexprior/lexpriorlaw20.DeriveSame", spec := "deriveSame", unfollowed := true, recurses := true, plainKeys := false, apart := false, narrowed := true }
def DeriveSameUptoSaid : Prop := deriveSameUptoRow.holds Tryz.pinned (OpenSpec.upto deriveSameSpec)

/-- 'lexpriorlaw20.DeriveSound', WHERE WHAT IT READS IS OF BULK AT MOST 1048576: true; the input reads as it did. -/
def deriveSoundUptoRow : OpenClaim := { program := "ytmlhcncagdfjfaagreat", sum := "319b971bfd01f5a50bc8a82677ffd62f39f03dccc8b1efd6e83433e2649cc665", func := "lexprior/lexpriorlaw20.DeriveSound", spec := "deriveSound", unfollowed := true, recurses := true, plainKeys := false, apart := false, narrowed := true }
def DeriveSoundUptoSaid : Prop := deriveSoundUptoRow.holds Tryz.pinned (OpenSpec.upto deriveSoundSpec)

end Rows
end Go.Proofs.YtmlhcncagdfjfaaGreat
