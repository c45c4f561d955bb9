/-
  No cell of these rows narrows 'for every input' (looked for: loops, veiled, ifaces, maps, wideKeys, modest, calm, conditions, laid).
  DERIVED. THE GIVEN ROWS OF THIS SEAT. 5 by the template 'for every input the law returns true; each argument reads behind the call as it read before'; 0 by the template 'total and deterministic' (their statements: YtbnkdfhjdjgnhaaTotals.lean).
  GIVEN WITH THE SEED: the statements are not yours to turn. If you find one false, say at which input.
  Laid BY PROGRAM, IN A SANDBOX (cutbox-rows.mjs): the forced cells as the released guide's own fill.sh prints them over the translation a9b9a945a1a67d7a… (all of the seat's roots in one cut). By AI agents, Wed Nov 11 2026. No macro, syntax, notation, axiom, sorry.
-/
import Derived.Test.YtbnkdfhjdjgnhaaChecked
import GoSem.Claim
import GoSem.ClaimJoined
import GoSem.ClaimMapViews
import Derived.JoinedTies
import Derived.KernelRfl
namespace Go.Proofs.Ytbnkdfhjdjgnhaa
/- THE CELL 'sum', in the pinned program and in every row, IS THE sha256 OF THE DUMP (.gsa) THAT YtbnkdfhjdjgnhaaProg.lean LOADS. Nothing in Lean hashes anything: it is a label: what it is worth is what the hold of that sum in a sandbox is worth. -/
noncomputable def Try.pinned : Pinned := { name := "ytbnkdfhjdjgnhaa", sum := "a9b9a945a1a67d7acaaee55137a0757c78feaf4d002fe00b472e3a54680c858b", checked := Try.checked }
namespace Rows
def none {H : Type} : Left H := { results := [], args := [] }

/-- 'lexpriorlaw15.NaiveLeast': WHATEVER THE INPUT: true; the input reads as it did. -/
def naiveLeastSpec : ChangeSpec := { name := "naiveLeast", fn := fun _ => fun
  | [d1, d2, d3, d4] => { results := [.lit (.bool true)], args := [d1, d2, d3, d4] }
  | _ => none }
def naiveLeastRow : OpenClaim := { program := "ytbnkdfhjdjgnhaa", sum := "a9b9a945a1a67d7acaaee55137a0757c78feaf4d002fe00b472e3a54680c858b", func := "lexprior/lexpriorlaw15.NaiveLeast", spec := "naiveLeast", unfollowed := true, recurses := true, apart := false }
def NaiveLeastSaid : Prop := naiveLeastRow.holds Try.pinned (OpenSpec.ofChange naiveLeastSpec)

/-- ITS FALSE NEIGHBOUR: 'it returns false'. Refute it at one input. -/
def naiveLeastWrong : ChangeSpec := { name := "naiveLeast", fn := fun _ => fun
  | [d1, d2, d3, d4] => { results := [.lit (.bool false)], args := [d1, d2, d3, d4] }
  | _ => none }
def NaiveLeastWrongFalsely : Prop := naiveLeastRow.holds Try.pinned (OpenSpec.ofChange naiveLeastWrong)

/-- 'lexpriorlaw15.NaiveCoherent': WHATEVER THE INPUT: true; the input reads as it did. -/
def naiveCoherentSpec : ChangeSpec := { name := "naiveCoherent", fn := fun _ => fun
  | [d1, d2] => { results := [.lit (.bool true)], args := [d1, d2] }
  | _ => none }
def naiveCoherentRow : OpenClaim := { program := "ytbnkdfhjdjgnhaa", sum := "a9b9a945a1a67d7acaaee55137a0757c78feaf4d002fe00b472e3a54680c858b", func := "lexprior/lexpriorlaw15.NaiveCoherent", spec := "naiveCoherent", unfollowed := true, recurses := true, apart := false }
def NaiveCoherentSaid : Prop := naiveCoherentRow.holds Try.pinned (OpenSpec.ofChange naiveCoherentSpec)

/-- ITS FALSE NEIGHBOUR: 'it returns false'. Refute it at one input. -/
def naiveCoherentWrong : ChangeSpec := { name := "naiveCoherent", fn := fun _ => fun
  | [d1, d2] => { results := [.lit (.bool false)], args := [d1, d2] }
  | _ => none }
def NaiveCoherentWrongFalsely : Prop := naiveCoherentRow.holds Try.pinned (OpenSpec.ofChange naiveCoherentWrong)

/-- 'lexpriorlaw15.NaiveConsistent': WHATEVER THE INPUT: true; the input reads as it did. -/
def naiveConsistentSpec : ChangeSpec := { name := "naiveConsistent", fn := fun _ => fun
  | [d1, d2] => { results := [.lit (.bool true)], args := [d1, d2] }
  | _ => none }
def naiveConsistentRow : OpenClaim := { program := "ytbnkdfhjdjgnhaa", sum := "a9b9a945a1a67d7acaaee55137a0757c78feaf4d002fe00b472e3a54680c858b", func := "lexprior/lexpriorlaw15.NaiveConsistent", spec := "naiveConsistent", unfollowed := true, recurses := true, apart := false }
def NaiveConsistentSaid : Prop := naiveConsistentRow.holds Try.pinned (OpenSpec.ofChange naiveConsistentSpec)

/-- ITS FALSE NEIGHBOUR: 'it returns false'. Refute it at one input. -/
def naiveConsistentWrong : ChangeSpec := { name := "naiveConsistent", fn := fun _ => fun
  | [d1, d2] => { results := [.lit (.bool false)], args := [d1, d2] }
  | _ => none }
def NaiveConsistentWrongFalsely : Prop := naiveConsistentRow.holds Try.pinned (OpenSpec.ofChange naiveConsistentWrong)

/-- 'lexpriorlaw15.NaiveLoops': WHATEVER THE INPUT: true; the input reads as it did. -/
def naiveLoopsSpec : ChangeSpec := { name := "naiveLoops", fn := fun _ => fun
  | [d] => { results := [.lit (.bool true)], args := [d] }
  | _ => none }
def naiveLoopsRow : OpenClaim := { program := "ytbnkdfhjdjgnhaa", sum := "a9b9a945a1a67d7acaaee55137a0757c78feaf4d002fe00b472e3a54680c858b", func := "lexprior/lexpriorlaw15.NaiveLoops", spec := "naiveLoops", unfollowed := true, recurses := true, apart := false }
def NaiveLoopsSaid : Prop := naiveLoopsRow.holds Try.pinned (OpenSpec.ofChange naiveLoopsSpec)

/-- ITS FALSE NEIGHBOUR: 'it returns false'. Refute it at one input. -/
def naiveLoopsWrong : ChangeSpec := { name := "naiveLoops", fn := fun _ => fun
  | [d] => { results := [.lit (.bool false)], args := [d] }
  | _ => none }
def NaiveLoopsWrongFalsely : Prop := naiveLoopsRow.holds Try.pinned (OpenSpec.ofChange naiveLoopsWrong)

/-- 'lexpriorlaw15.NaiveOwn': WHATEVER THE INPUT: true; the input reads as it did. -/
def naiveOwnSpec : ChangeSpec := { name := "naiveOwn", fn := fun _ => fun
  | [d1, d2, d3] => { results := [.lit (.bool true)], args := [d1, d2, d3] }
  | _ => none }
def naiveOwnRow : OpenClaim := { program := "ytbnkdfhjdjgnhaa", sum := "a9b9a945a1a67d7acaaee55137a0757c78feaf4d002fe00b472e3a54680c858b", func := "lexprior/lexpriorlaw15.NaiveOwn", spec := "naiveOwn", unfollowed := true, recurses := true, apart := false }
def NaiveOwnSaid : Prop := naiveOwnRow.holds Try.pinned (OpenSpec.ofChange naiveOwnSpec)

/-- ITS FALSE NEIGHBOUR: 'it returns false'. Refute it at one input. -/
def naiveOwnWrong : ChangeSpec := { name := "naiveOwn", fn := fun _ => fun
  | [d1, d2, d3] => { results := [.lit (.bool false)], args := [d1, d2, d3] }
  | _ => none }
def NaiveOwnWrongFalsely : Prop := naiveOwnRow.holds Try.pinned (OpenSpec.ofChange naiveOwnWrong)

/- THE SECOND FORM. 'bulk': how many values and letters a reading holds, each counted each time it is reached (what is shared counts as often as it is met; a slice's spare places count too). A statement '..UptoSaid' is the law's where the arguments, and the package variables that the reading takes, are together of bulk at most 1048576: NARROWER than '..Said'. Prove '..Said' where nothing that the law and all that it calls make is longer than what came in: it says more and counts as full. Else prove '..UptoSaid'. A law counts once. -/
mutual
def uptoBulk {H : Type} : DataW H → Nat
  | .lit (.string bytes) => bytes.length + 1
  | .lit _ => 1
  | .nil => 1
  | .ptr d => uptoBulk d + 1
  | .slice elems spare => uptoBulkAll elems + uptoBulkAll spare + 1
  | .agg parts => uptoBulkAll parts + 1
  | .iface _ d => uptoBulk d + 1
  | .map entries => uptoBulkEntries entries + 1
  | .held _ => 1
def uptoBulkAll {H : Type} : List (DataW H) → Nat
  | [] => 0
  | d :: r => uptoBulk d + uptoBulkAll r
def uptoBulkEntries {H : Type} : List (Lit × DataW H) → Nat
  | [] => 0
  | x :: r => uptoBulkEntry x + uptoBulkEntries r
def uptoBulkEntry {H : Type} : Lit × DataW H → Nat
  | (.string bytes, d) => bytes.length + uptoBulk d + 1
  | (_, d) => uptoBulk d + 1
 end
def uptoSmall : (H : Type) → List (DataW H) → Bool := fun _ ds => decide (uptoBulkAll ds ≤ 1048576)
def OpenSpec.upto (s : _root_.Go.ChangeSpec) : _root_.Go.OpenSpec := { _root_.Go.OpenSpec.ofChange s with cond := some uptoSmall }

/-- 'lexpriorlaw15.NaiveLeast', WHERE WHAT IT READS IS OF BULK AT MOST 1048576: true; the input reads as it did. -/
def naiveLeastUptoRow : OpenClaim := { program := "ytbnkdfhjdjgnhaa", sum := "a9b9a945a1a67d7acaaee55137a0757c78feaf4d002fe00b472e3a54680c858b", func := "lexprior/lexpriorlaw15.NaiveLeast", spec := "naiveLeast", unfollowed := true, recurses := true, apart := false, narrowed := true }
def NaiveLeastUptoSaid : Prop := naiveLeastUptoRow.holds Try.pinned (OpenSpec.upto naiveLeastSpec)

/-- 'lexpriorlaw15.NaiveCoherent', WHERE WHAT IT READS IS OF BULK AT MOST 1048576: true; the input reads as it did. -/
def naiveCoherentUptoRow : OpenClaim := { program := "ytbnkdfhjdjgnhaa", sum := "a9b9a945a1a67d7acaaee55137a0757c78feaf4d002fe00b472e3a54680c858b", func := "lexprior/lexpriorlaw15.NaiveCoherent", spec := "naiveCoherent", unfollowed := true, recurses := true, apart := false, narrowed := true }
def NaiveCoherentUptoSaid : Prop := naiveCoherentUptoRow.holds Try.pinned (OpenSpec.upto naiveCoherentSpec)

/-- 'lexpriorlaw15.NaiveConsistent', WHERE WHAT IT READS IS OF BULK AT MOST 1048576: true; the input reads as it did. -/
def naiveConsistentUptoRow : OpenClaim := { program := "ytbnkdfhjdjgnhaa", sum := "a9b9a945a1a67d7acaaee55137a0757c78feaf4d002fe00b472e3a54680c858b", func := "lexprior/lexpriorlaw15.NaiveConsistent", spec := "naiveConsistent", unfollowed := true, recurses := true, apart := false, narrowed := true }
def NaiveConsistentUptoSaid : Prop := naiveConsistentUptoRow.holds Try.pinned (OpenSpec.upto naiveConsistentSpec)

/-- 'lexpriorlaw15.NaiveLoops', WHERE WHAT IT READS IS OF BULK AT MOST 1048576: true; the input reads as it did. -/
def naiveLoopsUptoRow : OpenClaim := { program := "ytbnkdfhjdjgnhaa", sum := "a9b9a945a1a67d7acaaee55137a0757c78feaf4d002fe00b472e3a54680c858b", func := "lexprior/lexpriorlaw15.NaiveLoops", spec := "naiveLoops", unfollowed := true, recurses := true, apart := false, narrowed := true }
def NaiveLoopsUptoSaid : Prop := naiveLoopsUptoRow.holds Try.pinned (OpenSpec.upto naiveLoopsSpec)

/-- 'lexpriorlaw15.NaiveOwn', WHERE WHAT IT READS IS OF BULK AT MOST 1048576: true; the input reads as it did. -/
def naiveOwnUptoRow : OpenClaim := { program := "ytbnkdfhjdjgnhaa", sum := "a9b9a945a1a67d7acaaee55137a0757c78feaf4d002fe00b472e3a54680c858b", func := "lexprior/lexpriorlaw15.NaiveOwn", spec := "naiveOwn", unfollowed := true, recurses := true, apart := false, narrowed := true }
def NaiveOwnUptoSaid : Prop := naiveOwnUptoRow.holds Try.pinned (OpenSpec.upto naiveOwnSpec)

end Rows
end Go.Proofs.Ytbnkdfhjdjgnhaa
