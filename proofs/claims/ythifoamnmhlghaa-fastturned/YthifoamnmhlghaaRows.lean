/-
  No cell of these rows narrows 'for every input' (looked for: loops, veiled, ifaces, maps, wideKeys, modest, calm, conditions, laid).
  DERIVED. THE GIVEN ROWS OF THIS SEAT. 5 by the template 'for every input the law returns true; each argument reads behind the call as it read before'; 0 by the template 'total and deterministic' (their statements: YthifoamnmhlghaaTotals.lean).
  GIVEN WITH THE SEED: the statements are not yours to turn. If you find one false, say at which input.
  Laid BY PROGRAM, IN A SANDBOX (cutbox-rows.mjs): the forced cells as the released guide's own fill.sh prints them over the translation 73f67cf95c593c64… (all of the seat's roots in one cut). By AI agents, Wed Nov 11 2026. No macro, syntax, notation, axiom, sorry.
-/
import Derived.Test.YthifoamnmhlghaaChecked
import GoSem.Claim
import GoSem.ClaimJoined
import GoSem.ClaimMapViews
import Derived.JoinedTies
import Derived.KernelRfl
namespace Go.Proofs.Ythifoamnmhlghaa
/- THE CELL 'sum', in the pinned program and in every row, IS THE sha256 OF THE DUMP (.gsa) THAT YthifoamnmhlghaaProg.lean LOADS. Nothing in Lean hashes anything: it is a label: what it is worth is what the hold of that sum in a sandbox is worth. -/
noncomputable def Try.pinned : Pinned := { name := "ythifoamnmhlghaa", sum := "73f67cf95c593c64324111d8b7c10b7141c67c14b3c96c1008cc527afa78663d", checked := Try.checked }
namespace Rows
def none {H : Type} : Left H := { results := [], args := [] }

/-- 'lexpriorlaw16.FastSound': WHATEVER THE INPUT: true; the input reads as it did. -/
def fastSoundSpec : ChangeSpec := { name := "fastSound", fn := fun _ => fun
  | [d1, d2] => { results := [.lit (.bool true)], args := [d1, d2] }
  | _ => none }
def fastSoundRow : OpenClaim := { program := "ythifoamnmhlghaa", sum := "73f67cf95c593c64324111d8b7c10b7141c67c14b3c96c1008cc527afa78663d", func := "lexprior/lexpriorlaw16.FastSound", spec := "fastSound", unfollowed := true, recurses := true, apart := false }
def FastSoundSaid : Prop := fastSoundRow.holds Try.pinned (OpenSpec.ofChange fastSoundSpec)

/-- ITS FALSE NEIGHBOUR: 'it returns false'. Refute it at one input. -/
def fastSoundWrong : ChangeSpec := { name := "fastSound", fn := fun _ => fun
  | [d1, d2] => { results := [.lit (.bool false)], args := [d1, d2] }
  | _ => none }
def FastSoundWrongFalsely : Prop := fastSoundRow.holds Try.pinned (OpenSpec.ofChange fastSoundWrong)

/-- 'lexpriorlaw16.FastLinear': WHATEVER THE INPUT: true; the input reads as it did. -/
def fastLinearSpec : ChangeSpec := { name := "fastLinear", fn := fun _ => fun
  | [d1, d2] => { results := [.lit (.bool true)], args := [d1, d2] }
  | _ => none }
def fastLinearRow : OpenClaim := { program := "ythifoamnmhlghaa", sum := "73f67cf95c593c64324111d8b7c10b7141c67c14b3c96c1008cc527afa78663d", func := "lexprior/lexpriorlaw16.FastLinear", spec := "fastLinear", unfollowed := true, recurses := true, apart := false }
def FastLinearSaid : Prop := fastLinearRow.holds Try.pinned (OpenSpec.ofChange fastLinearSpec)

/-- ITS FALSE NEIGHBOUR: 'it returns false'. Refute it at one input. -/
def fastLinearWrong : ChangeSpec := { name := "fastLinear", fn := fun _ => fun
  | [d1, d2] => { results := [.lit (.bool false)], args := [d1, d2] }
  | _ => none }
def FastLinearWrongFalsely : Prop := fastLinearRow.holds Try.pinned (OpenSpec.ofChange fastLinearWrong)

/-- 'lexpriorlaw16.FastChain': WHATEVER THE INPUT: true; the input reads as it did. -/
def fastChainSpec : ChangeSpec := { name := "fastChain", fn := fun _ => fun
  | [d1, d2, d3] => { results := [.lit (.bool true)], args := [d1, d2, d3] }
  | _ => none }
def fastChainRow : OpenClaim := { program := "ythifoamnmhlghaa", sum := "73f67cf95c593c64324111d8b7c10b7141c67c14b3c96c1008cc527afa78663d", func := "lexprior/lexpriorlaw16.FastChain", spec := "fastChain", unfollowed := true, recurses := true, apart := false }
def FastChainSaid : Prop := fastChainRow.holds Try.pinned (OpenSpec.ofChange fastChainSpec)

/-- ITS FALSE NEIGHBOUR: 'it returns false'. Refute it at one input. -/
def fastChainWrong : ChangeSpec := { name := "fastChain", fn := fun _ => fun
  | [d1, d2, d3] => { results := [.lit (.bool false)], args := [d1, d2, d3] }
  | _ => none }
def FastChainWrongFalsely : Prop := fastChainRow.holds Try.pinned (OpenSpec.ofChange fastChainWrong)

/-- 'lexpriorlaw16.FastTurned': WHATEVER THE INPUT: true; the input reads as it did. -/
def fastTurnedSpec : ChangeSpec := { name := "fastTurned", fn := fun _ => fun
  | [d1, d2, d3, d4] => { results := [.lit (.bool true)], args := [d1, d2, d3, d4] }
  | _ => none }
def fastTurnedRow : OpenClaim := { program := "ythifoamnmhlghaa", sum := "73f67cf95c593c64324111d8b7c10b7141c67c14b3c96c1008cc527afa78663d", func := "lexprior/lexpriorlaw16.FastTurned", spec := "fastTurned", unfollowed := true, recurses := true, apart := false }
def FastTurnedSaid : Prop := fastTurnedRow.holds Try.pinned (OpenSpec.ofChange fastTurnedSpec)

/-- ITS FALSE NEIGHBOUR: 'it returns false'. Refute it at one input. -/
def fastTurnedWrong : ChangeSpec := { name := "fastTurned", fn := fun _ => fun
  | [d1, d2, d3, d4] => { results := [.lit (.bool false)], args := [d1, d2, d3, d4] }
  | _ => none }
def FastTurnedWrongFalsely : Prop := fastTurnedRow.holds Try.pinned (OpenSpec.ofChange fastTurnedWrong)

/-- 'lexpriorlaw16.FastCone': WHATEVER THE INPUT: true; the input reads as it did. -/
def fastConeSpec : ChangeSpec := { name := "fastCone", fn := fun _ => fun
  | [d1, d2, d3] => { results := [.lit (.bool true)], args := [d1, d2, d3] }
  | _ => none }
def fastConeRow : OpenClaim := { program := "ythifoamnmhlghaa", sum := "73f67cf95c593c64324111d8b7c10b7141c67c14b3c96c1008cc527afa78663d", func := "lexprior/lexpriorlaw16.FastCone", spec := "fastCone", unfollowed := true, recurses := true, apart := false }
def FastConeSaid : Prop := fastConeRow.holds Try.pinned (OpenSpec.ofChange fastConeSpec)

/-- ITS FALSE NEIGHBOUR: 'it returns false'. Refute it at one input. -/
def fastConeWrong : ChangeSpec := { name := "fastCone", fn := fun _ => fun
  | [d1, d2, d3] => { results := [.lit (.bool false)], args := [d1, d2, d3] }
  | _ => none }
def FastConeWrongFalsely : Prop := fastConeRow.holds Try.pinned (OpenSpec.ofChange fastConeWrong)

/- THE SECOND FORM. 'bulk': how many values and letters a reading holds, each counted each time it is reached (what is shared counts as often as it is met; a slice's spare places count too). A statement '..UptoSaid' is the law's where the arguments, and the package variables that the reading takes, are together of bulk at most 1048576: NARROWER than '..Said'. Prove '..Said' where nothing that the law and all that it calls make is longer than what came in: it says more and counts as full. Else prove '..UptoSaid'. A law counts once. -/
mutual
def uptoBulk {H : Type} : DataW H → Nat
  | .lit (.string bytes) => bytes.length + 1
  | .lit _ => 1
  | .nil => 1
  | .ptr d => uptoBulk d + 1
  | .slice elems spare => uptoBulkAll elems + uptoBulkAll spare + 1
  | .agg parts => uptoBulkAll parts + 1
  | .iface _ d => uptoBulk d + 1
  | .map entries => uptoBulkEntries entries + 1
  | .held _ => 1
def uptoBulkAll {H : Type} : List (DataW H) → Nat
  | [] => 0
  | d :: r => uptoBulk d + uptoBulkAll r
def uptoBulkEntries {H : Type} : List (Lit × DataW H) → Nat
  | [] => 0
  | x :: r => uptoBulkEntry x + uptoBulkEntries r
def uptoBulkEntry {H : Type} : Lit × DataW H → Nat
  | (.string bytes, d) => bytes.length + uptoBulk d + 1
  | (_, d) => uptoBulk d + 1
 end
def uptoSmall : (H : Type) → List (DataW H) → Bool := fun _ ds => decide (uptoBulkAll ds ≤ 1048576)
def OpenSpec.upto (s : _root_.Go.ChangeSpec) : _root_.Go.OpenSpec := { _root_.Go.OpenSpec.ofChange s with cond := some uptoSmall }

/-- 'lexpriorlaw16.FastSound', WHERE WHAT IT READS IS OF BULK AT MOST 1048576: true; the input reads as it did. -/
def fastSoundUptoRow : OpenClaim := { program := "ythifoamnmhlghaa", sum := "73f67cf95c593c64324111d8b7c10b7141c67c14b3c96c1008cc527afa78663d", func := "lexprior/lexpriorlaw16.FastSound", spec := "fastSound", unfollowed := true, recurses := true, apart := false, narrowed := true }
def FastSoundUptoSaid : Prop := fastSoundUptoRow.holds Try.pinned (OpenSpec.upto fastSoundSpec)

/-- 'lexpriorlaw16.FastLinear', WHERE WHAT IT READS IS OF BULK AT MOST 1048576: true; the input reads as it did. -/
def fastLinearUptoRow : OpenClaim := { program := "ythifoamnmhlghaa", sum := "73f67cf95c593c64324111d8b7c10b7141c67c14b3c96c1008cc527afa78663d", func := "lexprior/lexpriorlaw16.FastLinear", spec := "fastLinear", unfollowed := true, recurses := true, apart := false, narrowed := true }
def FastLinearUptoSaid : Prop := fastLinearUptoRow.holds Try.pinned (OpenSpec.upto fastLinearSpec)

/-- 'lexpriorlaw16.FastChain', WHERE WHAT IT READS IS OF BULK AT MOST 1048576: true; the input reads as it did. -/
def fastChainUptoRow : OpenClaim := { program := "ythifoamnmhlghaa", sum := "73f67cf95c593c64324111d8b7c10b7141c67c14b3c96c1008cc527afa78663d", func := "lexprior/lexpriorlaw16.FastChain", spec := "fastChain", unfollowed := true, recurses := true, apart := false, narrowed := true }
def FastChainUptoSaid : Prop := fastChainUptoRow.holds Try.pinned (OpenSpec.upto fastChainSpec)

/-- 'lexpriorlaw16.FastTurned', WHERE WHAT IT READS IS OF BULK AT MOST 1048576: true; the input reads as it did. -/
def fastTurnedUptoRow : OpenClaim := { program := "ythifoamnmhlghaa", sum := "73f67cf95c593c64324111d8b7c10b7141c67c14b3c96c1008cc527afa78663d", func := "lexprior/lexpriorlaw16.FastTurned", spec := "fastTurned", unfollowed := true, recurses := true, apart := false, narrowed := true }
def FastTurnedUptoSaid : Prop := fastTurnedUptoRow.holds Try.pinned (OpenSpec.upto fastTurnedSpec)

/-- 'lexpriorlaw16.FastCone', WHERE WHAT IT READS IS OF BULK AT MOST 1048576: true; the input reads as it did. -/
def fastConeUptoRow : OpenClaim := { program := "ythifoamnmhlghaa", sum := "73f67cf95c593c64324111d8b7c10b7141c67c14b3c96c1008cc527afa78663d", func := "lexprior/lexpriorlaw16.FastCone", spec := "fastCone", unfollowed := true, recurses := true, apart := false, narrowed := true }
def FastConeUptoSaid : Prop := fastConeUptoRow.holds Try.pinned (OpenSpec.upto fastConeSpec)

end Rows
end Go.Proofs.Ythifoamnmhlghaa
