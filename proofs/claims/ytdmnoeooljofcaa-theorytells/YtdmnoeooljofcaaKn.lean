/- What is known, in memory; has, whole, partly, beats. -/
import Derived.Test.YtdmnoeooljofcaaNvM
import Derived.BigQuiet
namespace Go.Proofs.Ytdmnoeooljofcaa
open Go.RowKit

/-- A theory and facts that may be asked. -/
structure Pf (T : Th) (F : List Int) (n : Nat) : Prop where
  ok : OkT T
  ln : T.lits = (n : Int)
  n4 : n ≤ 4096
  foe : ∀ q : Nat, q < n → ∀ f ∈ row T.foes q, 0 ≤ f ∧ f < (n : Int)
  head : ∀ r ∈ T.rules, 0 ≤ r.head ∧ r.head < (n : Int)
  body : ∀ r ∈ T.rules, ∀ x ∈ r.body, 0 ≤ x ∧ x < (n : Int)
  beat : ∀ l ∈ T.beats, l.Pairwise (· < ·)
  fact : ∀ x ∈ F, 0 ≤ x ∧ x < (n : Int)
def u8s (l : List Int) : List Value := l.map (Value.int .u8)
def isTag (t : Int) : Prop := t = 1 ∨ t = 2 ∨ t = 3 ∨ t = 4
end Go.Proofs.Ytdmnoeooljofcaa
