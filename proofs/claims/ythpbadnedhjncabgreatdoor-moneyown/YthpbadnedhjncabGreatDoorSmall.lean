/- The document's Check, Compare, Clamp and digit: what they answer. -/
import Derived.Test.YthpbadnedhjncabGreatDoorSums
namespace Go.Proofs.YthpbadnedhjncabGreatDoor
open Go.RowKit

theorem ret_i64 {a b : Int} (h : a = b) : Ending.returned (.int .i64 a) = .returned (.int .i64 b) := by rw [h]

def checkM (m : Int) : Int := if may m then 0 else 22

def cmpM (a b : Int) : Int := if a < b then -1 else if b < a then 1 else 0

def clampM (m l u : Int) : Int × Int :=
  if may m = false ∨ may l = false ∨ may u = false then (0, 22) else if u < l then (0, 1) else if m < l then (l, 0) else if u < m then (u, 0) else (m, 0)

end Go.Proofs.YthpbadnedhjncabGreatDoor
