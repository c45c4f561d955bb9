/- A text's bytes; the document's digit. -/
import Derived.Test.YthpbadnedhjncabGreatDoorText
namespace Go.Proofs.YthpbadnedhjncabGreatDoor
open Go.RowKit

/-- A text's bytes. -/
def strB (s : ByteArray) : List Int := s.data.toList.map fun b => (b.toNat : Int)

theorem strB_len (s : ByteArray) : (strB s).length = s.size := by simp [strB]

theorem strB_at (s : ByteArray) (k : Nat) (h : k < s.size) : (strB s).getD k 0 = ((s[k]'h).toNat : Int) := by
  have hl : k < (strB s).length := by rw [strB_len]; exact h
  simp only [List.getD, List.getElem?_eq_getElem hl, Option.getD_some]
  simp [strB]
  rfl

theorem byte_lt (s : ByteArray) (k : Nat) (h : k < s.size) : (s[k]'h).toNat ≤ 255 := by have := (s[k]'h).toNat_lt; omega

def isDig (c : Int) : Bool := decide (48 ≤ c ∧ c ≤ 57)

end Go.Proofs.YthpbadnedhjncabGreatDoor
