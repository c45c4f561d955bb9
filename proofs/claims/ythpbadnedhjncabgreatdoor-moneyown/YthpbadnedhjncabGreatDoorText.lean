/- The document's Text and Print: the one form of an amount. -/
import Derived.Test.YthpbadnedhjncabGreatDoorDigits
namespace Go.Proofs.YthpbadnedhjncabGreatDoor
open Go.RowKit

/-- The one form of a number of cents from 0 on. -/
def centsB (m : Int) : List Int := decD 20 (m / 100) ++ (if m % 100 = 0 then [] else [46, 48 + m % 100 / 10, 48 + m % 10])

/-- The one form. -/
def textM (m : Int) : List Int := if m < 0 then 45 :: centsB (-m) else centsB m

theorem decD_len : ∀ (f : Nat) (n : Int), (decD f n).length ≤ f + 1 := by
  intro f
  induction f with
  | zero => intro n; simp [decD]
  | succ f ih => intro n; rw [decD]; split
                 · simp
                 · have := ih (n / 10); simp; omega

theorem str_empty : (⟨#[]⟩ : ByteArray) = strOfNums [] := rfl
theorem str_minus : (⟨#[45]⟩ : ByteArray) = strOfNums [45] := rfl
theorem str_point : (⟨#[46]⟩ : ByteArray) = strOfNums [46] := rfl

theorem ret_str {a b : ByteArray} (h : a = b) : Ending.returned (.string a) = .returned (.string b) := by rw [h]

/-- P2.1. -/
def printM (m : Int) : List Int × Int := if may m = true then (textM m, 0) else ([], 22)

end Go.Proofs.YthpbadnedhjncabGreatDoor
