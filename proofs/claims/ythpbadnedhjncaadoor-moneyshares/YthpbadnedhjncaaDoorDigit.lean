/- A text's bytes; the document's digit. -/
import Derived.Test.YthpbadnedhjncaaDoorText
namespace Go.Proofs.YthpbadnedhjncaaDoor
open Go.RowKit

/-- A text's bytes. -/
def strB (s : ByteArray) : List Int := s.data.toList.map fun b => (b.toNat : Int)

theorem strB_len (s : ByteArray) : (strB s).length = s.size := by simp [strB]

theorem strB_at (s : ByteArray) (k : Nat) (h : k < s.size) : (strB s).getD k 0 = ((s[k]'h).toNat : Int) := by
  have hl : k < (strB s).length := by rw [strB_len]; exact h
  simp only [List.getD, List.getElem?_eq_getElem hl, Option.getD_some]
  simp [strB]
  rfl

theorem byte_lt (s : ByteArray) (k : Nat) (h : k < s.size) : (s[k]'h).toNat ≤ 255 := by have := (s[k]'h).toNat_lt; omega

def isDig (c : Int) : Bool := decide (48 ≤ c ∧ c ≤ 57)

theorem digit_any (c : Int) (w : World) (h0 : 0 ≤ c) (h1 : c ≤ 255) : Calls Tryd.prog 34 #[.int .u8 c] w fun e w' => e = .returned (.bool (isDig c)) ∧ w' = w := by
  by_cases h2 : 48 ≤ c
  · by_cases h3 : c ≤ 57
    · have HM : Hid (isDig c = true) := decide_eq_true ⟨h2, h3⟩
      go_enter Tryd.func34, Tryd.ntmps34
      go_wp2
      go_ret
      exact ⟨ret_bool (by rw [HM.out]), rfl⟩
    · have HM : Hid (isDig c = false) := decide_eq_false (by omega)
      have h4 : decide (c ≤ 57) = false := decide_eq_false h3
      go_enter Tryd.func34, Tryd.ntmps34
      go_wp2
      go_ret
      exact ⟨ret_bool (by rw [HM.out]), rfl⟩
  · have HM : Hid (isDig c = false) := decide_eq_false (by omega)
    have h4 : decide (48 ≤ c) = false := decide_eq_false h2
    go_enter Tryd.func34, Tryd.ntmps34
    go_wp2
    go_ret
    exact ⟨ret_bool (by rw [HM.out]), rfl⟩

end Go.Proofs.YthpbadnedhjncaaDoor
