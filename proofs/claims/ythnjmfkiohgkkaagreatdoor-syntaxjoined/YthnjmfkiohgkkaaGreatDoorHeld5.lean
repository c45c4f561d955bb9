/- What Parse answers holds its limits; texts of the same tokens. -/
import Derived.Test.YthnjmfkiohgkkaaGreatDoorSpacedForm
import Derived.Test.YthnjmfkiohgkkaaGreatDoorAlive5
import Derived.Test.YthnjmfkiohgkkaaGreatDoorSmall5
import Derived.Test.YthnjmfkiohgkkaaGreatDoorGapAll
namespace Go.Proofs.YthnjmfkiohgkkaaGreatDoor.Sy
open Go.RowKit

theorem kt_bare (L : List Tok) : kt L = bare L := rfl

theorem lex_zero {l : Bytes} (h : (lexT l).err = 0) : l.length ≤ 65536 ∧ lexT l = W l 0 [] [] := by
  unfold lexT at h ⊢
  split
  · next hl => rw [if_pos hl] at h; simp at h
  · next hl => exact ⟨by omega, rfl⟩

theorem lex_of {l : Bytes} (h : l.length ≤ 65536) : lexT l = W l 0 [] [] := by
  unfold lexT
  rw [if_neg (by omega)]
  rfl

theorem held_nothing : Held StatM.none := held_none []

/-- What Parse answers holds its limits. -/
theorem parse_held (l : Bytes) : Held (parseM l).1 := by
  unfold parseM
  split
  · split
    · next S t ht => exact post_text FN _ _ _ _ ht
    · exact held_nothing
  · exact held_nothing

end Go.Proofs.YthnjmfkiohgkkaaGreatDoor.Sy
