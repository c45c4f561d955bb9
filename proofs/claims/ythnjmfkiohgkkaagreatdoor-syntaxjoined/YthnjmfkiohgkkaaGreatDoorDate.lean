/- Whether a text begins with a date's form. -/
import Derived.Test.YthnjmfkiohgkkaaGreatDoorBase
import Derived.Lib.OthersKept
import Derived.LoopTactic
import Derived.LoopN
namespace Go.Proofs.YthnjmfkiohgkkaaGreatDoor
open Go.RowKit

theorem getD_at (s : ByteArray) (k : Nat) (h : k < s.size) : s.data.toList.getD k 0 = s[k] := by
  rw [List.getD_eq_getElem?_getD, List.getElem?_eq_getElem (by simpa using h)]; rfl

theorem dateB_short (s : ByteArray) (h : s.size < 10) : dateB s.data.toList = false := by
  have : s.data.toList.length = s.size := by simp
  simp only [dateB, this, Bool.and_eq_false_iff, decide_eq_false_iff_not]
  left; omega

theorem dateB_not (s : ByteArray) (k : Nat) (hk : k < 10) (h : dpat k (s.data.toList.getD k 0) = false) : dateB s.data.toList = false := by
  simp only [dateB, Bool.and_eq_false_iff]
  right
  rw [List.all_eq_false]
  exact ⟨k, by simpa using hk, by simp only [h]; simp⟩

theorem dateB_yes (s : ByteArray) (hs : 10 ≤ s.size) (h : ∀ j, j < 10 → dpat j (s.data.toList.getD j 0) = true) : dateB s.data.toList = true := by
  have : s.data.toList.length = s.size := by simp
  simp only [dateB, this, Bool.and_eq_true, decide_eq_true_eq, List.all_eq_true, List.mem_range]
  exact ⟨hs, h⟩

def formA : ByteArray := ⟨#[48, 48, 48, 48, 45, 48, 48, 45, 48, 48]⟩

theorem next_dash (w : World) (k : Nat) (ty : TypeId) (h : k = 4 ∨ k = 7) : (Instr.next (.pointer (some ⟨w.heap.size, 0, none⟩)) true ty).run Tryz.prog (w.iter formA k) = .ok (.tuple #[.bool true, .int .i64 k, .int .i32 45]) (w.iter formA (k + 1)) := by
  rcases h with rfl | rfl
  · exact run_next_ascii w formA 4 ty (by decide) (by decide)
  · exact run_next_ascii w formA 7 ty (by decide) (by decide)

theorem next_digit (w : World) (k : Nat) (ty : TypeId) (hk : k < 10) (h : ¬ (k = 4 ∨ k = 7)) : (Instr.next (.pointer (some ⟨w.heap.size, 0, none⟩)) true ty).run Tryz.prog (w.iter formA k) = .ok (.tuple #[.bool true, .int .i64 k, .int .i32 48]) (w.iter formA (k + 1)) := by
  have : k = 0 ∨ k = 1 ∨ k = 2 ∨ k = 3 ∨ k = 5 ∨ k = 6 ∨ k = 8 ∨ k = 9 := by omega
  rcases this with rfl | rfl | rfl | rfl | rfl | rfl | rfl | rfl
  · exact run_next_ascii w formA 0 ty (by decide) (by decide)
  · exact run_next_ascii w formA 1 ty (by decide) (by decide)
  · exact run_next_ascii w formA 2 ty (by decide) (by decide)
  · exact run_next_ascii w formA 3 ty (by decide) (by decide)
  · exact run_next_ascii w formA 5 ty (by decide) (by decide)
  · exact run_next_ascii w formA 6 ty (by decide) (by decide)
  · exact run_next_ascii w formA 8 ty (by decide) (by decide)
  · exact run_next_ascii w formA 9 ty (by decide) (by decide)

theorem below_iter (w : World) (s : ByteArray) (p : Nat) : Below w.heap.size w (w.iter s p) :=
  ⟨rfl, rfl, rfl, by simp [World.iter], fun k hk => Go.heap_alloc_old w _ hk⟩

set_option maxRecDepth 100000 in
set_option maxHeartbeats 4000000 in
theorem beginsDate_any (s : ByteArray) (w : World) : Calls Tryz.prog 114 #[.string s] w fun e w' => e = .returned (.bool (dateB s.data.toList)) ∧ Below w.heap.size w w' := by
  by_cases hl : s.size < 10
  · have HD := hide (dateB_short s hl)
    go_enter Tryz.func114, Tryz.ntmps114
    go_wp2
    go_ret
    exact ⟨ret_bool HD.out.symm, Below.refl _ _⟩
  · go_enter Tryz.func114, Tryz.ntmps114
    go_wp2
    go_loopw [3] (fun _ wr => ∃ k : Nat, k ≤ 10 ∧ wr = w.iter formA k ∧ Hid (∀ j, j < k → dpat j (s.data.toList.getD j 0) = true)) (fun _ w' => 10 - w'.iterPos w.heap.size)
    case atStart => exact ⟨0, by omega, rfl, fun j hj => by omega⟩
    case round =>
      obtain ⟨k, hk, rfl, HK⟩ := hrel
      by_cases hkl : k < 10
      · have hks : k < s.size := by omega
        have hb255 : (s[k].toNat : Int) ≤ 255 := by have := s[k].toNat_lt; omega
        have HG := hide (getD_at s k hks)
        have CC := hide (classOf_any (s[k].toNat : Int) (w.iter formA (k + 1)))
        by_cases h47 : k = 4 ∨ k = 7
        · have hnx := fun ty => next_dash w k ty h47
          have HP : Hid (∀ c, dpat k c = decide (c.toNat = 45)) := fun c => by simp [dpat, h47]
          clear h47
          by_cases hd : (s[k].toNat : Int) = 45
          · have HN : Hid (∀ j, j < k + 1 → dpat j (s.data.toList.getD j 0) = true) := fun j hj => by
              by_cases e : j = k
              · subst e; rw [HP.out, HG.out]; simp only [decide_eq_true_eq]; omega
              · exact HK.out j (by omega)
            go_wp2_with fail
            go_roundw
            case rel => exact ⟨k + 1, by omega, rfl, HN⟩
            case measure => simp; omega
          · have HN := hide (dateB_not s k hkl (by rw [HP.out, HG.out]; simp only [decide_eq_false_iff_not]; omega))
            go_wp2_with fail
            go_ret
            exact ⟨ret_bool HN.out.symm, below_iter _ _ _⟩
        · have hnx := fun ty => next_digit w k ty hkl h47
          have HP : Hid (∀ c, dpat k c = digB c) := fun c => by simp [dpat, h47]
          clear h47
          have HC := hide (cls_digit s[k])
          by_cases hd : cls (s[k].toNat : Int) = 5
          · have HN : Hid (∀ j, j < k + 1 → dpat j (s.data.toList.getD j 0) = true) := fun j hj => by
              by_cases e : j = k
              · subst e; rw [HP.out, HG.out]; exact HC.out.1 hd
              · exact HK.out j (by omega)
            go_wp2_with fail
            refine CC.out.mono ?_
            rintro _ w1 ⟨rfl, hw1⟩
            subst w1
            go_wp2_with fail
            go_roundw
            case rel => exact ⟨k + 1, by omega, rfl, HN⟩
            case measure => simp; omega
          · have HN := hide (dateB_not s k hkl (by rw [HP.out, HG.out]; cases hx : digB s[k] with | false => rfl | true => exact absurd (HC.out.2 hx) hd))
            go_wp2_with fail
            refine CC.out.mono ?_
            rintro _ w1 ⟨rfl, hw1⟩
            subst w1
            go_wp2_with fail
            go_ret
            exact ⟨ret_bool HN.out.symm, below_iter _ _ _⟩
      · have hke : k = 10 := by omega
        subst hke
        have hnx : ∀ ty, (Instr.next (.pointer (some ⟨w.heap.size, 0, none⟩)) true ty).run Tryz.prog (w.iter formA 10) = _ := fun ty => run_next_end w formA 10 ty (by decide)
        have HY := hide (dateB_yes s (by omega) HK.out)
        go_wp2_with fail
        go_ret
        exact ⟨ret_bool HY.out.symm, below_iter _ _ _⟩
end Go.Proofs.YthnjmfkiohgkkaaGreatDoor
