/- The order of bytes; the numbers of names, by their names. -/
import Derived.Test.YtijpdoclmplclaaTab
import Derived.Lib.Bytealg
import Derived.Sort.Statements
namespace Go.Proofs.Ytijpdoclmplclaa
open Go.RowKit Go.Shelf Go.Maps

theorem ltB_irrefl : ∀ a : Bytes, ltB a a = false
  | [] => rfl
  | x :: a => by unfold ltB; rw [if_neg (UInt8.lt_irrefl x), if_neg (UInt8.lt_irrefl x)]; exact ltB_irrefl a
theorem ltB_conn : ∀ a b : Bytes, ltB a b = false → ltB b a = false → a = b
  | [], [], _, _ => rfl
  | [], _ :: _, h, _ => by simp [ltB] at h
  | _ :: _, [], _, h => by simp [ltB] at h
  | x :: a, y :: b, h, k => by
    unfold ltB at h k
    by_cases h1 : x < y
    · rw [if_pos h1] at h; cases h
    · by_cases h2 : y < x
      · rw [if_pos h2] at k; cases k
      · rw [if_neg h1, if_neg h2] at h
        rw [if_neg h2, if_neg h1] at k
        have e : x = y := UInt8.le_antisymm (UInt8.not_lt.1 h2) (UInt8.not_lt.1 h1)
        rw [e, ltB_conn a b h k]
theorem ltB_trans : ∀ a b c : Bytes, ltB a b = true → ltB b c = true → ltB a c = true
  | [], [], _, h, _ => by simp [ltB] at h
  | [], _ :: _, [], _, h => by simp [ltB] at h
  | [], _ :: _, _ :: _, _, _ => rfl
  | _ :: _, [], _, h, _ => by simp [ltB] at h
  | _ :: _, _ :: _, [], _, h => by simp [ltB] at h
  | x :: a, y :: b, z :: c, h, k => by
    unfold ltB at h k ⊢
    by_cases h1 : x < y
    · by_cases h3 : y < z
      · rw [if_pos (UInt8.lt_trans h1 h3)]
      · rw [if_neg h3] at k
        by_cases h4 : z < y
        · rw [if_pos h4] at k; cases k
        · have e : y = z := UInt8.le_antisymm (UInt8.not_lt.1 h4) (UInt8.not_lt.1 h3)
          rw [← e, if_pos h1]
    · rw [if_neg h1] at h
      by_cases h2 : y < x
      · rw [if_pos h2] at h; cases h
      · rw [if_neg h2] at h
        have e : x = y := UInt8.le_antisymm (UInt8.not_lt.1 h2) (UInt8.not_lt.1 h1)
        subst e
        by_cases h3 : x < z
        · rw [if_pos h3]
        · rw [if_neg h3] at k ⊢
          by_cases h4 : z < x
          · rw [if_pos h4] at k; cases k
          · rw [if_neg h4] at k ⊢
            exact ltB_trans a b c h k
theorem ltB_ntrans (a b c : Bytes) (h : ltB a b = false) (k : ltB b c = false) : ltB a c = false := by
  cases hac : ltB a c with
  | false => rfl
  | true =>
    cases hba : ltB b a with
    | true => rw [ltB_trans b a c hba hac] at k; cases k
    | false =>
      have e := ltB_conn a b h hba
      rw [e, k] at hac
      cases hac
theorem compare_lt : ∀ a b : Bytes, decide (Lib.compareBytes a b < 0) = ltB a b
  | [], [] => rfl
  | [], _ :: _ => rfl
  | _ :: _, [] => rfl
  | x :: a, y :: b => by
    unfold Lib.compareBytes ltB
    by_cases h1 : x < y
    · rw [if_pos h1, if_pos h1]; rfl
    · rw [if_neg h1, if_neg h1]
      by_cases h2 : y < x
      · rw [if_pos h2, if_pos h2]; rfl
      · rw [if_neg h2, if_neg h2]; exact compare_lt a b

/-- The numbers below a length, as places. -/
def pl (l : List Bytes) : List (Fin l.length) := List.ofFn fun i => i
theorem pl_val (l : List Bytes) : (pl l).map Fin.val = List.range l.length := by
  apply List.ext_getElem?
  intro i
  unfold pl
  rw [List.getElem?_map, List.getElem?_ofFn]
  by_cases h : i < l.length <;> simp [h]
theorem pl_srt (l : List Bytes) : ((pl l).mergeSort fun x y => !ltB (l.getD y.val []) (l.getD x.val [])).map Fin.val = srt l := by
  rw [List.map_mergeSort (s := fun i j => !ltB (l.getD j []) (l.getD i [])) (fun a _ b _ => rfl), pl_val]
  rfl
end Go.Proofs.Ytijpdoclmplclaa
