/- The list by name: each number once, names rising. -/
import Derived.Test.YtijpdoclmplclaaOrd
namespace Go.Proofs.Ytijpdoclmplclaa

/-- The model's order of texts. -/
theorem less_ltB : ∀ a b : Bytes, Op.bytesLess a b = ltB a b
  | [], [] => rfl
  | [], _ :: _ => rfl
  | _ :: _, [] => rfl
  | x :: a, y :: b => by
    unfold Op.bytesLess ltB
    by_cases h1 : x < y
    · rw [if_pos h1, decide_eq_true h1]; rfl
    · rw [if_neg h1, decide_eq_false h1, Bool.false_or]
      by_cases h2 : y < x
      · have hne : (x == y) = false := beq_eq_false_iff_ne.2 (by rintro rfl; exact h1 h2)
        rw [if_pos h2, hne, Bool.false_and]
      · have e : x = y := UInt8.le_antisymm (UInt8.not_lt.1 h2) (UInt8.not_lt.1 h1)
        rw [if_neg h2, e, beq_self_eq_true, Bool.true_and]
        exact less_ltB a b
theorem srt_perm (l : List Bytes) : (srt l).Perm (List.range l.length) := List.mergeSort_perm _ _
theorem srt_lt_length {l : List Bytes} {i : Nat} (hi : i < l.length) : (srt l).getD i 0 < l.length := by
  have h1 : i < (srt l).length := by rw [srt_length]; exact hi
  rw [List.getD_eq_getElem?_getD, List.getElem?_eq_getElem h1]
  exact List.mem_range.1 ((srt_perm l).mem_iff.1 (List.getElem_mem h1))
theorem srt_pairwise (l : List Bytes) : (srt l).Pairwise fun i j => (!ltB (l.getD j []) (l.getD i [])) = true := by
  unfold srt
  refine List.pairwise_mergeSort ?_ ?_ _
  · intro a b c h k
    simp only [Bool.not_eq_true'] at h k ⊢
    exact ltB_ntrans _ _ _ k h
  · intro a b
    cases h : ltB (l.getD b []) (l.getD a []) with
    | false => simp
    | true =>
      cases k : ltB (l.getD a []) (l.getD b []) with
      | false => simp
      | true =>
        have := ltB_trans _ _ _ h k
        rw [ltB_irrefl] at this
        cases this
theorem srt_rises {l : List Bytes} (hn : l.Nodup) {i : Nat} (hi : i + 1 < l.length) : ltB (l.getD ((srt l).getD i 0) []) (l.getD ((srt l).getD (i + 1) 0) []) = true := by
  have hs := srt_length l
  have h0 : i < (srt l).length := by omega
  have h1 : i + 1 < (srt l).length := by omega
  have hp := List.pairwise_iff_getElem.1 (srt_pairwise l) i (i + 1) h0 h1 (by omega)
  have m0 := srt_lt_length (l := l) (i := i) (by omega)
  have m1 := srt_lt_length (l := l) (i := i + 1) hi
  have hd : (srt l).Nodup := (srt_perm l).nodup_iff.2 List.nodup_range
  have hne : (srt l)[i] ≠ (srt l)[i + 1] := by
    intro e
    have := (List.getElem_inj (h₀ := h0) (h₁ := h1) hd).1 e
    omega
  have e0 : (srt l).getD i 0 = (srt l)[i] := by rw [List.getD_eq_getElem?_getD, List.getElem?_eq_getElem h0]; rfl
  have e1 : (srt l).getD (i + 1) 0 = (srt l)[i + 1] := by rw [List.getD_eq_getElem?_getD, List.getElem?_eq_getElem h1]; rfl
  rw [e0] at m0 ⊢
  rw [e1] at m1 ⊢
  simp only [Bool.not_eq_true'] at hp
  cases h : ltB (l.getD (srt l)[i] []) (l.getD (srt l)[i + 1] []) with
  | true => rfl
  | false =>
    have e := ltB_conn _ _ h hp
    rw [List.getD_eq_getElem?_getD, List.getD_eq_getElem?_getD, List.getElem?_eq_getElem m0, List.getElem?_eq_getElem m1] at e
    simp only [Option.getD_some] at e
    exact absurd ((List.getElem_inj (h₀ := m0) (h₁ := m1) hn).1 e) hne
end Go.Proofs.Ytijpdoclmplclaa
