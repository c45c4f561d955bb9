/- The page's sort of numbers by their names: put in one by one; there is one list that rises. -/
import Derived.Test.YtijpdoclmplclaaSrtP
namespace Go.Proofs.Ytijpdoclmplclaa

/-- Names rise strictly. -/
def Rises (l : List Bytes) (xs : List Nat) : Prop := xs.Pairwise fun i j => ltB (l.getD i []) (l.getD j []) = true
theorem ltB_asym {a b : Bytes} (h : ltB a b = true) : ltB b a = false := by
  cases k : ltB b a with
  | false => rfl
  | true =>
    have := ltB_trans _ _ _ h k
    rw [ltB_irrefl] at this
    cases this
/-- One list alone rises. -/
theorem rises_one {l : List Bytes} : ∀ (xs ys : List Nat), xs.Perm ys → Rises l xs → Rises l ys → xs = ys
  | [], ys, h, _, _ => h.nil_eq
  | x :: xs, [], h, _, _ => by simp at h
  | x :: xs, y :: ys, h, hx, hy => by
    obtain ⟨hx1, hx2⟩ := List.pairwise_cons.1 hx
    obtain ⟨hy1, hy2⟩ := List.pairwise_cons.1 hy
    have e : x = y := by
      have m1 : x ∈ y :: ys := h.subset (by simp)
      have m2 : y ∈ x :: xs := h.symm.subset (by simp)
      rcases List.mem_cons.1 m1 with e | m1
      · exact e
      · rcases List.mem_cons.1 m2 with e | m2
        · exact e.symm
        · have a := hy1 x m1
          rw [ltB_asym (hx1 y m2)] at a
          cases a
    subst e
    rw [rises_one xs ys (List.Perm.cons_inv h) hx2 hy2]
theorem srt_strict {l : List Bytes} (hn : l.Nodup) : Rises l (srt l) := by
  unfold Rises
  rw [List.pairwise_iff_getElem]
  intro i j hi hj hij
  have hs := srt_length l
  have key : ∀ d, i + d + 1 < (srt l).length → ltB (l.getD ((srt l).getD i 0) []) (l.getD ((srt l).getD (i + d + 1) 0) []) = true := by
    intro d
    induction d with
    | zero => intro h; exact srt_rises hn (by omega)
    | succ d ih => intro h; exact ltB_trans _ _ _ (ih (by omega)) (srt_rises hn (i := i + d + 1) (by omega))
  have := key (j - i - 1) (by omega)
  rw [show i + (j - i - 1) + 1 = j from by omega] at this
  rw [List.getD_eq_getElem?_getD (l := srt l), List.getD_eq_getElem?_getD (l := srt l), List.getElem?_eq_getElem hi, List.getElem?_eq_getElem hj] at this
  simpa using this
theorem rises_srt {l : List Bytes} (hn : l.Nodup) {xs : List Nat} (hp : xs.Perm (List.range l.length)) (hr : Rises l xs) : xs = srt l := rises_one xs (srt l) (hp.trans (srt_perm l).symm) hr (srt_strict hn)

/-- A number put in at a place. -/
def at7 (xs : List Nat) (k i : Nat) : List Nat := xs.take k ++ i :: xs.drop k
theorem at7_perm (xs : List Nat) (k i : Nat) : (at7 xs k i).Perm (i :: xs) := by
  unfold at7
  refine (List.perm_middle).trans ?_
  rw [List.take_append_drop]
theorem at7_rises {l : List Bytes} {xs : List Nat} {k i : Nat} (hx : Rises l xs) (h1 : ∀ y ∈ xs.take k, ltB (l.getD y []) (l.getD i []) = true) (h2 : ∀ y ∈ xs.drop k, ltB (l.getD i []) (l.getD y []) = true) : Rises l (at7 xs k i) := by
  unfold Rises at7
  have hx' := hx
  unfold Rises at hx'
  rw [← List.take_append_drop k xs, List.pairwise_append] at hx'
  rw [List.pairwise_append]
  refine ⟨hx'.1, List.pairwise_cons.2 ⟨h2, hx'.2.1⟩, ?_⟩
  intro a ha b hb
  rcases List.mem_cons.1 hb with rfl | hb
  · exact h1 a ha
  · exact hx'.2.2 a ha b hb
end Go.Proofs.Ytijpdoclmplclaa
