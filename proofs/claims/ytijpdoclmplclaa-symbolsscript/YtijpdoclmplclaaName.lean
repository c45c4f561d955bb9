/- Name of a table; strings.Clone. -/
import Derived.Test.YtijpdoclmplclaaFind
import Derived.Test.YtijpdoclmplclaaShelfA
namespace Go.Proofs.Ytijpdoclmplclaa
open Go.RowKit Go.Shelf Go.Maps

theorem clone_any (s : ByteArray) (w : World) (hs : s.size ≤ 281474976710656) : Calls Try.prog 39 #[.string s] w fun e w' => e = .returned (.string s) ∧ Below w.heap.size w w' := by
  have C := hide (Try.stringslite_Clone s w hs)
  go_enter Try.func39, Try.ntmps39
  go_wp2_with (first | (go_at_call 45; refine C.out.mono ?_; rintro _ w1 ⟨rfl, hw1⟩))
  go_ret
  exact ⟨rfl, hw1⟩

/-- A row's cell. -/
theorem owns_at {w : World} {e : Nat} {v : Value} {n : Nat} {xs : List Value} (h : w.ownsRow 0 e 1 v n xs) {i : Nat} {x : Value} (hx : xs[i]? = some x) : ∃ g c, v = .slice (some ⟨g, 0, none⟩) n c ∧ w.cell? ⟨g, i, none⟩ = some x ∧ (∀ j, w.frozen? ⟨g, j, none⟩ = false) ∧ i < n := by
  obtain ⟨h1, h2⟩ := h
  have hi : i < xs.length := by
    apply Classical.byContradiction
    intro hn
    rw [List.getElem?_eq_none (by omega)] at hx
    cases hx
  rcases h2 with ⟨rfl, rfl⟩ | ⟨g, cap, cur, rfl, h3, h4, h5, h6, h7, h8⟩
  · omega
  · refine ⟨g, cap, rfl, ?_, fun j => frozen_of_row w g j cur e h4, by omega⟩
    rw [cell_of_row w g i cur e _ h4, ← Array.getElem?_toList]
    rw [← h8, List.getElem?_take] at hx
    split at hx
    · exact hx
    · cases hx

theorem strs_at {l : List Bytes} {i : Nat} (hi : i < l.length) : (strs l)[i]? = some (str (l.getD i [])) := by
  unfold strs
  rw [List.getElem?_map, List.getElem?_eq_getElem hi]
  simp [List.getD, hi]

/-- What Name answers. -/
def nameM (l : List Bytes) (n : Int) : Bytes × Int := if 0 ≤ n ∧ n < l.length then (l.getD n.toNat [], 0) else ([], 1)
theorem name_short {s : Bytes} (h : isNameB s = true) : 1 ≤ s.length ∧ s.length ≤ 32 := by
  unfold isNameB speltB at h
  simp only [Bool.and_eq_true, decide_eq_true_eq] at h
  exact ⟨h.1.1.1, h.1.1.2⟩

section
variable {Z : Nat → Prop} {B M : Nat} {nv : Value} {d : Int} {sv : Value} {most : Int} {l : List Bytes} {w : World}

set_option maxRecDepth 100000 in
set_option maxHeartbeats 1600000 in
theorem name_any (h : Tab Z B M nv d sv most l w) (n : Int) : Calls Try.prog 24 #[ptr B, .int .i64 n] w fun e w' =>
    e = .returned (.tuple #[str (nameM l n).1, .int .i64 (nameM l n).2]) ∧ Below w.heap.size w w' := by
  have C := hide (made_any h)
  obtain ⟨-, c1, -, -, -, -, -, -⟩ := h.cells
  have hl := h.len2
  by_cases hn : 0 ≤ n ∧ n < l.length
  · obtain ⟨i, rfl⟩ : ∃ i : Nat, n = i := ⟨n.toNat, by omega⟩
    have hi : i < l.length := by omega
    obtain ⟨g, c, rfl, hc, -, -⟩ := owns_at h.row (strs_at hi)
    have HS := hide (name_short (h.names (l.getD i []) (by rw [List.getD_eq_getElem?_getD, List.getElem?_eq_getElem hi]; simp)))
    have e : Hid (nameM l i = (l.getD i [], 0)) := by unfold Hid nameM; rw [if_pos hn]; simp
    rw [e.out]
    clear e
    generalize l.getD i [] = s at hc HS ⊢
    have CC := hide (clone_any ⟨s.toArray⟩ w (by show s.toArray.size ≤ _; have := HS.out.2; simp only [List.size_toArray]; omega))
    unfold str at hc
    clear h hn HS
    go_enter Try.func24, Try.ntmps24
    go_wp2_with (first | (go_at_call 38; refine C.out.mono ?_; rintro _ w1 ⟨rfl, hw1⟩; subst w1) | (go_at_call 39; refine CC.out.mono ?_; rintro _ w1 ⟨rfl, hw1⟩))
    go_ret2
    exact ⟨rfl, hw1⟩
  · have e : Hid (nameM l n = ([], 1)) := by unfold Hid nameM; rw [if_neg hn]
    obtain ⟨a, c, rfl⟩ := h.form
    rw [e.out]
    clear h e
    by_cases h0 : n < 0
    · clear hn
      go_enter Try.func24, Try.ntmps24
      go_wp2_with (first | (go_at_call 38; refine C.out.mono ?_; rintro _ w1 ⟨rfl, hw1⟩; subst w1))
      go_ret2
      exact ⟨rfl, Below.refl _ _⟩
    · have h1 : (l.length : Int) ≤ n := by omega
      clear hn
      go_enter Try.func24, Try.ntmps24
      go_wp2_with (first | (go_at_call 38; refine C.out.mono ?_; rintro _ w1 ⟨rfl, hw1⟩; subst w1))
      go_ret2
      exact ⟨rfl, Below.refl _ _⟩
end
end Go.Proofs.Ytijpdoclmplclaa
