/- The page's table: Find, Name, Add. -/
import Derived.Test.YtijpdoclmplclaaArgs
import Derived.Test.YtijpdoclmplclaaRefSp
namespace Go.Proofs.Ytijpdoclmplclaa
open Go.RowKit Go.Shelf Go.Maps

/-- The page's table at block B. -/
structure RTab (Z : Nat → Prop) (B : Nat) (av : Value) (most : Int) (l : List Bytes) (w : World) : Prop where
  box : w.heap[B]? = some (.cells #[.int .i64 most, av] 41 (0, 0))
  row : w.ownsRow 0 9 1 av l.length (strs l)
  zB : Z B
  za : ∀ g, av.ownBlock = some g → Z g
  len : (l.length : Int) ≤ most
  most2 : most ≤ 4096

section
variable {Z : Nat → Prop} {B : Nat} {av : Value} {most : Int} {l : List Bytes} {w w' : World}
theorem RTab.keep (h : RTab Z B av most l w) (hb : ∀ k, Z k → k < w.heap.size → w'.heap[k]? = w.heap[k]?) : RTab Z B av most l w' :=
  ⟨(hb B h.zB (loc_lt h.box)).trans h.box, owns_keep h.row fun g hg => hb g (h.za g hg) (owns_lt h.row hg), h.zB, h.za, h.len, h.most2⟩
theorem RTab.below (h : RTab Z B av most l w) (hb : Below w.heap.size w w') : RTab Z B av most l w' := h.keep fun k _ hk => hb.block k hk
theorem RTab.mono (h : RTab Z B av most l w) {Z' : Nat → Prop} (hz : ∀ k, k < w.heap.size → Z k → Z' k) : RTab Z' B av most l w :=
  ⟨h.box, h.row, hz B (loc_lt h.box) h.zB, fun g hg => hz g (owns_lt h.row hg) (h.za g hg), h.len, h.most2⟩

theorem pos_hit {s : Bytes} {k : Nat} (hk : k < l.length) (hn : s ∉ l.take k) (he : l.getD k [] = s) : s ∈ l ∧ posB l s = k := by
  have e : l[k]? = some s := by
    rw [List.getElem?_eq_getElem hk]
    rw [List.getD_eq_getElem?_getD, List.getElem?_eq_getElem hk] at he
    simpa using he
  have hm : s ∈ l := List.mem_of_getElem? e
  refine ⟨hm, ?_⟩
  unfold posB
  rw [if_pos hm]
  have hl : l = l.take k ++ s :: l.drop (k + 1) := by
    have h1 := (List.take_append_drop k l).symm
    rw [List.drop_eq_getElem_cons hk] at h1
    have h2 : l[k] = s := by rw [List.getElem?_eq_getElem hk] at e; simpa using e
    rw [h2] at h1
    exact h1
  rw [hl, List.idxOf_append, if_neg hn]
  simp
  omega
theorem pos_step {s : Bytes} {k : Nat} (hk : k < l.length) (hn : s ∉ l.take k) (he : ¬ l.getD k [] = s) : s ∉ l.take (k + 1) := by
  rw [List.take_add_one, List.mem_append]
  rintro (h | h)
  · exact hn h
  · rw [List.getElem?_eq_getElem hk] at h
    rw [List.getD_eq_getElem?_getD, List.getElem?_eq_getElem hk] at he
    simp at h he
    exact he h.symm

set_option maxRecDepth 100000 in
set_option maxHeartbeats 3200000 in
theorem rfind_any (h : RTab Z B av most l w) (s : ByteArray) : Calls Try.prog 36 #[ptr B, .string s] w fun e w' =>
    e = .returned (.tuple #[.int .i64 (posB l s.data.toList), .bool (decide (s.data.toList ∈ l))]) ∧ w' = w := by
  have c1 := cell_of_row w B 1 _ _ _ h.box
  simp at c1
  have HROW := hide h.row
  have hl : l.length ≤ 4096 := by have := h.len; have := h.most2; omega
  obtain ⟨ta, tc, rfl⟩ := owns_slice h.row
  clear h
  go_enter Try.func36, Try.ntmps36
  go_wp2_with fail
  go_loop [6] (fun x => ∃ k : Nat, k ≤ l.length ∧ x = .int .i64 k ∧ Hid (s.data.toList ∉ l.take k)) (fun x => l.length - (intOf x).toNat)
  case atStart => exact ⟨0, by omega, rfl, hide (by simp)⟩
  case round =>
    obtain ⟨k, hk, rfl, HK⟩ := hrel
    by_cases hlt : k < l.length
    · obtain ⟨g, c, e1, kc, -, -⟩ := owns_at HROW.out (strs_at hlt)
      simp only [Value.slice.injEq] at e1
      obtain ⟨rfl, -, rfl⟩ := e1
      by_cases he : l.getD k [] = s.data.toList
      · have HP := hide (pos_hit hlt HK.out he)
        rw [he, str_ba] at kc
        clear he HK
        go_wp2_with fail
        go_ret2
        rw [HP.out.2, decide_eq_true HP.out.1]
        exact ⟨rfl, rfl⟩
      · have HP := hide (pos_step hlt HK.out he)
        generalize l.getD k [] = x at kc he
        have hbb : (x == s.toList) = false := beq_eq_false_iff_ne.2 (by rw [ByteArray.toList_eq]; exact he)
        unfold str at kc
        clear he HK
        go_wp2_with fail
        go_round
        case rel => exact ⟨k + 1, by omega, by go_num, HP⟩
        case measure => simp [intOf]; omega
    · have HP : Hid (s.data.toList ∉ l) := by
        have := HK.out
        rw [List.take_of_length_le (by omega)] at this
        exact this
      go_wp2_with fail
      go_ret2
      rw [decide_eq_false HP.out]
      unfold posB
      rw [if_neg HP.out]
      exact ⟨rfl, rfl⟩

set_option maxRecDepth 100000 in
set_option maxHeartbeats 1600000 in
theorem rname_any (h : RTab Z B av most l w) (n : Int) : Calls Try.prog 37 #[ptr B, .int .i64 n] w fun e w' =>
    e = .returned (.tuple #[str (nameM l n).1, .int .i64 (nameM l n).2]) ∧ w' = w := by
  have c1 := cell_of_row w B 1 _ _ _ h.box
  simp at c1
  have hl : l.length ≤ 4096 := by have := h.len; have := h.most2; omega
  by_cases hn : 0 ≤ n ∧ n < l.length
  · obtain ⟨i, rfl⟩ : ∃ i : Nat, n = i := ⟨n.toNat, by omega⟩
    have hi : i < l.length := by omega
    obtain ⟨g, c, rfl, hc, -, -⟩ := owns_at h.row (strs_at hi)
    have e : Hid (nameM l i = (l.getD i [], 0)) := by unfold Hid nameM; rw [if_pos hn]; simp
    rw [e.out]
    clear e
    generalize l.getD i [] = s at hc ⊢
    unfold str at hc
    clear h hn
    go_enter Try.func37, Try.ntmps37
    go_wp2_with fail
    go_ret2
    exact ⟨rfl, rfl⟩
  · have e : Hid (nameM l n = ([], 1)) := by unfold Hid nameM; rw [if_neg hn]
    obtain ⟨a, c, rfl⟩ := owns_slice h.row
    rw [e.out]
    clear h e
    by_cases h0 : n < 0
    · clear hn
      go_enter Try.func37, Try.ntmps37
      go_wp2_with fail
      go_ret2
      exact ⟨rfl, rfl⟩
    · have h1 : (l.length : Int) ≤ n := by omega
      clear hn
      go_enter Try.func37, Try.ntmps37
      go_wp2_with fail
      go_ret2
      exact ⟨rfl, rfl⟩
end
end Go.Proofs.Ytijpdoclmplclaa
