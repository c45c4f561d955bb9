/- Between tokens there are blanks and remarks alone. -/
import Derived.Test.YtlllgndbcagkgaaPieces
namespace Go.Proofs.Ytlllgndbcagkgaa

/-- Blanks and remarks alone; the flag: within a remark. -/
def gapB : Bool → List UInt8 → Bool
  | _, [] => true
  | f, c :: r => if clsB c = 1 then gapB false r else if clsB c = 8 then gapB true r else if f = false ∧ clsB c ≠ 2 then false else gapB f r

theorem gap_in (x y : List UInt8) (h : ∀ c ∈ x, noEnd c = true) : gapB true (x ++ y) = gapB true y := by
  induction x with
  | nil => rfl
  | cons c r ih =>
    have hc : clsB c ≠ 1 := of_decide_eq_true (h c (by simp))
    rw [List.cons_append, gapB, if_neg hc]
    by_cases h8 : clsB c = 8
    · rw [if_pos h8]; exact ih (fun d hd => h d (by simp [hd]))
    · rw [if_neg h8, if_neg (by simp)]; exact ih (fun d hd => h d (by simp [hd]))

theorem gap_end (y : List UInt8) (h : y ≠ [] → clsB (y.getD 0 0) = 1) : gapB true y = gapB false y := by
  cases y with
  | nil => rfl
  | cons c r =>
    have := h (by simp)
    simp only [List.getD_cons_zero] at this
    rw [gapB, gapB, if_pos this, if_pos this]

theorem take_noEnd (r : List UInt8) : ∀ c ∈ r.take (span noEnd r), noEnd c = true := by
  intro c hc
  obtain ⟨j, hj, rfl⟩ := List.getElem_of_mem hc
  have hj2 : j < span noEnd r := by simp at hj; omega
  have hj3 : j < r.length := by simp at hj; omega
  have := span_in noEnd r j hj2
  rw [List.getD_eq_getElem?_getD, List.getElem?_eq_getElem hj3] at this
  simpa using this

theorem drop_end (r : List UInt8) : r.drop (span noEnd r) ≠ [] → clsB ((r.drop (span noEnd r)).getD 0 0) = 1 := by
  intro h
  have hlt : span noEnd r < r.length := by
    rcases Nat.lt_or_ge (span noEnd r) r.length with h1 | h1
    · exact h1
    · exact absurd (List.drop_eq_nil_of_le h1) h
  have := span_out noEnd r hlt
  rw [getD_drop]
  have h2 := of_decide_eq_false this
  simpa using h2

theorem gap_blank {c : UInt8} {r : List UInt8} (h : blankB c = true) : gapB false (c :: r) = gapB false r := by
  have h1 : clsB c = 1 ∨ clsB c = 2 := of_decide_eq_true h
  rw [gapB]
  rcases h1 with h1 | h1
  · rw [if_pos h1]
  · rw [if_neg (by omega), if_neg (by omega), if_neg (by simp [h1])]

theorem gap_sharp {c : UInt8} {r y : List UInt8} (h : clsB c = 8) (hy : y ≠ [] → clsB (y.getD 0 0) = 1) : gapB false (c :: (r.take (span noEnd r) ++ y)) = gapB false y := by
  rw [gapB, if_neg (by omega), if_pos h, gap_in _ _ (take_noEnd r), gap_end y hy]

/-- Where the next token stands, or that there is none. -/
theorem cut_next {l : List UInt8} {i : Nat} {ts : List Tok} {rs : List (List UInt8)} (h : Cut l i ts rs) :
    (ts = [] → gapB false l = true) ∧ ∀ t ts', ts = t :: ts' → ∃ g x z rs', l = g ++ (x ++ z) ∧ gapB false g = true ∧ t.place = i + g.length ∧ Piece t x ∧ Cut z (i + g.length + x.length) ts' rs' := by
  induction h with
  | nil i => exact ⟨fun _ => rfl, fun t ts' e => by simp at e⟩
  | @blank c r i ts rs hb _ ih =>
    refine ⟨fun e => by rw [gap_blank hb]; exact ih.1 e, fun t ts' e => ?_⟩
    obtain ⟨g, x, z, rs', h1, h2, h3, h4, h5⟩ := ih.2 t ts' e
    refine ⟨c :: g, x, z, rs', by rw [h1]; rfl, by rw [gap_blank hb]; exact h2, by rw [h3]; simp; omega, h4, ?_⟩
    have e2 : i + (c :: g).length + x.length = i + 1 + g.length + x.length := by simp; omega
    rw [e2]; exact h5
  | @remark c r i ts rs h8 _ ih =>
    have hr : r = r.take (span noEnd r) ++ r.drop (span noEnd r) := (List.take_append_drop _ _).symm
    refine ⟨fun e => ?_, fun t ts' e => ?_⟩
    · have e3 : c :: r = c :: (r.take (span noEnd r) ++ r.drop (span noEnd r)) := by rw [← hr]
      rw [e3, gap_sharp h8 (drop_end r)]; exact ih.1 e
    · obtain ⟨g, x, z, rs', h1, h2, h3, h4, h5⟩ := ih.2 t ts' e
      refine ⟨c :: (r.take (span noEnd r) ++ g), x, z, rs', ?_, ?_, ?_, h4, ?_⟩
      · rw [List.cons_append, List.append_assoc, ← h1, ← hr]
      · rw [gap_sharp h8 (fun hg => ?_)]
        · exact h2
        · have := drop_end r (by rw [h1]; simp [hg])
          rw [h1, getD_left _ _ _ (List.length_pos_iff.2 hg)] at this
          exact this
      · rw [h3]; have := span_le noEnd r; simp; omega
      · have e2 : i + (c :: (r.take (span noEnd r) ++ g)).length + x.length = i + 1 + span noEnd r + g.length + x.length := by have := span_le noEnd r; simp; omega
        rw [e2]; exact h5
  | @tok c r i ts rs hb h8 he hc ih =>
    refine ⟨fun e => by simp at e, fun t ts' e => ?_⟩
    simp only [List.cons.injEq] at e
    obtain ⟨e1, e2⟩ := e
    subst e2
    have hl := one_len (l := c :: r) (by simp) he
    have e4 : ((c :: r).take (one (c :: r)).2.1).length = (one (c :: r)).2.1 := by simp only [List.length_take]; omega
    refine ⟨[], (c :: r).take (one (c :: r)).2.1, (c :: r).drop (one (c :: r)).2.1, rs, by simp, rfl, by rw [← e1]; rfl, ?_, ?_⟩
    · rw [← e1]
      exact ⟨whole_tok hb h8 he, tok_eq he i⟩
    · rw [e4]; exact hc
end Go.Proofs.Ytlllgndbcagkgaa
