/- One token, and the walk, where more stands behind; the whole of the scanner's steps. -/
import Derived.Test.YtlllgndbcagkgabStep2
namespace Go.Proofs.Ytlllgndbcagkgab

theorem getD_left (l z : List UInt8) (j : Nat) (h : j < l.length) : (l ++ z).getD j 0 = l.getD j 0 := by
  simp only [List.getD_eq_getElem?_getD, List.getElem?_append_left h]
theorem getD_mid (l z : List UInt8) (b : UInt8) : (l ++ b :: z).getD l.length 0 = b := by
  simp [List.getD_eq_getElem?_getD]

theorem span_app (p : UInt8 → Bool) (l z : List UInt8) (b : UInt8) (h : p b = false) : span p (l ++ b :: z) = span p l := by
  refine span_eq p _ _ (by have := span_le p l; simp; omega) (fun j hj => ?_) (fun _ => ?_)
  · rw [getD_left _ _ _ (by have := span_le p l; omega)]; exact span_in p l j hj
  · rcases Nat.lt_or_ge (span p l) l.length with h1 | h1
    · rw [getD_left _ _ _ h1]; exact span_out p l h1
    · have e : span p l = l.length := by have := span_le p l; omega
      rw [e, getD_mid]; exact h

theorem span_app2 (p : UInt8 → Bool) (l z : List UInt8) (h : span p l < l.length) : span p (l ++ z) = span p l := by
  refine span_eq p _ _ (by simp; omega) (fun j hj => ?_) (fun _ => ?_)
  · rw [getD_left _ _ _ (by omega)]; exact span_in p l j hj
  · rw [getD_left _ _ _ h]; exact span_out p l h

theorem dateB_long (l z : List UInt8) (h : 10 ≤ l.length) : dateB (l ++ z) = dateB l := by
  have e : (List.range 10).all (fun j => dpat j ((l ++ z).getD j 0)) = (List.range 10).all (fun j => dpat j (l.getD j 0)) := by
    rw [Bool.eq_iff_iff]
    simp only [List.all_eq_true, List.mem_range]
    constructor <;> intro h1 j hj
    · have := h1 j hj; rwa [getD_left _ _ _ (by omega)] at this
    · have := h1 j hj; rwa [getD_left _ _ _ (by omega)]
  have h1 : decide (10 ≤ (l ++ z).length) = true := decide_eq_true (by simp; omega)
  have h2 : decide (10 ≤ l.length) = true := decide_eq_true h
  unfold dateB
  rw [e, h1, h2]

theorem dpat_no (j : Nat) (b : UInt8) (h : clsB b = 1 ∨ clsB b = 2) : dpat j b = false := by
  unfold dpat
  split
  · refine decide_eq_false fun e => ?_
    have : clsB b = 10 := by unfold clsB; rw [e]; rfl
    omega
  · cases hx : digB b with
    | false => rfl
    | true => have := digB_cls.1 hx; omega

theorem dateB_app (l z : List UInt8) (b : UInt8) (h : clsB b = 1 ∨ clsB b = 2) : dateB (l ++ b :: z) = dateB l := by
  rcases Nat.lt_or_ge l.length 10 with h1 | h1
  · have e1 : dateB l = false := by
      unfold dateB
      rw [decide_eq_false (by omega)]; rfl
    rw [e1]
    unfold dateB
    have e2 : (List.range 10).all (fun j => dpat j ((l ++ b :: z).getD j 0)) = false := by
      rw [List.all_eq_false]
      exact ⟨l.length, by simpa using h1, by rw [getD_mid, dpat_no _ _ h]; simp⟩
    rw [e2, Bool.and_false]
  · exact dateB_long l _ h1

theorem cls_end (l z : List UInt8) (b : UInt8) (h : clsB b = 1 ∨ clsB b = 2) (k : Int) (h0 : k ≠ 0) (h1 : k ≠ 1) (h2 : k ≠ 2) (j : Nat) (hj : j ≤ l.length) : clsB ((l ++ b :: z).getD j 0) = k ↔ clsB (l.getD j 0) = k := by
  rcases Nat.lt_or_ge j l.length with h3 | h3
  · rw [getD_left _ _ _ h3]
  · have e : j = l.length := by omega
    subst e
    rw [getD_mid, getD_ge (Nat.le_refl _), clsB_zero]
    omega

theorem digB_end (l z : List UInt8) (b : UInt8) (h : clsB b = 1 ∨ clsB b = 2) (j : Nat) (hj : j ≤ l.length) : digB ((l ++ b :: z).getD j 0) = true ↔ digB (l.getD j 0) = true := by
  rw [digB_cls, digB_cls]
  exact cls_end l z b h 5 (by decide) (by decide) (by decide) j hj

theorem wordB_end (l z : List UInt8) (b : UInt8) (h : clsB b = 1 ∨ clsB b = 2) (j : Nat) (hj : j ≤ l.length) : wordB ((l ++ b :: z).getD j 0) = true ↔ wordB (l.getD j 0) = true := by
  have e := fun k h0 h1 h2 => cls_end l z b h k h0 h1 h2 j hj
  simp only [wordB, decide_eq_true_eq]
  rw [e 3 (by decide) (by decide) (by decide), e 4 (by decide) (by decide) (by decide), e 5 (by decide) (by decide) (by decide), e 6 (by decide) (by decide) (by decide)]

theorem fin_app (kind n : Nat) (l z : List UInt8) (b : UInt8) (h : clsB b = 1 ∨ clsB b = 2) (hn : n ≤ l.length) : fin kind n (l ++ b :: z) = fin kind n l := by
  unfold fin
  have := wordB_end l z b h n hn
  by_cases h1 : wordB (l.getD n 0) = true
  · rw [if_pos h1, if_pos (this.2 h1)]
  · rw [if_neg h1, if_neg (fun h => h1 (this.1 h))]

theorem blank_no {b : UInt8} (h : clsB b = 1 ∨ clsB b = 2) : digB b = false ∧ nameB b = false ∧ wordB b = false := by
  refine ⟨?_, decide_eq_false (by omega), decide_eq_false (by omega)⟩
  cases hx : digB b with
  | false => rfl
  | true => have := digB_cls.1 hx; omega

theorem numLen_app (l z : List UInt8) (b : UInt8) (h : clsB b = 1 ∨ clsB b = 2) : numLen (l ++ b :: z) = numLen l := by
  have hs := span_app digB l z b (blank_no h).1
  have hl := span_le digB l
  unfold numLen
  rw [hs]
  by_cases h9 : clsB (l.getD (span digB l) 0) = 9
  · have hlt : span digB l < l.length := by
      rcases Nat.lt_or_ge (span digB l) l.length with h5 | h5
      · exact h5
      · rw [getD_ge h5, clsB_zero] at h9; simp at h9
    have h9' := (cls_end l z b h 9 (by decide) (by decide) (by decide) (span digB l) hl).2 h9
    have hd := digB_end l z b h (span digB l + 1) (by omega)
    by_cases h5 : digB (l.getD (span digB l + 1) 0) = true
    · rw [if_pos ⟨h9', hd.2 h5⟩, if_pos ⟨h9, h5⟩, List.drop_append_of_le_length (by omega), span_app _ _ _ _ (blank_no h).1]
    · rw [if_neg (fun h => h5 (hd.1 h.2)), if_neg (fun h => h5 h.2)]
  · rw [if_neg (fun h' => h9 ((cls_end l z b h 9 (by decide) (by decide) (by decide) (span digB l) hl).1 h'.1)), if_neg (fun h => h9 h.1)]

theorem markB_end (a b : UInt8) (h : clsB b = 1 ∨ clsB b = 2) : markB [a, b] = false := by
  cases hm : markB [a, b] with
  | false => rfl
  | true =>
    simp only [markB, marksL, decide_eq_true_eq, List.mem_cons, List.cons.injEq, and_true, List.not_mem_nil, or_false] at hm
    exfalso
    rcases hm with h1 | h1 | h1 | h1 | h1 | h1 | h1 | h1 | h1 | h1 | h1 | h1 | h1 | h1 | h1 | h1 | h1 | h1 | h1 | h1 | h1
    all_goals first | (obtain ⟨rfl, rfl⟩ := h1; revert h; decide) | (simp at h1)

/-- A blank behind changes nothing at a token; a line's end nothing at all. -/
theorem one_app (l z : List UInt8) (b : UInt8) (h0 : l ≠ []) (h : clsB b = 1 ∨ clsB b = 2) (ho : clsB b = 1 ∨ (one l).2.2.1 = 0 ∨ clsB (l.getD 0 0) ≠ 7) : one (l ++ b :: z) = one l := by
  have hg : (l ++ b :: z).getD 0 0 = l.getD 0 0 := getD_left _ _ _ (List.length_pos_iff.2 h0)
  have hlp : 1 ≤ l.length := List.length_pos_iff.2 h0
  have hn := blank_no h
  unfold one at ho ⊢
  rw [dateB_app l z b h, hg, numLen_app l z b h, span_app nameB l z b hn.2.1, span_app wordB l z b hn.2.2]
  by_cases hd : dateB l = true
  · rw [if_pos hd, if_pos hd]
    exact fin_app _ _ _ _ _ h (dateB_len hd)
  · rw [if_neg hd] at ho ⊢
    rw [if_neg hd]
    by_cases h5 : clsB (l.getD 0 0) = 5
    · rw [if_pos h5, if_pos h5]
      exact fin_app _ _ _ _ _ h (numLen_bd h0 (digB_cls.2 h5)).2
    · rw [if_neg h5] at ho ⊢
      rw [if_neg h5]
      by_cases h3 : clsB (l.getD 0 0) = 3
      · rw [if_pos h3, if_pos h3]
        exact fin_app _ _ _ _ _ h (span_le _ _)
      · rw [if_neg h3] at ho ⊢
        rw [if_neg h3]
        by_cases h4 : clsB (l.getD 0 0) = 4
        · rw [if_pos h4, if_pos h4]
          exact fin_app _ _ _ _ _ h (span_le _ _)
        · rw [if_neg h4] at ho ⊢
          rw [if_neg h4]
          by_cases h7 : clsB (l.getD 0 0) = 7
          · rw [if_pos h7] at ho ⊢
            rw [if_pos h7]
            have hsl := span_le inQ (l.drop 1)
            simp only [List.length_drop] at hsl
            have hs : span inQ ((l ++ b :: z).drop 1) = span inQ (l.drop 1) := by
              rw [List.drop_append_of_le_length hlp]
              rcases ho with ho | ho | ho
              · exact span_app _ _ _ _ (decide_eq_false (by omega))
              · refine span_app2 _ _ _ ?_
                by_cases hq : clsB (l.getD (span inQ (l.drop 1) + 1) 0) = 7
                · rcases Nat.lt_or_ge (span inQ (l.drop 1) + 1) l.length with h6 | h6
                  · rw [List.length_drop]; omega
                  · rw [getD_ge h6, clsB_zero] at hq; simp at hq
                · rw [if_neg hq] at ho; simp at ho
              · exact absurd h7 ho
            rw [hs]
            have hc := cls_end l z b h 7 (by decide) (by decide) (by decide) (span inQ (l.drop 1) + 1) (by omega)
            by_cases hq : clsB (l.getD (span inQ (l.drop 1) + 1) 0) = 7
            · rw [if_pos hq, if_pos (hc.2 hq)]
            · rw [if_neg hq, if_neg (fun h => hq (hc.1 h))]
          · rw [if_neg h7, if_neg h7]
            cases l with
            | nil => exact absurd rfl h0
            | cons a r =>
              cases r with
              | nil =>
                have e1 : ([a] ++ b :: z).take 2 = [a, b] := rfl
                have e2 : ([a] ++ b :: z).take 1 = [a].take 1 := rfl
                rw [e1, e2, markB_end a b h]
                simp
              | cons a' r =>
                have e1 : ((a :: a' :: r) ++ b :: z).take 2 = (a :: a' :: r).take 2 := rfl
                have e2 : ((a :: a' :: r) ++ b :: z).take 1 = (a :: a' :: r).take 1 := rfl
                rw [e1, e2]
                simp

theorem noEnd_ten : noEnd 10 = false := by decide
theorem cls_ten : clsB 10 = 1 := by decide

/-- A text, a line's end, another text. -/
theorem W_together (y : List UInt8) : ∀ (n : Nat) (l : List UInt8), l.length ≤ n → ∀ (i : Nat) (tk : List Tok) (rm : List (List UInt8)),
    ((W l i tk rm).err ≠ 0 ∧ (W l i tk rm).tk = [] ∧ (W l i tk rm).rm = [] ∧ W (l ++ 10 :: y) i tk rm = W l i tk rm) ∨ ∃ tk' rm', W l i tk rm = ⟨tk', rm', 0, i + l.length⟩ ∧ W (l ++ 10 :: y) i tk rm = W y (i + l.length + 1) tk' rm' := by
  intro n
  induction n with
  | zero =>
    intro l hl i tk rm
    have : l = [] := List.eq_nil_of_length_eq_zero (by omega)
    subst this
    exact .inr ⟨tk, rm, rfl, W_blank _ _ _ _ _ (by decide)⟩
  | succ n ih =>
    intro l hl i tk rm
    cases l with
    | nil => exact .inr ⟨tk, rm, rfl, W_blank _ _ _ _ _ (by decide)⟩
    | cons c r =>
      simp only [List.length_cons] at hl
      by_cases hb : blankB c = true
      · rw [List.cons_append, W_blank _ _ _ _ _ hb, W_blank _ _ _ _ _ hb]
        have e : i + (c :: r).length = i + 1 + r.length := by simp; omega
        rw [e]
        exact ih r (by omega) (i + 1) tk rm
      · have hb' : blankB c = false := by simpa using hb
        by_cases h8 : clsB c = 8
        · have hs := span_app noEnd r y 10 noEnd_ten
          have hsl := span_le noEnd r
          rw [List.cons_append, W_remark _ _ _ _ _ h8, W_remark _ _ _ _ _ h8, hs, List.drop_append_of_le_length hsl, List.take_append_of_le_length hsl]
          have := ih (r.drop (span noEnd r)) (by simp; omega) (i + 1 + span noEnd r) tk (rm ++ [r.take (span noEnd r)])
          have e : i + (c :: r).length = i + 1 + span noEnd r + (r.drop (span noEnd r)).length := by simp; omega
          rw [e]
          exact this
        · have ho : one (c :: (r ++ 10 :: y)) = one (c :: r) := one_app (c :: r) y 10 (by simp) (.inl cls_ten) (.inl cls_ten)
          by_cases he : (one (c :: r)).2.2.1 = 0
          · have hol := one_len (l := c :: r) (by simp) he
            have eA := W_tok c (r ++ 10 :: y) i tk rm hb' h8 (by rw [ho]; exact he)
            have eB := W_tok c r i tk rm hb' h8 he
            rw [List.cons_append, eA, eB, ho, ← List.cons_append, List.drop_append_of_le_length hol.2]
            have et : tokOf (one (c :: r)).1 (one (c :: r)).2.1 ((c :: r) ++ 10 :: y) i = tokOf (one (c :: r)).1 (one (c :: r)).2.1 (c :: r) i := by
              unfold tokOf
              rw [List.take_append_of_le_length (by omega), List.take_append_of_le_length hol.2]
            rw [et]
            have := ih ((c :: r).drop (one (c :: r)).2.1) (by simp only [List.length_drop, List.length_cons]; omega) (i + (one (c :: r)).2.1) (tk ++ [tokOf (one (c :: r)).1 (one (c :: r)).2.1 (c :: r) i]) rm
            have e : i + (c :: r).length = i + (one (c :: r)).2.1 + ((c :: r).drop (one (c :: r)).2.1).length := by simp only [List.length_drop]; omega
            rw [e]
            exact this
          · have eA := W_err c (r ++ 10 :: y) i tk rm hb' h8 (by rw [ho]; exact he)
            have eB := W_err c r i tk rm hb' h8 he
            rw [List.cons_append, eA, eB, ho]
            exact .inl ⟨he, rfl, rfl, rfl⟩

/-- What Tokens and Remarks answer of a text that is not too long. -/
def lexR (s : List UInt8) : Res := W s 0 [] []

theorem lexR_cases (s : List UInt8) : ((lexR s).err ≠ 0 ∧ (lexR s).tk = [] ∧ (lexR s).rm = [] ∧ W (s ++ [10]) 0 [] [] = lexR s) ∨ ((lexR s).err = 0 ∧ (lexR s).place = s.length ∧ W (s ++ [10]) 0 [] [] = ⟨(lexR s).tk, (lexR s).rm, 0, s.length + 1⟩) := by
  rcases W_together [] s.length s (Nat.le_refl _) 0 [] [] with h | ⟨tk, rm, h1, h2⟩
  · exact .inl h
  · right
    have e : lexR s = ⟨tk, rm, 0, s.length⟩ := by unfold lexR; rw [h1]; simp
    rw [e]
    exact ⟨rfl, rfl, by rw [h2, W_nil]; simp⟩

/-- The scanner's step. -/
def stepS (L : List UInt8) (S : St) (i : Nat) (c : Int) : St :=
  if S.fn = 37 then betweenS L S i c
  else if S.fn = 63 then nameS L S i c
  else if S.fn = 64 then varS L S i c
  else if S.fn = 65 then numberS L S i c
  else if S.fn = 74 then fractionS L S i c
  else if S.fn = 67 then dateS L S i c
  else if S.fn = 68 then quoteS L S i c
  else if S.fn = 69 then remarkS L S i c
  else markS L S i c

theorem step_good {L : List UInt8} {R : Res} {S : St} {i w : Nat} {c : Int} (hr : Rune L i c w) (h : Inv L R S i) : Good L R (stepS L S i c) (i + w) := by
  obtain ⟨he, hil, ⟨hf, ht, hm, hW⟩ | ⟨hlt, ht, hm, hW, hk⟩⟩ := h
  · unfold stepS; rw [if_pos hf]; exact between_step hr he hf ht hm hW
  · rcases hk with ⟨hf, h1, h2⟩ | ⟨hf, h1, h2⟩ | ⟨hf, h1, h2⟩ | ⟨hf, h1, p, h2, h3, h4, h5, h6, h7⟩ | ⟨hf, h1, h2⟩ | ⟨hf, h1, h2⟩ | ⟨hf, h1, h2⟩ | ⟨hf, h1, h2⟩
    all_goals simp only [stepS, hf]
    · exact name_step hr he hlt ht hm hW hf h1 h2
    · exact var_step hr he hlt ht hm hW hf h1 h2
    · exact number_step hr he hlt ht hm hW hf h1 h2
    · exact fraction_step hr he hlt ht hm hW hf h1 p h2 h3 h4 h5 h6 h7
    · exact date_step hr he hlt ht hm hW hf h1 h2
    · exact quote_step hr he hlt ht hm hW hf h1 h2
    · exact remark_step hr he hlt ht hm hW hf h1 h2
    · exact mark_step hr he ht hm hW h1 h2

/-- At the end the scanner stands between tokens. -/
theorem inv_end {s : List UInt8} {R : Res} {S : St} {i : Nat} (h : Inv (s ++ [10]) R S i) (hi : i = s.length + 1) : R = ⟨S.tk, S.rm, 0, s.length + 1⟩ := by
  obtain ⟨he, hil, ⟨hf, ht, hm, hW⟩ | ⟨hlt, ht, hm, hW, hk⟩⟩ := h
  · rw [← hW, hi]
    have e : (s ++ [10]).drop (s.length + 1) = [] := List.drop_eq_nil_of_le (by simp)
    rw [e, W_nil]
  · exfalso
    have hten : (s ++ [10]).getD s.length 0 = 10 := getD_mid s [] 10
    have hfr : S.frm ≤ s.length := by omega
    rcases hk with ⟨hf, h1, h2⟩ | ⟨hf, h1, h2⟩ | ⟨hf, h1, h2⟩ | ⟨hf, h1, p, h2, h3, h4, h5, h6, h7⟩ | ⟨hf, h1, h2⟩ | ⟨hf, h1, h2⟩ | ⟨hf, h1, h2⟩ | ⟨hf, h1, h2⟩
    · have := h2 s.length hfr (by omega); rw [hten] at this; revert this; decide
    · have := h2 s.length hfr (by omega); rw [hten] at this; revert this; decide
    · have := h2 s.length hfr (by omega); rw [hten] at this; revert this; decide
    · by_cases hp : p = s.length
      · subst hp; rw [hten] at h5; revert h5; decide
      · have := h7 s.length (by omega) (by omega); rw [hten] at this; revert this; decide
    · have hl := dateB_len h1
      simp only [List.length_drop, List.length_append, List.length_cons, List.length_nil] at hl
      have := (dateB_at h1 9 (by omega)).2
      rw [getD_drop] at this
      have e : S.frm + 9 = s.length := by omega
      rw [e, hten] at this
      exact this cls_ten
    · by_cases hp : S.frm = s.length
      · rw [hp, hten] at h1; revert h1; decide
      · have := h2 s.length (by omega) (by omega); rw [hten] at this; revert this; decide
    · by_cases hp : S.frm = s.length
      · rw [hp, hten] at h1; revert h1; decide
      · have := h2 s.length (by omega) (by omega); rw [hten] at this; revert this; decide
    · have e : S.frm = s.length := by omega
      rw [e, hten] at h1; revert h1; decide
end Go.Proofs.Ytlllgndbcagkgab
