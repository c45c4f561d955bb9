/- A text is its tokens and remarks: the cut, as a relation. -/
import Derived.Test.YtlllgndbcagkgaaTogether
namespace Go.Proofs.Ytlllgndbcagkgaa

/-- How a text is cut. -/
inductive Cut : List UInt8 → Nat → List Tok → List (List UInt8) → Prop
  | nil (i : Nat) : Cut [] i [] []
  | blank {c : UInt8} {r : List UInt8} {i : Nat} {ts : List Tok} {rs : List (List UInt8)} : blankB c = true → Cut r (i + 1) ts rs → Cut (c :: r) i ts rs
  | remark {c : UInt8} {r : List UInt8} {i : Nat} {ts : List Tok} {rs : List (List UInt8)} : clsB c = 8 → Cut (r.drop (span noEnd r)) (i + 1 + span noEnd r) ts rs → Cut (c :: r) i ts (r.take (span noEnd r) :: rs)
  | tok {c : UInt8} {r : List UInt8} {i : Nat} {ts : List Tok} {rs : List (List UInt8)} : blankB c = false → clsB c ≠ 8 → (one (c :: r)).2.2.1 = 0 → Cut ((c :: r).drop (one (c :: r)).2.1) (i + (one (c :: r)).2.1) ts rs →
      Cut (c :: r) i (tokOf (one (c :: r)).1 (one (c :: r)).2.1 (c :: r) i :: ts) rs

theorem cut_of_W : ∀ (n : Nat) (l : List UInt8), l.length ≤ n → ∀ (i : Nat) (tk : List Tok) (rm : List (List UInt8)), (W l i tk rm).err = 0 → ∃ ts rs, (W l i tk rm).tk = tk ++ ts ∧ (W l i tk rm).rm = rm ++ rs ∧ Cut l i ts rs := by
  intro n
  induction n with
  | zero =>
    intro l hl i tk rm _
    have : l = [] := List.eq_nil_of_length_eq_zero (by omega)
    subst this
    exact ⟨[], [], by simp [W_nil], by simp [W_nil], .nil i⟩
  | succ n ih =>
    intro l hl i tk rm h
    cases l with
    | nil => exact ⟨[], [], by simp [W_nil], by simp [W_nil], .nil i⟩
    | cons c r =>
      simp only [List.length_cons] at hl
      by_cases hb : blankB c = true
      · rw [W_blank _ _ _ _ _ hb] at h ⊢
        obtain ⟨ts, rs, h1, h2, h3⟩ := ih r (by omega) _ _ _ h
        exact ⟨ts, rs, h1, h2, .blank hb h3⟩
      · have hb' : blankB c = false := by simpa using hb
        by_cases h8 : clsB c = 8
        · rw [W_remark _ _ _ _ _ h8] at h ⊢
          obtain ⟨ts, rs, h1, h2, h3⟩ := ih _ (by simp; omega) _ _ _ h
          exact ⟨ts, _ :: rs, h1, by rw [h2]; simp, .remark h8 h3⟩
        · by_cases he : (one (c :: r)).2.2.1 = 0
          · have hol := one_len (l := c :: r) (by simp) he
            have eB := W_tok c r i tk rm hb' h8 he
            rw [eB] at h ⊢
            obtain ⟨ts, rs, h1, h2, h3⟩ := ih _ (by simp only [List.length_drop, List.length_cons]; omega) _ _ _ h
            exact ⟨_ :: ts, rs, by rw [h1]; simp, h2, .tok hb' h8 he h3⟩
          · rw [W_err c r i tk rm hb' h8 he] at h
            exact absurd h he

theorem W_of_cut {l : List UInt8} {i : Nat} {ts : List Tok} {rs : List (List UInt8)} (h : Cut l i ts rs) : ∀ (tk : List Tok) (rm : List (List UInt8)), W l i tk rm = ⟨tk ++ ts, rm ++ rs, 0, i + l.length⟩ := by
  induction h with
  | nil i => intro tk rm; simp [W_nil]
  | blank hb _ ih =>
    intro tk rm
    rw [W_blank _ _ _ _ _ hb, ih]
    simp only [List.length_cons, Res.mk.injEq, true_and]; omega
  | @remark c r i ts rs h8 _ ih =>
    intro tk rm
    rw [W_remark _ _ _ _ _ h8, ih]
    have := span_le noEnd r
    simp only [List.append_assoc, List.cons_append, List.nil_append, List.length_drop, List.length_cons, Res.mk.injEq, true_and]; omega
  | @tok c r i ts rs hb h8 he _ ih =>
    intro tk rm
    have hol := one_len (l := c :: r) (by simp) he
    rw [W_tok c r i tk rm hb h8 he, ih]
    simp only [List.append_assoc, List.cons_append, List.nil_append, Res.mk.injEq, true_and]
    simp only [List.length_drop]
    omega

/-- A token as it stands. -/
def writtenF (kd : Int) (tx : List UInt8) : List UInt8 := if kd = 5 then 34 :: (tx ++ [34]) else tx

theorem one_kind5 {l : List UInt8} (h : (one l).2.2.1 = 0) : ((one l).1 = 5 ↔ clsB (l.getD 0 0) = 7) ∧ ((one l).1 = 5 → (one l).2.1 = span inQ (l.drop 1) + 2 ∧ clsB (l.getD (span inQ (l.drop 1) + 1) 0) = 7) := by
  unfold one at h ⊢
  by_cases hd : dateB l = true
  · rw [if_pos hd] at h ⊢
    rw [fin_ok h]
    have := dateB_first hd
    simp only [this]; simp
  · rw [if_neg hd] at h ⊢
    by_cases c5 : clsB (l.getD 0 0) = 5
    · rw [if_pos c5] at h ⊢; rw [fin_ok h, c5]; simp
    · rw [if_neg c5] at h ⊢
      by_cases c3 : clsB (l.getD 0 0) = 3
      · rw [if_pos c3] at h ⊢; rw [fin_ok h, c3]; simp
      · rw [if_neg c3] at h ⊢
        by_cases c4 : clsB (l.getD 0 0) = 4
        · rw [if_pos c4] at h ⊢; rw [fin_ok h, c4]; simp
        · rw [if_neg c4] at h ⊢
          by_cases c7 : clsB (l.getD 0 0) = 7
          · rw [if_pos c7] at h ⊢
            by_cases hq : clsB (l.getD (span inQ (l.drop 1) + 1) 0) = 7
            · rw [if_pos hq, c7]; exact ⟨by simp, fun _ => ⟨rfl, hq⟩⟩
            · rw [if_neg hq] at h; simp at h
          · rw [if_neg c7] at h ⊢
            by_cases h2 : 2 ≤ l.length ∧ markB (l.take 2) = true
            · rw [if_pos h2]; exact ⟨⟨fun h => absurd h (by simp), fun h => absurd h c7⟩, fun h => absurd h (by simp)⟩
            · rw [if_neg h2] at h ⊢
              by_cases h1 : markB (l.take 1) = true
              · rw [if_pos h1]; exact ⟨⟨fun h => absurd h (by simp), fun h => absurd h c7⟩, fun h => absurd h (by simp)⟩
              · rw [if_neg h1] at h; simp at h

theorem cls7 {c : UInt8} (h : clsB c = 7) : c = 34 := by
  have h1 : ∀ x, x = cls (c.toNat : Int) → x = 7 → (c.toNat : Int) = 34 := by
    intro x hx h7
    unfold cls at hx
    repeat' split at hx
    all_goals omega
  have := h1 _ rfl h
  exact UInt8.toNat_inj.1 (by show c.toNat = 34; omega)

/-- A token's text stands there. -/
theorem written_tok {l : List UInt8} (h0 : l ≠ []) (h : (one l).2.2.1 = 0) (i : Nat) : writtenF ((tokOf (one l).1 (one l).2.1 l i).kind : Int) (tokOf (one l).1 (one l).2.1 l i).text = l.take (one l).2.1 := by
  have hl := one_len h0 h
  have h5 := one_kind5 h
  unfold writtenF tokOf
  simp only
  by_cases e : (one l).1 = 5
  · have h7 := cls7 (h5.1.1 e)
    obtain ⟨hn, hq⟩ := h5.2 e
    have hq7 := cls7 hq
    rw [if_pos (by omega), if_pos e]
    have hn2 : (one l).2.1 - 1 = span inQ (l.drop 1) + 1 := by omega
    cases l with
    | nil => exact absurd rfl h0
    | cons c r =>
      simp only [List.getD_cons_zero] at h7
      subst h7
      rw [hn2, hn]
      simp only [List.take_succ_cons, List.drop_succ_cons, List.drop_zero] at hq7 ⊢
      congr 1
      simp only [List.getD_cons_succ] at hq7
      have hlt : span inQ r < r.length := by simp only [List.length_cons, List.drop_succ_cons, List.drop_zero] at hl hn; omega
      rw [List.take_succ_eq_append_getElem hlt]
      congr 1
      rw [List.getD_eq_getElem?_getD, List.getElem?_eq_getElem hlt] at hq7
      simpa using hq7.symm
  · rw [if_neg (by omega), if_neg e]

/-- Where a cut's only token is as long as the text, it is the text. -/
theorem cut_whole : ∀ {l : List UInt8} {i : Nat} {ts : List Tok} {rs : List (List UInt8)}, Cut l i ts rs → ∀ t, ts = [t] → (writtenF (t.kind : Int) t.text).length ≥ l.length → l ≠ [] ∧ t.place = i ∧ blankB (l.getD 0 0) = false ∧ clsB (l.getD 0 0) ≠ 8 ∧ (one l).2.2.1 = 0 ∧ t = tokOf (one l).1 (one l).2.1 l i ∧ (one l).2.1 = l.length := by
  have main : ∀ {l : List UInt8} {i : Nat} {ts : List Tok} {rs : List (List UInt8)}, Cut l i ts rs → ∀ t ∈ ts, (writtenF (t.kind : Int) t.text).length ≤ l.length := by
    intro l i ts rs h
    induction h with
    | nil i => intro t ht; simp at ht
    | blank _ _ ih => intro t ht; have := ih t ht; simp; omega
    | remark _ _ ih => intro t ht; have := ih t ht; simp at this ⊢; omega
    | @tok c r i ts rs hb h8 he _ ih =>
      intro t ht
      have hol := one_len (l := c :: r) (by simp) he
      rcases List.mem_cons.1 ht with e | e
      · rw [e, written_tok (by simp) he]; simp only [List.length_take]; omega
      · have := ih t e; simp only [List.length_drop] at this; omega
  intro l i ts rs h
  cases h with
  | nil i => intro t ht; simp at ht
  | blank hb hc =>
    intro t ht hlen
    have := main hc t (by rw [ht]; simp)
    simp at hlen; omega
  | remark h8 hc =>
    intro t ht hlen
    have := main hc t (by rw [ht]; simp)
    simp at hlen this; omega
  | @tok c r i ts rs hb h8 he hc =>
    intro t ht hlen
    have hol := one_len (l := c :: r) (by simp) he
    simp only [List.cons.injEq] at ht
    have e1 := ht.1
    refine ⟨by simp, ?_, by simpa using hb, by simpa using h8, he, e1.symm, ?_⟩
    · rw [← e1]; rfl
    · rw [← e1, written_tok (by simp) he] at hlen
      simp only [List.length_take] at hlen
      omega

/-- The last byte of a token that is no quote is no blank. -/
theorem one_last {l : List UInt8} (h0 : l ≠ []) (h : (one l).2.2.1 = 0) (hn : (one l).2.1 = l.length) (h5 : (one l).1 ≠ 5) (hf : blankB (l.getD 0 0) = false) : blankB (l.getD (l.length - 1) 0) = false := by
  cases hb : blankB (l.getD (l.length - 1) 0) with
  | false => rfl
  | true =>
    exfalso
    obtain ⟨l', b, rfl⟩ : ∃ l' b, l = l' ++ [b] := ⟨l.dropLast, l.getLast h0, (List.dropLast_concat_getLast h0).symm⟩
    have hbb : clsB b = 1 ∨ clsB b = 2 := by
      have e : (l' ++ [b]).length - 1 = l'.length := by simp
      rw [e, getD_mid] at hb
      exact of_decide_eq_true hb
    by_cases hl' : l' = []
    · subst hl'
      simp only [List.nil_append, List.getD_cons_zero] at hf
      have : blankB b = true := decide_eq_true hbb
      rw [this] at hf; simp at hf
    · have h7 : clsB (l'.getD 0 0) ≠ 7 := by
        intro h7
        have hg : (l' ++ [b]).getD 0 0 = l'.getD 0 0 := getD_left _ _ _ (List.length_pos_iff.2 hl')
        exact h5 ((one_kind5 h).1.2 (by rw [hg]; exact h7))
      have e := one_app l' [] b hl' hbb (.inr (.inr h7))
      rw [e] at h hn
      have := one_len hl' h
      simp at hn; omega
end Go.Proofs.Ytlllgndbcagkgaa
