/- A text is its tokens and remarks: the cut, as a relation. -/
import Derived.Test.YthnjmfkiohgkkaaGreatDoorLexAll
namespace Go.Proofs.YthnjmfkiohgkkaaGreatDoor

/-- How a text is cut. -/
inductive Cut : List UInt8 → Nat → List Tok → List (List UInt8) → Prop
  | nil (i : Nat) : Cut [] i [] []
  | blank {c : UInt8} {r : List UInt8} {i : Nat} {ts : List Tok} {rs : List (List UInt8)} : blankB c = true → Cut r (i + 1) ts rs → Cut (c :: r) i ts rs
  | remark {c : UInt8} {r : List UInt8} {i : Nat} {ts : List Tok} {rs : List (List UInt8)} : clsB c = 8 → Cut (r.drop (span noEnd r)) (i + 1 + span noEnd r) ts rs → Cut (c :: r) i ts (r.take (span noEnd r) :: rs)
  | tok {c : UInt8} {r : List UInt8} {i : Nat} {ts : List Tok} {rs : List (List UInt8)} : blankB c = false → clsB c ≠ 8 → (one (c :: r)).2.2.1 = 0 → Cut ((c :: r).drop (one (c :: r)).2.1) (i + (one (c :: r)).2.1) ts rs →
      Cut (c :: r) i (tokOf (one (c :: r)).1 (one (c :: r)).2.1 (c :: r) i :: ts) rs

theorem cut_of_W : ∀ (n : Nat) (l : List UInt8), l.length ≤ n → ∀ (i : Nat) (tk : List Tok) (rm : List (List UInt8)), (W l i tk rm).err = 0 → ∃ ts rs, (W l i tk rm).tk = tk ++ ts ∧ (W l i tk rm).rm = rm ++ rs ∧ Cut l i ts rs := by
  intro n
  induction n with
  | zero =>
    intro l hl i tk rm _
    have : l = [] := List.eq_nil_of_length_eq_zero (by omega)
    subst this
    exact ⟨[], [], by simp [W_nil], by simp [W_nil], .nil i⟩
  | succ n ih =>
    intro l hl i tk rm h
    cases l with
    | nil => exact ⟨[], [], by simp [W_nil], by simp [W_nil], .nil i⟩
    | cons c r =>
      simp only [List.length_cons] at hl
      by_cases hb : blankB c = true
      · rw [W_blank _ _ _ _ _ hb] at h ⊢
        obtain ⟨ts, rs, h1, h2, h3⟩ := ih r (by omega) _ _ _ h
        exact ⟨ts, rs, h1, h2, .blank hb h3⟩
      · have hb' : blankB c = false := by simpa using hb
        by_cases h8 : clsB c = 8
        · rw [W_remark _ _ _ _ _ h8] at h ⊢
          obtain ⟨ts, rs, h1, h2, h3⟩ := ih _ (by simp; omega) _ _ _ h
          exact ⟨ts, _ :: rs, h1, by rw [h2]; simp, .remark h8 h3⟩
        · by_cases he : (one (c :: r)).2.2.1 = 0
          · have hol := one_len (l := c :: r) (by simp) he
            have eB := W_tok c r i tk rm hb' h8 he
            rw [eB] at h ⊢
            obtain ⟨ts, rs, h1, h2, h3⟩ := ih _ (by simp only [List.length_drop, List.length_cons]; omega) _ _ _ h
            exact ⟨_ :: ts, rs, by rw [h1]; simp, h2, .tok hb' h8 he h3⟩
          · rw [W_err c r i tk rm hb' h8 he] at h
            exact absurd h he

theorem W_of_cut {l : List UInt8} {i : Nat} {ts : List Tok} {rs : List (List UInt8)} (h : Cut l i ts rs) : ∀ (tk : List Tok) (rm : List (List UInt8)), W l i tk rm = ⟨tk ++ ts, rm ++ rs, 0, i + l.length⟩ := by
  induction h with
  | nil i => intro tk rm; simp [W_nil]
  | blank hb _ ih =>
    intro tk rm
    rw [W_blank _ _ _ _ _ hb, ih]
    simp only [List.length_cons, Res.mk.injEq, true_and]; omega
  | @remark c r i ts rs h8 _ ih =>
    intro tk rm
    rw [W_remark _ _ _ _ _ h8, ih]
    have := span_le noEnd r
    simp only [List.append_assoc, List.cons_append, List.nil_append, List.length_drop, List.length_cons, Res.mk.injEq, true_and]; omega
  | @tok c r i ts rs hb h8 he _ ih =>
    intro tk rm
    have hol := one_len (l := c :: r) (by simp) he
    rw [W_tok c r i tk rm hb h8 he, ih]
    simp only [List.append_assoc, List.cons_append, List.nil_append, Res.mk.injEq, true_and]
    simp only [List.length_drop]
    omega

/-- A token as it stands. -/
def writtenF (kd : Int) (tx : List UInt8) : List UInt8 := if kd = 5 then 34 :: (tx ++ [34]) else tx

theorem one_kind5 {l : List UInt8} (h : (one l).2.2.1 = 0) : ((one l).1 = 5 ↔ clsB (l.getD 0 0) = 7) ∧ ((one l).1 = 5 → (one l).2.1 = span inQ (l.drop 1) + 2 ∧ clsB (l.getD (span inQ (l.drop 1) + 1) 0) = 7) := by
  unfold one at h ⊢
  by_cases hd : dateB l = true
  · rw [if_pos hd] at h ⊢
    rw [fin_ok h]
    have := dateB_first hd
    simp only [this]; simp
  · rw [if_neg hd] at h ⊢
    by_cases c5 : clsB (l.getD 0 0) = 5
    · rw [if_pos c5] at h ⊢; rw [fin_ok h, c5]; simp
    · rw [if_neg c5] at h ⊢
      by_cases c3 : clsB (l.getD 0 0) = 3
      · rw [if_pos c3] at h ⊢; rw [fin_ok h, c3]; simp
      · rw [if_neg c3] at h ⊢
        by_cases c4 : clsB (l.getD 0 0) = 4
        · rw [if_pos c4] at h ⊢; rw [fin_ok h, c4]; simp
        · rw [if_neg c4] at h ⊢
          by_cases c7 : clsB (l.getD 0 0) = 7
          · rw [if_pos c7] at h ⊢
            by_cases hq : clsB (l.getD (span inQ (l.drop 1) + 1) 0) = 7
            · rw [if_pos hq, c7]; exact ⟨by simp, fun _ => ⟨rfl, hq⟩⟩
            · rw [if_neg hq] at h; simp at h
          · rw [if_neg c7] at h ⊢
            by_cases h2 : 2 ≤ l.length ∧ markB (l.take 2) = true
            · rw [if_pos h2]; exact ⟨⟨fun h => absurd h (by simp), fun h => absurd h c7⟩, fun h => absurd h (by simp)⟩
            · rw [if_neg h2] at h ⊢
              by_cases h1 : markB (l.take 1) = true
              · rw [if_pos h1]; exact ⟨⟨fun h => absurd h (by simp), fun h => absurd h c7⟩, fun h => absurd h (by simp)⟩
              · rw [if_neg h1] at h; simp at h

theorem cls7 {c : UInt8} (h : clsB c = 7) : c = 34 := by
  have h1 : ∀ x, x = cls (c.toNat : Int) → x = 7 → (c.toNat : Int) = 34 := by
    intro x hx h7
    unfold cls at hx
    repeat' split at hx
    all_goals omega
  have := h1 _ rfl h
  exact UInt8.toNat_inj.1 (by show c.toNat = 34; omega)

/-- A token's text stands there. -/
theorem written_tok {l : List UInt8} (h0 : l ≠ []) (h : (one l).2.2.1 = 0) (i : Nat) : writtenF ((tokOf (one l).1 (one l).2.1 l i).kind : Int) (tokOf (one l).1 (one l).2.1 l i).text = l.take (one l).2.1 := by
  have hl := one_len h0 h
  have h5 := one_kind5 h
  unfold writtenF tokOf
  simp only
  by_cases e : (one l).1 = 5
  · have h7 := cls7 (h5.1.1 e)
    obtain ⟨hn, hq⟩ := h5.2 e
    have hq7 := cls7 hq
    rw [if_pos (by omega), if_pos e]
    have hn2 : (one l).2.1 - 1 = span inQ (l.drop 1) + 1 := by omega
    cases l with
    | nil => exact absurd rfl h0
    | cons c r =>
      simp only [List.getD_cons_zero] at h7
      subst h7
      rw [hn2, hn]
      simp only [List.take_succ_cons, List.drop_succ_cons, List.drop_zero] at hq7 ⊢
      congr 1
      simp only [List.getD_cons_succ] at hq7
      have hlt : span inQ r < r.length := by simp only [List.length_cons, List.drop_succ_cons, List.drop_zero] at hl hn; omega
      rw [List.take_succ_eq_append_getElem hlt]
      congr 1
      rw [List.getD_eq_getElem?_getD, List.getElem?_eq_getElem hlt] at hq7
      simpa using hq7.symm
  · rw [if_neg (by omega), if_neg e]

/-- Where a cut's only token is as long as the text, it is the text. -/
theorem cut_whole : ∀ {l : List UInt8} {i : Nat} {ts : List Tok} {rs : List (List UInt8)}, Cut l i ts rs → ∀ t, ts = [t] → (writtenF (t.kind : Int) t.text).length ≥ l.length → l ≠ [] ∧ t.place = i ∧ blankB (l.getD 0 0) = false ∧ clsB (l.getD 0 0) ≠ 8 ∧ (one l).2.2.1 = 0 ∧ t = tokOf (one l).1 (one l).2.1 l i ∧ (one l).2.1 = l.length := by
  have main : ∀ {l : List UInt8} {i : Nat} {ts : List Tok} {rs : List (List UInt8)}, Cut l i ts rs → ∀ t ∈ ts, (writtenF (t.kind : Int) t.text).length ≤ l.length := by
    intro l i ts rs h
    induction h with
    | nil i => intro t ht; simp at ht
    | blank _ _ ih => intro t ht; have := ih t ht; simp; omega
    | remark _ _ ih => intro t ht; have := ih t ht; simp at this ⊢; omega
    | @tok c r i ts rs hb h8 he _ ih =>
      intro t ht
      have hol := one_len (l := c :: r) (by simp) he
      rcases List.mem_cons.1 ht with e | e
      · rw [e, written_tok (by simp) he]; simp only [List.length_take]; omega
      · have := ih t e; simp only [List.length_drop] at this; omega
  intro l i ts rs h
  cases h with
  | nil i => intro t ht; simp at ht
  | blank hb hc =>
    intro t ht hlen
    have := main hc t (by rw [ht]; simp)
    simp at hlen; omega
  | remark h8 hc =>
    intro t ht hlen
    have := main hc t (by rw [ht]; simp)
    simp at hlen this; omega
  | @tok c r i ts rs hb h8 he hc =>
    intro t ht hlen
    have hol := one_len (l := c :: r) (by simp) he
    simp only [List.cons.injEq] at ht
    have e1 := ht.1
    refine ⟨by simp, ?_, by simpa using hb, by simpa using h8, he, e1.symm, ?_⟩
    · rw [← e1]; rfl
    · rw [← e1, written_tok (by simp) he] at hlen
      simp only [List.length_take] at hlen
      omega

/-- The last byte of a token that is no quote is no blank. -/
theorem one_last {l : List UInt8} (h0 : l ≠ []) (h : (one l).2.2.1 = 0) (hn : (one l).2.1 = l.length) (h5 : (one l).1 ≠ 5) (hf : blankB (l.getD 0 0) = false) : blankB (l.getD (l.length - 1) 0) = false := by
  cases hb : blankB (l.getD (l.length - 1) 0) with
  | false => rfl
  | true =>
    exfalso
    obtain ⟨l', b, rfl⟩ : ∃ l' b, l = l' ++ [b] := ⟨l.dropLast, l.getLast h0, (List.dropLast_concat_getLast h0).symm⟩
    have hbb : clsB b = 1 ∨ clsB b = 2 := by
      have e : (l' ++ [b]).length - 1 = l'.length := by simp
      rw [e, getD_mid] at hb
      exact of_decide_eq_true hb
    by_cases hl' : l' = []
    · subst hl'
      simp only [List.nil_append, List.getD_cons_zero] at hf
      have : blankB b = true := decide_eq_true hbb
      rw [this] at hf; simp at hf
    · have h7 : clsB (l'.getD 0 0) ≠ 7 := by
        intro h7
        have hg : (l' ++ [b]).getD 0 0 = l'.getD 0 0 := getD_left _ _ _ (List.length_pos_iff.2 hl')
        exact h5 ((one_kind5 h).1.2 (by rw [hg]; exact h7))
      have e := one_app l' [] b hl' hbb (.inr (.inr h7))
      rw [e] at h hn
      have := one_len hl' h
      simp at hn; omega
end Go.Proofs.YthnjmfkiohgkkaaGreatDoor

namespace Go.Proofs.YthnjmfkiohgkkaaGreatDoor

theorem span_take (p : UInt8 → Bool) (x z : List UInt8) (n : Nat) (h : span p (x ++ z) = n) (hn : n ≤ x.length) (hx : n < x.length → p (x.getD n 0) = false) : span p x = n := by
  refine span_eq p n x hn (fun j hj => ?_) hx
  have := span_in p (x ++ z) j (by omega)
  rwa [getD_left _ _ _ (by omega)] at this

/-- What a token's bytes alone are. -/
theorem one_alone (x z : List UInt8) (h : (one (x ++ z)).2.2.1 = 0) (hn : (one (x ++ z)).2.1 = x.length) (h0 : x ≠ []) : one x = one (x ++ z) := by
  have hlp : 0 < x.length := List.length_pos_iff.2 h0
  have hg : (x ++ z).getD 0 0 = x.getD 0 0 := getD_left _ _ _ hlp
  have hw0 : wordB (x.getD x.length 0) = false := by rw [getD_ge (Nat.le_refl _)]; decide
  have fin0 : ∀ kind n, fin kind n (x ++ z) = (kind, n, 0, 0) → n = x.length → fin kind n x = (kind, n, 0, 0) := by
    intro kind n hf hnx
    unfold fin at hf ⊢
    split at hf
    · simp at hf
    · next hc =>
      rw [if_neg hc]
      subst hnx
      rw [if_neg (by rw [hw0]; simp)]
  by_cases hd : dateB (x ++ z) = true
  · have ho : one (x ++ z) = fin 4 10 (x ++ z) := by unfold one; rw [if_pos hd]
    rw [ho] at h hn ⊢
    have hf := fin_ok h
    rw [hf] at hn ⊢
    have hx10 : x.length = 10 := by simpa using hn.symm
    have hdx : dateB x = true := by rw [← dateB_long x z (by omega)]; exact hd
    unfold one
    rw [if_pos hdx]
    exact fin0 4 10 hf hx10.symm
  · have hdx : ¬ dateB x = true := fun hx => hd (by rw [dateB_long x z (dateB_len hx)]; exact hx)
    by_cases c5 : clsB (x.getD 0 0) = 5
    · have ho : one (x ++ z) = fin 3 (numLen (x ++ z)) (x ++ z) := by unfold one; rw [if_neg hd, hg, if_pos c5]
      rw [ho] at h hn ⊢
      have hf := fin_ok h
      rw [hf] at hn ⊢
      simp only at hn
      have hnl : numLen x = x.length := by
        unfold numLen at hn
        by_cases hc : clsB ((x ++ z).getD (span digB (x ++ z)) 0) = 9 ∧ digB ((x ++ z).getD (span digB (x ++ z) + 1) 0) = true
        · rw [if_pos hc] at hn
          have hm := span_pos (p := digB) (l := (x ++ z).drop (span digB (x ++ z) + 1)) (by rw [getD_drop]; exact hc.2) (by
            intro e
            have := congrArg List.length e
            simp only [List.length_drop, List.length_nil] at this
            have h2 := hc.2
            rw [getD_ge (by omega)] at h2
            revert h2; decide)
          obtain ⟨P, hP⟩ : ∃ P, span digB (x ++ z) = P := ⟨_, rfl⟩
          rw [hP] at hn hc hm
          have hPl : P + 1 < x.length := by omega
          have g1 := getD_left x z P (by omega)
          have g2 := getD_left x z (P + 1) hPl
          rw [g1, g2] at hc
          have s1 : span digB x = P := span_take digB x z P hP (by omega) (fun _ => by
            cases hx : digB (x.getD P 0) with
            | false => rfl
            | true => have := digB_cls.1 hx; omega)
          rw [List.drop_append_of_le_length (by omega)] at hn
          have s2 : span digB (x.drop (P + 1)) = x.length - (P + 1) := span_take digB (x.drop (P + 1)) z _ (by omega) (by simp) (fun h => by simp at h)
          unfold numLen
          rw [s1, if_pos hc, s2]; omega
        · rw [if_neg hc] at hn
          have s1 : span digB x = x.length := span_take digB x z x.length hn (Nat.le_refl _) (fun h => by omega)
          unfold numLen
          rw [s1, if_neg]
          intro h
          rw [getD_ge (Nat.le_refl _), clsB_zero] at h
          simp at h
      unfold one
      rw [if_neg hdx, if_pos c5, hnl, hn]
      rw [hn] at hf
      exact fin0 3 _ hf rfl
    · by_cases c3 : clsB (x.getD 0 0) = 3
      · have ho : one (x ++ z) = fin 1 (span nameB (x ++ z)) (x ++ z) := by unfold one; rw [if_neg hd, hg, if_neg c5, if_pos c3]
        rw [ho] at h hn ⊢
        have hf := fin_ok h
        rw [hf] at hn ⊢
        simp only at hn
        have s1 : span nameB x = x.length := span_take nameB x z x.length hn (Nat.le_refl _) (fun h => by omega)
        unfold one
        rw [if_neg hdx, if_neg c5, if_pos c3, s1, hn]
        rw [hn] at hf
        exact fin0 1 _ hf rfl
      · by_cases c4 : clsB (x.getD 0 0) = 4
        · have ho : one (x ++ z) = fin 2 (span wordB (x ++ z)) (x ++ z) := by unfold one; rw [if_neg hd, hg, if_neg c5, if_neg c3, if_pos c4]
          rw [ho] at h hn ⊢
          have hf := fin_ok h
          rw [hf] at hn ⊢
          simp only at hn
          have s1 : span wordB x = x.length := span_take wordB x z x.length hn (Nat.le_refl _) (fun h => by omega)
          unfold one
          rw [if_neg hdx, if_neg c5, if_neg c3, if_pos c4, s1, hn]
          rw [hn] at hf
          exact fin0 2 _ hf rfl
        · by_cases c7 : clsB (x.getD 0 0) = 7
          · have ho : one (x ++ z) = if clsB ((x ++ z).getD (span inQ ((x ++ z).drop 1) + 1) 0) = 7 then (5, span inQ ((x ++ z).drop 1) + 2, 0, 0) else (0, 0, 42, 0) := by unfold one; rw [if_neg hd, hg, if_neg c5, if_neg c3, if_neg c4, if_pos c7]
            rw [ho] at h hn ⊢
            by_cases hq : clsB ((x ++ z).getD (span inQ ((x ++ z).drop 1) + 1) 0) = 7
            · rw [if_pos hq] at hn ⊢
              simp only at hn
              obtain ⟨K, hK⟩ : ∃ K, span inQ ((x ++ z).drop 1) = K := ⟨_, rfl⟩
              rw [hK] at hn hq ⊢
              rw [getD_left _ _ _ (by omega)] at hq
              rw [List.drop_append_of_le_length (by omega)] at hK
              have s1 : span inQ (x.drop 1) = K := span_take inQ (x.drop 1) z K hK (by simp; omega) (fun _ => by
                rw [getD_drop, Nat.add_comm]
                exact decide_eq_false (fun h => h.1 hq))
              unfold one
              rw [if_neg hdx, if_neg c5, if_neg c3, if_neg c4, if_pos c7, s1, if_pos hq]
            · rw [if_neg hq] at h; simp at h
          · have ho : one (x ++ z) = if 2 ≤ (x ++ z).length ∧ markB ((x ++ z).take 2) = true then (6, 2, 0, 0) else if markB ((x ++ z).take 1) = true then (6, 1, 0, 0) else (0, 0, 41, 0) := by unfold one; rw [if_neg hd, hg, if_neg c5, if_neg c3, if_neg c4, if_neg c7]
            rw [ho] at h hn ⊢
            have hx : one x = if 2 ≤ x.length ∧ markB (x.take 2) = true then (6, 2, 0, 0) else if markB (x.take 1) = true then (6, 1, 0, 0) else (0, 0, 41, 0) := by unfold one; rw [if_neg hdx, if_neg c5, if_neg c3, if_neg c4, if_neg c7]
            rw [hx]
            by_cases h2 : 2 ≤ (x ++ z).length ∧ markB ((x ++ z).take 2) = true
            · rw [if_pos h2] at hn ⊢
              simp only at hn
              rw [List.take_append_of_le_length (by omega)] at h2
              rw [if_pos ⟨by omega, h2.2⟩]
            · rw [if_neg h2] at h hn ⊢
              by_cases h1 : markB ((x ++ z).take 1) = true
              · rw [if_pos h1] at hn ⊢
                simp only at hn
                rw [List.take_append_of_le_length (by omega)] at h1
                rw [if_neg (fun h => by omega), if_pos h1]
              · rw [if_neg h1] at h; simp at h

/-- A text that is one token. -/
structure Whole (x : List UInt8) (kd : Nat) : Prop where
  ne : x ≠ []
  ok : (one x).2.2.1 = 0
  kind : (one x).1 = kd
  len : (one x).2.1 = x.length
  blank : blankB (x.getD 0 0) = false
  sharp : clsB (x.getD 0 0) ≠ 8

theorem whole_tok {c : UInt8} {r : List UInt8} (hb : blankB c = false) (h8 : clsB c ≠ 8) (he : (one (c :: r)).2.2.1 = 0) : Whole ((c :: r).take (one (c :: r)).2.1) (one (c :: r)).1 := by
  have hl := one_len (l := c :: r) (by simp) he
  obtain ⟨x, z, hx, hxl⟩ : ∃ x z, c :: r = x ++ z ∧ x.length = (one (c :: r)).2.1 := ⟨(c :: r).take (one (c :: r)).2.1, (c :: r).drop (one (c :: r)).2.1, (List.take_append_drop _ _).symm, by simp only [List.length_take]; omega⟩
  have ht : (c :: r).take (one (c :: r)).2.1 = x := by
    have e : (x ++ z).take x.length = x := List.take_left
    rw [← hxl, hx]; exact e
  have h0 : x ≠ [] := by intro e; subst e; simp at hxl; omega
  have hg : x.getD 0 0 = c := by
    have : (x ++ z).getD 0 0 = x.getD 0 0 := getD_left _ _ _ (List.length_pos_iff.2 h0)
    rw [← this, ← hx]; rfl
  have e := one_alone x z (by rw [← hx]; exact he) (by rw [← hx]; exact hxl.symm) h0
  rw [ht]
  refine ⟨h0, by rw [e, ← hx]; exact he, by rw [e, ← hx], by rw [e, ← hx, hxl], by rw [hg]; exact hb, by rw [hg]; exact h8⟩

/-- The token that a text is, at a place. -/
def tokW (x : List UInt8) (kd i : Nat) : Tok := tokOf kd x.length x i

theorem tok_eq {c : UInt8} {r : List UInt8} (he : (one (c :: r)).2.2.1 = 0) (i : Nat) : tokOf (one (c :: r)).1 (one (c :: r)).2.1 (c :: r) i = tokW ((c :: r).take (one (c :: r)).2.1) (one (c :: r)).1 i := by
  have hl := one_len (l := c :: r) (by simp) he
  unfold tokW tokOf
  have e : ((c :: r).take (one (c :: r)).2.1).length = (one (c :: r)).2.1 := by simp only [List.length_take]; omega
  rw [e]
  simp only [Tok.mk.injEq, true_and, and_true]
  split
  · rw [List.take_take]; congr 2; omega
  · rw [List.take_take]; congr 1; omega

theorem written_whole {x : List UInt8} {kd : Nat} (h : Whole x kd) (i : Nat) : writtenF ((tokW x kd i).kind : Int) (tokW x kd i).text = x := by
  have := written_tok h.ne h.ok i
  rw [h.kind, h.len] at this
  unfold tokW
  rw [this, List.take_length]

/-- The cut of a text that is one token. -/
theorem cut_one {x : List UInt8} {kd : Nat} (h : Whole x kd) (i : Nat) : Cut x i [tokW x kd i] [] := by
  cases hx : x with
  | nil => exact absurd hx h.ne
  | cons c r =>
    subst hx
    have := Cut.tok (c := c) (r := r) (i := i) (ts := []) (rs := []) (by simpa using h.blank) (by simpa using h.sharp) h.ok (by rw [h.len, List.drop_length]; exact .nil _)
    rw [h.kind, h.len] at this
    exact this

/-- A token, a blank, more. -/
theorem cut_more {x y : List UInt8} {kd i : Nat} {ts : List Tok} {rs : List (List UInt8)} (h : Whole x kd) (hc : Cut y (i + x.length + 1) ts rs) : Cut (x ++ 32 :: y) i (tokW x kd i :: ts) rs := by
  cases hx : x with
  | nil => exact absurd hx h.ne
  | cons c r =>
    subst hx
    have e := one_app (c :: r) y 32 (by simp) (.inr (by decide)) (.inr (.inl h.ok))
    have hb : Cut (((c :: r) ++ 32 :: y).drop (c :: r).length) (i + (c :: r).length) ts rs := by
      have e2 : ((c :: r) ++ 32 :: y).drop (c :: r).length = 32 :: y := List.drop_left
      rw [e2]
      exact .blank (by decide) hc
    have := Cut.tok (c := c) (r := r ++ 32 :: y) (i := i) (ts := ts) (rs := rs) (by simpa using h.blank) (by simpa using h.sharp) (by rw [← List.cons_append, e]; exact h.ok) (by rw [← List.cons_append, e, h.len]; exact hb)
    rw [← List.cons_append, e, h.kind, h.len] at this
    have et : tokOf kd (c :: r).length ((c :: r) ++ 32 :: y) i = tokW (c :: r) kd i := by
      unfold tokW tokOf
      rw [List.take_append_of_le_length (by omega), List.take_append_of_le_length (Nat.le_refl _)]
    rw [et] at this
    exact this
end Go.Proofs.YthnjmfkiohgkkaaGreatDoor

namespace Go.Proofs.YthnjmfkiohgkkaaGreatDoor

def ButAt (t t' : Tok) : Prop := t.kind = t'.kind ∧ t.text = t'.text
/-- A token and its bytes. -/
def Piece (t : Tok) (x : List UInt8) : Prop := Whole x t.kind ∧ t = tokW x t.kind t.place

/-- Tokens without their places. -/
def bare (ts : List Tok) : List (Nat × List UInt8) := ts.map fun t => (t.kind, t.text)

/-- What stands between. -/
def gapB (n : Nat) : List UInt8 :=
  if n = 0 then [32] else if n = 1 then [10, 9] else if n = 2 then [32, 35, 32, 97, 32, 114, 101, 109, 97, 114, 107, 46, 32, 107, 105, 110, 100, 10] else [32, 32, 13, 10]

theorem cut_gap (n : Nat) {y : List UInt8} {i : Nat} {ts : List Tok} {rs : List (List UInt8)} (h : Cut y (i + (gapB n).length) ts rs) : ∃ rs', Cut (gapB n ++ y) i ts rs' := by
  unfold gapB at h ⊢
  split
  · next h0 =>
    rw [if_pos h0] at h
    exact ⟨rs, .blank (by decide) h⟩
  next h0 =>
  rw [if_neg h0] at h
  split
  · next h1 =>
    rw [if_pos h1] at h
    exact ⟨rs, .blank (by decide) (.blank (by decide) h)⟩
  next h1 =>
  rw [if_neg h1] at h
  split
  · next h2 =>
    rw [if_pos h2] at h
    have e : span noEnd ([32, 97, 32, 114, 101, 109, 97, 114, 107, 46, 32, 107, 105, 110, 100] ++ 10 :: y) = 15 := by
      rw [span_app noEnd _ y 10 (by decide)]
      decide
    have hr : Cut (35 :: ([32, 97, 32, 114, 101, 109, 97, 114, 107, 46, 32, 107, 105, 110, 100] ++ 10 :: y)) (i + 1) ts (_ :: rs) := .remark (by decide) (by
      rw [e]
      exact .blank (by decide) h)
    exact ⟨_, .blank (by decide) hr⟩
  next h2 =>
  rw [if_neg h2] at h
  exact ⟨rs, .blank (by decide) (.blank (by decide) (.blank (by decide) (.blank (by decide) h)))⟩

theorem gap_head (n : Nat) : ∃ b r, gapB n = b :: r ∧ (clsB b = 1 ∨ clsB b = 2) := by
  unfold gapB
  split
  · exact ⟨_, _, rfl, by decide⟩
  split
  · exact ⟨_, _, rfl, by decide⟩
  split
  · exact ⟨_, _, rfl, by decide⟩
  · exact ⟨_, _, rfl, by decide⟩

/-- A token, a gap, more. -/
theorem cut_gapped (n : Nat) {x y : List UInt8} {kd i : Nat} {ts : List Tok} {rs : List (List UInt8)} (h : Whole x kd) (hc : Cut y (i + x.length + (gapB n).length) ts rs) :
    ∃ rs', Cut (x ++ (gapB n ++ y)) i (tokW x kd i :: ts) rs' := by
  obtain ⟨rs', hg⟩ := cut_gap n hc
  refine ⟨rs', ?_⟩
  obtain ⟨b, g, eg, hb⟩ := gap_head n
  rw [eg] at hg ⊢
  cases hx : x with
  | nil => exact absurd hx h.ne
  | cons c r =>
    subst hx
    show Cut ((c :: r) ++ b :: (g ++ y)) i _ rs'
    have e := one_app (c :: r) (g ++ y) b (by simp) hb (.inr (.inl h.ok))
    have hd : Cut (((c :: r) ++ b :: (g ++ y)).drop (c :: r).length) (i + (c :: r).length) ts rs' := by
      have e2 : ((c :: r) ++ b :: (g ++ y)).drop (c :: r).length = b :: (g ++ y) := List.drop_left
      rw [e2]
      exact hg
    have := Cut.tok (c := c) (r := r ++ b :: (g ++ y)) (i := i) (ts := ts) (rs := rs') (by simpa using h.blank) (by simpa using h.sharp) (by rw [← List.cons_append, e]; exact h.ok) (by rw [← List.cons_append, e, h.len]; exact hd)
    rw [← List.cons_append, e, h.kind, h.len] at this
    have et : tokOf kd (c :: r).length ((c :: r) ++ b :: (g ++ y)) i = tokW (c :: r) kd i := by
      unfold tokW tokOf
      rw [List.take_append_of_le_length (by omega), List.take_append_of_le_length (Nat.le_refl _)]
    rw [et] at this
    exact this

/-- Tokens as they are written, from the k-th on, each with its gap. -/
def spacedL (g : Nat → Nat) : Nat → List Tok → List UInt8
  | _, [] => []
  | k, t :: r => writtenF (t.kind : Int) t.text ++ (gapB (g k) ++ spacedL g (k + 1) r)

theorem tokW_bare {x : List UInt8} {kd i j : Nat} : (tokW x kd i).kind = (tokW x kd j).kind ∧ (tokW x kd i).text = (tokW x kd j).text := ⟨rfl, rfl⟩

theorem cut_pieces {l : List UInt8} {i : Nat} {ts : List Tok} {rs : List (List UInt8)} (h : Cut l i ts rs) : ∀ t, t ∈ ts → ∃ x, Piece t x := by
  induction h with
  | nil i => intro t ht; cases ht
  | blank _ _ ih => exact ih
  | remark _ _ ih => exact ih
  | @tok c r i ts rs hb h8 he _ ih =>
    intro t ht
    rcases List.mem_cons.1 ht with rfl | ht
    · exact ⟨_, whole_tok hb h8 he, tok_eq he i⟩
    · exact ih t ht

theorem spaced_cut (g : Nat → Nat) : ∀ (ts : List Tok) (k i : Nat), (∀ t, t ∈ ts → ∃ x, Piece t x) → ∃ ts' rs', Cut (spacedL g k ts) i ts' rs' ∧ bare ts' = bare ts
  | [], k, i, _ => ⟨[], [], .nil i, rfl⟩
  | t :: r, k, i, h => by
    obtain ⟨x, hw, ht⟩ := h t List.mem_cons_self
    have hx : writtenF (t.kind : Int) t.text = x := by
      have := written_whole hw t.place
      rw [← ht] at this
      exact this
    obtain ⟨ts', rs', h1, h2⟩ := spaced_cut g r (k + 1) (i + x.length + (gapB (g k)).length) fun t ht => h t (List.mem_cons_of_mem _ ht)
    obtain ⟨rs2, h3⟩ := cut_gapped (g k) hw h1
    refine ⟨tokW x t.kind i :: ts', rs2, ?_, ?_⟩
    · show Cut (writtenF (t.kind : Int) t.text ++ _) i _ rs2
      rw [hx]
      exact h3
    · show ((tokW x t.kind i).kind, (tokW x t.kind i).text) :: bare ts' = (t.kind, t.text) :: bare r
      rw [h2, (tokW_bare (i := i) (j := t.place)).1, (tokW_bare (i := i) (j := t.place)).2, ← ht]

/-- The tokens of a text that is told anew. -/
theorem W_spaced (g : Nat → Nat) {l : List UInt8} (he : (W l 0 [] []).err = 0) :
    (W (10 :: spacedL g 0 (W l 0 [] []).tk) 0 [] []).err = 0 ∧ bare (W (10 :: spacedL g 0 (W l 0 [] []).tk) 0 [] []).tk = bare (W l 0 [] []).tk := by
  obtain ⟨ts, rs, g1, g2, g3⟩ := cut_of_W _ _ (Nat.le_refl _) 0 [] [] he
  have e0 : (W l 0 [] []).tk = ts := by rw [g1]; rfl
  rw [e0]
  obtain ⟨ts', rs', h1, h2⟩ := spaced_cut g ts 0 1 (cut_pieces g3)
  have h3 : Cut (10 :: spacedL g 0 ts) 0 ts' rs' := .blank (by decide) h1
  rw [W_of_cut h3]
  exact ⟨rfl, h2⟩

theorem cut_shift {l : List UInt8} {i : Nat} {ts : List Tok} {rs : List (List UInt8)} (h : Cut l i ts rs) : ∀ j, ∃ ts', Cut l j ts' rs ∧ bare ts' = bare ts := by
  induction h with
  | nil i => intro j; exact ⟨[], .nil j, rfl⟩
  | blank hb _ ih => intro j; obtain ⟨ts', h1, h2⟩ := ih (j + 1); exact ⟨ts', .blank hb h1, h2⟩
  | @remark c r i ts rs h8 _ ih => intro j; obtain ⟨ts', h1, h2⟩ := ih (j + 1 + span noEnd r); exact ⟨ts', .remark h8 h1, h2⟩
  | @tok c r i ts rs hb h8 he _ ih =>
    intro j
    obtain ⟨ts', h1, h2⟩ := ih (j + (one (c :: r)).2.1)
    refine ⟨_, .tok hb h8 he h1, ?_⟩
    show _ :: bare ts' = _ :: bare ts
    rw [h2]
    rfl

/-- Two texts with a line's end between. -/
theorem W_two (a b : List UInt8) (ha : (W a 0 [] []).err = 0) (hb : (W b 0 [] []).err = 0) :
    (W (a ++ 10 :: b) 0 [] []).err = 0 ∧ bare (W (a ++ 10 :: b) 0 [] []).tk = bare (W a 0 [] []).tk ++ bare (W b 0 [] []).tk := by
  rcases W_together b a.length a (Nat.le_refl _) 0 [] [] with ⟨h1, h2, h3, h4⟩ | ⟨tk, rm, h1, h2⟩
  · exact absurd ha h1
  · obtain ⟨ts, rs, g1, g2, g3⟩ := cut_of_W _ _ (Nat.le_refl _) 0 [] [] hb
    obtain ⟨ts', g4, g5⟩ := cut_shift g3 (0 + a.length + 1)
    rw [h2, h1, W_of_cut g4 tk rm, g1]
    refine ⟨rfl, ?_⟩
    show bare (tk ++ ts') = bare tk ++ bare ts
    rw [← g5]
    unfold bare
    rw [List.map_append]
end Go.Proofs.YthnjmfkiohgkkaaGreatDoor
