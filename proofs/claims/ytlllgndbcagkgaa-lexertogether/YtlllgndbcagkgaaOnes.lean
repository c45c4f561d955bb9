/- A token alone; tokens joined; two texts. -/
import Derived.Test.YtlllgndbcagkgaaCut
namespace Go.Proofs.Ytlllgndbcagkgaa

theorem span_take (p : UInt8 → Bool) (x z : List UInt8) (n : Nat) (h : span p (x ++ z) = n) (hn : n ≤ x.length) (hx : n < x.length → p (x.getD n 0) = false) : span p x = n := by
  refine span_eq p n x hn (fun j hj => ?_) hx
  have := span_in p (x ++ z) j (by omega)
  rwa [getD_left _ _ _ (by omega)] at this

/-- What a token's bytes alone are. -/
theorem one_alone (x z : List UInt8) (h : (one (x ++ z)).2.2.1 = 0) (hn : (one (x ++ z)).2.1 = x.length) (h0 : x ≠ []) : one x = one (x ++ z) := by
  have hlp : 0 < x.length := List.length_pos_iff.2 h0
  have hg : (x ++ z).getD 0 0 = x.getD 0 0 := getD_left _ _ _ hlp
  have hw0 : wordB (x.getD x.length 0) = false := by rw [getD_ge (Nat.le_refl _)]; decide
  have fin0 : ∀ kind n, fin kind n (x ++ z) = (kind, n, 0, 0) → n = x.length → fin kind n x = (kind, n, 0, 0) := by
    intro kind n hf hnx
    unfold fin at hf ⊢
    split at hf
    · simp at hf
    · next hc =>
      rw [if_neg hc]
      subst hnx
      rw [if_neg (by rw [hw0]; simp)]
  by_cases hd : dateB (x ++ z) = true
  · have ho : one (x ++ z) = fin 4 10 (x ++ z) := by unfold one; rw [if_pos hd]
    rw [ho] at h hn ⊢
    have hf := fin_ok h
    rw [hf] at hn ⊢
    have hx10 : x.length = 10 := by simpa using hn.symm
    have hdx : dateB x = true := by rw [← dateB_long x z (by omega)]; exact hd
    unfold one
    rw [if_pos hdx]
    exact fin0 4 10 hf hx10.symm
  · have hdx : ¬ dateB x = true := fun hx => hd (by rw [dateB_long x z (dateB_len hx)]; exact hx)
    by_cases c5 : clsB (x.getD 0 0) = 5
    · have ho : one (x ++ z) = fin 3 (numLen (x ++ z)) (x ++ z) := by unfold one; rw [if_neg hd, hg, if_pos c5]
      rw [ho] at h hn ⊢
      have hf := fin_ok h
      rw [hf] at hn ⊢
      simp only at hn
      have hnl : numLen x = x.length := by
        unfold numLen at hn
        by_cases hc : clsB ((x ++ z).getD (span digB (x ++ z)) 0) = 9 ∧ digB ((x ++ z).getD (span digB (x ++ z) + 1) 0) = true
        · rw [if_pos hc] at hn
          have hm := span_pos (p := digB) (l := (x ++ z).drop (span digB (x ++ z) + 1)) (by rw [getD_drop]; exact hc.2) (by
            intro e
            have := congrArg List.length e
            simp only [List.length_drop, List.length_nil] at this
            have h2 := hc.2
            rw [getD_ge (by omega)] at h2
            revert h2; decide)
          obtain ⟨P, hP⟩ : ∃ P, span digB (x ++ z) = P := ⟨_, rfl⟩
          rw [hP] at hn hc hm
          have hPl : P + 1 < x.length := by omega
          have g1 := getD_left x z P (by omega)
          have g2 := getD_left x z (P + 1) hPl
          rw [g1, g2] at hc
          have s1 : span digB x = P := span_take digB x z P hP (by omega) (fun _ => by
            cases hx : digB (x.getD P 0) with
            | false => rfl
            | true => have := digB_cls.1 hx; omega)
          rw [List.drop_append_of_le_length (by omega)] at hn
          have s2 : span digB (x.drop (P + 1)) = x.length - (P + 1) := span_take digB (x.drop (P + 1)) z _ (by omega) (by simp) (fun h => by simp at h)
          unfold numLen
          rw [s1, if_pos hc, s2]; omega
        · rw [if_neg hc] at hn
          have s1 : span digB x = x.length := span_take digB x z x.length hn (Nat.le_refl _) (fun h => by omega)
          unfold numLen
          rw [s1, if_neg]
          intro h
          rw [getD_ge (Nat.le_refl _), clsB_zero] at h
          simp at h
      unfold one
      rw [if_neg hdx, if_pos c5, hnl, hn]
      rw [hn] at hf
      exact fin0 3 _ hf rfl
    · by_cases c3 : clsB (x.getD 0 0) = 3
      · have ho : one (x ++ z) = fin 1 (span nameB (x ++ z)) (x ++ z) := by unfold one; rw [if_neg hd, hg, if_neg c5, if_pos c3]
        rw [ho] at h hn ⊢
        have hf := fin_ok h
        rw [hf] at hn ⊢
        simp only at hn
        have s1 : span nameB x = x.length := span_take nameB x z x.length hn (Nat.le_refl _) (fun h => by omega)
        unfold one
        rw [if_neg hdx, if_neg c5, if_pos c3, s1, hn]
        rw [hn] at hf
        exact fin0 1 _ hf rfl
      · by_cases c4 : clsB (x.getD 0 0) = 4
        · have ho : one (x ++ z) = fin 2 (span wordB (x ++ z)) (x ++ z) := by unfold one; rw [if_neg hd, hg, if_neg c5, if_neg c3, if_pos c4]
          rw [ho] at h hn ⊢
          have hf := fin_ok h
          rw [hf] at hn ⊢
          simp only at hn
          have s1 : span wordB x = x.length := span_take wordB x z x.length hn (Nat.le_refl _) (fun h => by omega)
          unfold one
          rw [if_neg hdx, if_neg c5, if_neg c3, if_pos c4, s1, hn]
          rw [hn] at hf
          exact fin0 2 _ hf rfl
        · by_cases c7 : clsB (x.getD 0 0) = 7
          · have ho : one (x ++ z) = if clsB ((x ++ z).getD (span inQ ((x ++ z).drop 1) + 1) 0) = 7 then (5, span inQ ((x ++ z).drop 1) + 2, 0, 0) else (0, 0, 42, 0) := by unfold one; rw [if_neg hd, hg, if_neg c5, if_neg c3, if_neg c4, if_pos c7]
            rw [ho] at h hn ⊢
            by_cases hq : clsB ((x ++ z).getD (span inQ ((x ++ z).drop 1) + 1) 0) = 7
            · rw [if_pos hq] at hn ⊢
              simp only at hn
              obtain ⟨K, hK⟩ : ∃ K, span inQ ((x ++ z).drop 1) = K := ⟨_, rfl⟩
              rw [hK] at hn hq ⊢
              rw [getD_left _ _ _ (by omega)] at hq
              rw [List.drop_append_of_le_length (by omega)] at hK
              have s1 : span inQ (x.drop 1) = K := span_take inQ (x.drop 1) z K hK (by simp; omega) (fun _ => by
                rw [getD_drop, Nat.add_comm]
                exact decide_eq_false (fun h => h.1 hq))
              unfold one
              rw [if_neg hdx, if_neg c5, if_neg c3, if_neg c4, if_pos c7, s1, if_pos hq]
            · rw [if_neg hq] at h; simp at h
          · have ho : one (x ++ z) = if 2 ≤ (x ++ z).length ∧ markB ((x ++ z).take 2) = true then (6, 2, 0, 0) else if markB ((x ++ z).take 1) = true then (6, 1, 0, 0) else (0, 0, 41, 0) := by unfold one; rw [if_neg hd, hg, if_neg c5, if_neg c3, if_neg c4, if_neg c7]
            rw [ho] at h hn ⊢
            have hx : one x = if 2 ≤ x.length ∧ markB (x.take 2) = true then (6, 2, 0, 0) else if markB (x.take 1) = true then (6, 1, 0, 0) else (0, 0, 41, 0) := by unfold one; rw [if_neg hdx, if_neg c5, if_neg c3, if_neg c4, if_neg c7]
            rw [hx]
            by_cases h2 : 2 ≤ (x ++ z).length ∧ markB ((x ++ z).take 2) = true
            · rw [if_pos h2] at hn ⊢
              simp only at hn
              rw [List.take_append_of_le_length (by omega)] at h2
              rw [if_pos ⟨by omega, h2.2⟩]
            · rw [if_neg h2] at h hn ⊢
              by_cases h1 : markB ((x ++ z).take 1) = true
              · rw [if_pos h1] at hn ⊢
                simp only at hn
                rw [List.take_append_of_le_length (by omega)] at h1
                rw [if_neg (fun h => by omega), if_pos h1]
              · rw [if_neg h1] at h; simp at h

/-- A text that is one token. -/
structure Whole (x : List UInt8) (kd : Nat) : Prop where
  ne : x ≠ []
  ok : (one x).2.2.1 = 0
  kind : (one x).1 = kd
  len : (one x).2.1 = x.length
  blank : blankB (x.getD 0 0) = false
  sharp : clsB (x.getD 0 0) ≠ 8

theorem whole_tok {c : UInt8} {r : List UInt8} (hb : blankB c = false) (h8 : clsB c ≠ 8) (he : (one (c :: r)).2.2.1 = 0) : Whole ((c :: r).take (one (c :: r)).2.1) (one (c :: r)).1 := by
  have hl := one_len (l := c :: r) (by simp) he
  obtain ⟨x, z, hx, hxl⟩ : ∃ x z, c :: r = x ++ z ∧ x.length = (one (c :: r)).2.1 := ⟨(c :: r).take (one (c :: r)).2.1, (c :: r).drop (one (c :: r)).2.1, (List.take_append_drop _ _).symm, by simp only [List.length_take]; omega⟩
  have ht : (c :: r).take (one (c :: r)).2.1 = x := by
    have e : (x ++ z).take x.length = x := List.take_left
    rw [← hxl, hx]; exact e
  have h0 : x ≠ [] := by intro e; subst e; simp at hxl; omega
  have hg : x.getD 0 0 = c := by
    have : (x ++ z).getD 0 0 = x.getD 0 0 := getD_left _ _ _ (List.length_pos_iff.2 h0)
    rw [← this, ← hx]; rfl
  have e := one_alone x z (by rw [← hx]; exact he) (by rw [← hx]; exact hxl.symm) h0
  rw [ht]
  refine ⟨h0, by rw [e, ← hx]; exact he, by rw [e, ← hx], by rw [e, ← hx, hxl], by rw [hg]; exact hb, by rw [hg]; exact h8⟩

/-- The token that a text is, at a place. -/
def tokW (x : List UInt8) (kd i : Nat) : Tok := tokOf kd x.length x i

theorem tok_eq {c : UInt8} {r : List UInt8} (he : (one (c :: r)).2.2.1 = 0) (i : Nat) : tokOf (one (c :: r)).1 (one (c :: r)).2.1 (c :: r) i = tokW ((c :: r).take (one (c :: r)).2.1) (one (c :: r)).1 i := by
  have hl := one_len (l := c :: r) (by simp) he
  unfold tokW tokOf
  have e : ((c :: r).take (one (c :: r)).2.1).length = (one (c :: r)).2.1 := by simp only [List.length_take]; omega
  rw [e]
  simp only [Tok.mk.injEq, true_and, and_true]
  split
  · rw [List.take_take]; congr 2; omega
  · rw [List.take_take]; congr 1; omega

theorem written_whole {x : List UInt8} {kd : Nat} (h : Whole x kd) (i : Nat) : writtenF ((tokW x kd i).kind : Int) (tokW x kd i).text = x := by
  have := written_tok h.ne h.ok i
  rw [h.kind, h.len] at this
  unfold tokW
  rw [this, List.take_length]

/-- The cut of a text that is one token. -/
theorem cut_one {x : List UInt8} {kd : Nat} (h : Whole x kd) (i : Nat) : Cut x i [tokW x kd i] [] := by
  cases hx : x with
  | nil => exact absurd hx h.ne
  | cons c r =>
    subst hx
    have := Cut.tok (c := c) (r := r) (i := i) (ts := []) (rs := []) (by simpa using h.blank) (by simpa using h.sharp) h.ok (by rw [h.len, List.drop_length]; exact .nil _)
    rw [h.kind, h.len] at this
    exact this

/-- A token, a blank, more. -/
theorem cut_more {x y : List UInt8} {kd i : Nat} {ts : List Tok} {rs : List (List UInt8)} (h : Whole x kd) (hc : Cut y (i + x.length + 1) ts rs) : Cut (x ++ 32 :: y) i (tokW x kd i :: ts) rs := by
  cases hx : x with
  | nil => exact absurd hx h.ne
  | cons c r =>
    subst hx
    have e := one_app (c :: r) y 32 (by simp) (.inr (by decide)) (.inr (.inl h.ok))
    have hb : Cut (((c :: r) ++ 32 :: y).drop (c :: r).length) (i + (c :: r).length) ts rs := by
      have e2 : ((c :: r) ++ 32 :: y).drop (c :: r).length = 32 :: y := List.drop_left
      rw [e2]
      exact .blank (by decide) hc
    have := Cut.tok (c := c) (r := r ++ 32 :: y) (i := i) (ts := ts) (rs := rs) (by simpa using h.blank) (by simpa using h.sharp) (by rw [← List.cons_append, e]; exact h.ok) (by rw [← List.cons_append, e, h.len]; exact hb)
    rw [← List.cons_append, e, h.kind, h.len] at this
    have et : tokOf kd (c :: r).length ((c :: r) ++ 32 :: y) i = tokW (c :: r) kd i := by
      unfold tokW tokOf
      rw [List.take_append_of_le_length (by omega), List.take_append_of_le_length (Nat.le_refl _)]
    rw [et] at this
    exact this
end Go.Proofs.Ytlllgndbcagkgaa
