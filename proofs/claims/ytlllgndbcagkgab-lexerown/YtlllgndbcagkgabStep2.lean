/- Each state's step keeps to the walk. -/
import Derived.Test.YtlllgndbcagkgabStep
namespace Go.Proofs.Ytlllgndbcagkgab

theorem span_drop (p : UInt8 → Bool) (L : List UInt8) (a i : Nat) (h1 : a ≤ i) (h2 : i ≤ L.length) (h : ∀ j, a ≤ j → j < i → p (L.getD j 0) = true) (hn : i < L.length → p (L.getD i 0) = false) : span p (L.drop a) = i - a := by
  refine span_eq p _ _ (by simp; omega) (fun j hj => ?_) (fun hj => ?_)
  · rw [getD_drop]; exact h _ (by omega) (by omega)
  · rw [getD_drop]
    simp only [List.length_drop] at hj
    have e : a + (i - a) = i := by omega
    rw [e]; exact hn (by omega)

section
variable {L : List UInt8} {R : Res} {S : St} {i w : Nat} {c : Int}

theorem word_step {kind : Nat} (hr : Rune L i c w) (he : S.err = 0) (hlt : S.frm < i) (ht : S.tk.length ≤ S.frm) (hm : S.rm.length ≤ S.frm) (hW : W (L.drop S.frm) S.frm S.tk S.rm = R)
    (h1 : clsB (L.getD S.frm 0) ≠ 1) (h2 : clsB (L.getD S.frm 0) ≠ 2) (h8 : clsB (L.getD S.frm 0) ≠ 8) (hk : kind = 1 ∨ kind = 2) (ho : one (L.drop S.frm) = fin kind (i - S.frm) (L.drop S.frm)) :
    Good L R (wordS L S kind i c) (i + w) := by
  have hil := hr.lt
  have hdc := drop_cons L S.frm (by omega)
  have hb : blankB (L.getD S.frm 0) = false := blankB_cls h1 h2
  by_cases hl : 32 < i - S.frm
  · left
    have ho' := ho
    unfold fin at ho'
    rw [if_pos ⟨hk, hl⟩] at ho'
    rw [hdc] at ho' hW
    rw [W_err _ _ _ _ _ hb h8 (by rw [ho']; simp), ho'] at hW
    refine ⟨5, by omega, by simp [wordS, hl], ?_⟩
    simp only [wordS, hl, if_true]
    rw [← hW]
    simp
  · simp only [wordS, hl, if_false]
    exact apart_step hr he hlt ht hm hW h1 h2 h8 (by omega) ho (fun h => hl h.2)

theorem name_step (hr : Rune L i c w) (he : S.err = 0) (hlt : S.frm < i) (ht : S.tk.length ≤ S.frm) (hm : S.rm.length ≤ S.frm) (hW : W (L.drop S.frm) S.frm S.tk S.rm = R)
    (hf : S.fn = 63) (h3 : clsB (L.getD S.frm 0) = 3) (ha : ∀ j, S.frm ≤ j → j < i → nameB (L.getD j 0) = true) : Good L R (nameS L S i c) (i + w) := by
  have hil := hr.lt
  have hk := hr.cls
  by_cases hc : cls c = 3 ∨ cls c = 5 ∨ cls c = 6
  · have hw := hr.one (by omega)
    subst hw
    simp only [nameS, hc, if_true]
    refine .inr ⟨he, hr.le, .inr ⟨by omega, ht, hm, hW, .inl ⟨hf, h3, fun j h1 h2 => ?_⟩⟩⟩
    by_cases e : j = i
    · subst e; exact decide_eq_true (by rw [← hk]; exact hc)
    · exact ha j h1 (by omega)
  · simp only [nameS, hc, if_false]
    refine word_step hr he hlt ht hm hW (by omega) (by omega) (by omega) (.inl rfl) ?_
    have hsp : span nameB (L.drop S.frm) = i - S.frm := span_drop _ L S.frm i (by omega) (by omega) ha (fun _ => decide_eq_false (by rw [← hk]; exact hc))
    have hg : (L.drop S.frm).getD 0 0 = L.getD S.frm 0 := by rw [getD_drop]; rfl
    unfold one
    rw [hsp, dateB_not5 (by rw [hg]; omega), hg, h3]
    simp

theorem var_step (hr : Rune L i c w) (he : S.err = 0) (hlt : S.frm < i) (ht : S.tk.length ≤ S.frm) (hm : S.rm.length ≤ S.frm) (hW : W (L.drop S.frm) S.frm S.tk S.rm = R)
    (hf : S.fn = 64) (h3 : clsB (L.getD S.frm 0) = 4) (ha : ∀ j, S.frm ≤ j → j < i → wordB (L.getD j 0) = true) : Good L R (varS L S i c) (i + w) := by
  have hil := hr.lt
  have hk := hr.cls
  by_cases hc : cls c = 3 ∨ cls c = 4 ∨ cls c = 5 ∨ cls c = 6
  · have hw := hr.one (by omega)
    subst hw
    simp only [varS, hc, if_true]
    refine .inr ⟨he, hr.le, .inr ⟨by omega, ht, hm, hW, .inr (.inl ⟨hf, h3, fun j h1 h2 => ?_⟩)⟩⟩
    by_cases e : j = i
    · subst e; exact decide_eq_true (by rw [← hk]; exact hc)
    · exact ha j h1 (by omega)
  · simp only [varS, hc, if_false]
    refine word_step hr he hlt ht hm hW (by omega) (by omega) (by omega) (.inr rfl) ?_
    have hsp : span wordB (L.drop S.frm) = i - S.frm := span_drop _ L S.frm i (by omega) (by omega) ha (fun _ => decide_eq_false (by rw [← hk]; exact hc))
    have hg : (L.drop S.frm).getD 0 0 = L.getD S.frm 0 := by rw [getD_drop]; rfl
    unfold one
    rw [hsp, dateB_not5 (by rw [hg]; omega), hg, h3]
    simp

theorem number_step (hr : Rune L i c w) (he : S.err = 0) (hlt : S.frm < i) (ht : S.tk.length ≤ S.frm) (hm : S.rm.length ≤ S.frm) (hW : W (L.drop S.frm) S.frm S.tk S.rm = R)
    (hf : S.fn = 65) (hd : dateB (L.drop S.frm) = false) (ha : ∀ j, S.frm ≤ j → j < i → digB (L.getD j 0) = true) : Good L R (numberS L S i c) (i + w) := by
  have hil := hr.lt
  have hk := hr.cls
  have h5 : clsB (L.getD S.frm 0) = 5 := digB_cls.1 (ha _ (Nat.le_refl _) hlt)
  by_cases hc : cls c = 5
  · have hw := hr.one (by omega)
    subst hw
    simp only [numberS, hc, if_true]
    refine .inr ⟨he, hr.le, .inr ⟨by omega, ht, hm, hW, .inr (.inr (.inl ⟨hf, hd, fun j h1 h2 => ?_⟩))⟩⟩
    by_cases e : j = i
    · subst e; exact digB_cls.2 (by omega)
    · exact ha j h1 (by omega)
  · have hsp : span digB (L.drop S.frm) = i - S.frm := span_drop _ L S.frm i (by omega) (by omega) ha (fun _ => by
      cases hx : digB (L.getD i 0) with
      | false => rfl
      | true => exact absurd (hk.trans (digB_cls.1 hx)) hc)
    have hg : (L.drop S.frm).getD 0 0 = L.getD S.frm 0 := by rw [getD_drop]; rfl
    have hgi : (L.drop S.frm).getD (i - S.frm) 0 = L.getD i 0 := by rw [getD_drop]; congr 1; omega
    have hgj : (L.drop S.frm).getD (i - S.frm + 1) 0 = L.getD (i + 1) 0 := by rw [getD_drop]; congr 1; omega
    by_cases hp : cls c = 9 ∧ digB (L.getD (i + 1) 0) = true
    · have hw := hr.one (by omega)
      subst hw
      simp only [numberS, hc, if_false]
      rw [if_pos hp]
      exact .inr ⟨he, hr.le, .inr ⟨by simp; omega, ht, hm, hW, .inr (.inr (.inr (.inl ⟨rfl, hd, i, hlt, by omega, ha, by rw [← hk]; exact hp.1, hp.2, fun j h1 h2 => by omega⟩)))⟩⟩
    · simp only [numberS, hc, if_false]
      rw [if_neg hp]
      refine apart_step hr he hlt ht hm hW (by omega) (by omega) (by omega) (by omega) ?_ (by omega)
      have hn : numLen (L.drop S.frm) = i - S.frm := by
        unfold numLen
        rw [hsp, hgi, hgj, ← hk, if_neg hp]
      unfold one
      rw [hd, hg, h5, hn]
      simp

theorem fraction_step (hr : Rune L i c w) (he : S.err = 0) (hlt : S.frm < i) (ht : S.tk.length ≤ S.frm) (hm : S.rm.length ≤ S.frm) (hW : W (L.drop S.frm) S.frm S.tk S.rm = R)
    (hf : S.fn = 74) (hd : dateB (L.drop S.frm) = false) (p : Nat) (hp1 : S.frm < p) (hp2 : p < i) (ha : ∀ j, S.frm ≤ j → j < p → digB (L.getD j 0) = true) (h9 : clsB (L.getD p 0) = 9) (hq : digB (L.getD (p + 1) 0) = true)
    (hb : ∀ j, p < j → j < i → digB (L.getD j 0) = true) : Good L R (fractionS L S i c) (i + w) := by
  have hil := hr.lt
  have hk := hr.cls
  have h5 : clsB (L.getD S.frm 0) = 5 := digB_cls.1 (ha _ (Nat.le_refl _) hp1)
  by_cases hc : cls c = 5
  · have hw := hr.one (by omega)
    subst hw
    simp only [fractionS, hc, if_true]
    refine .inr ⟨he, hr.le, .inr ⟨by omega, ht, hm, hW, .inr (.inr (.inr (.inl ⟨hf, hd, p, hp1, by omega, ha, h9, hq, fun j h1 h2 => ?_⟩)))⟩⟩
    by_cases e : j = i
    · subst e; exact digB_cls.2 (by omega)
    · exact hb j h1 (by omega)
  · have hsp : span digB (L.drop S.frm) = p - S.frm := span_drop _ L S.frm p (by omega) (by omega) ha (fun _ => by
      cases hx : digB (L.getD p 0) with
      | false => rfl
      | true => have := digB_cls.1 hx; omega)
    have hsq : span digB (L.drop (p + 1)) = i - (p + 1) := span_drop _ L (p + 1) i (by omega) (by omega) (fun j h1 h2 => hb j (by omega) h2) (fun _ => by
      cases hx : digB (L.getD i 0) with
      | false => rfl
      | true => exact absurd (hk.trans (digB_cls.1 hx)) hc)
    have hg : (L.drop S.frm).getD 0 0 = L.getD S.frm 0 := by rw [getD_drop]; rfl
    have hgi : (L.drop S.frm).getD (p - S.frm) 0 = L.getD p 0 := by rw [getD_drop]; congr 1; omega
    have hgj : (L.drop S.frm).getD (p - S.frm + 1) 0 = L.getD (p + 1) 0 := by rw [getD_drop]; congr 1; omega
    simp only [fractionS, hc, if_false]
    refine apart_step hr he hlt ht hm hW (by omega) (by omega) (by omega) (by omega) ?_ (by omega)
    have hn : numLen (L.drop S.frm) = i - S.frm := by
      unfold numLen
      rw [hsp, hgi, hgj, if_pos ⟨h9, hq⟩, List.drop_drop]
      have e : S.frm + (p - S.frm + 1) = p + 1 := by omega
      rw [e, hsq]; omega
    unfold one
    rw [hd, hg, h5, hn]
    simp

theorem dateB_at {l : List UInt8} (h : dateB l = true) (j : Nat) (hj : j < 10) : clsB (l.getD j 0) ≠ 0 ∧ clsB (l.getD j 0) ≠ 1 := by
  simp only [dateB, Bool.and_eq_true, List.all_eq_true, List.mem_range] at h
  have := h.2 j hj
  unfold dpat at this
  split at this
  · have e : (l.getD j 0).toNat = 45 := of_decide_eq_true this
    have e2 : clsB (l.getD j 0) = 10 := by unfold clsB; rw [e]; rfl
    omega
  · have := digB_cls.1 this; omega

theorem date_step (hr : Rune L i c w) (he : S.err = 0) (hlt : S.frm < i) (ht : S.tk.length ≤ S.frm) (hm : S.rm.length ≤ S.frm) (hW : W (L.drop S.frm) S.frm S.tk S.rm = R)
    (hf : S.fn = 67) (hd : dateB (L.drop S.frm) = true) (hi : i ≤ S.frm + 10) : Good L R (dateS L S i c) (i + w) := by
  have hil := hr.lt
  have hk := hr.cls
  have hg : (L.drop S.frm).getD 0 0 = L.getD S.frm 0 := by rw [getD_drop]; rfl
  have h5 : clsB (L.getD S.frm 0) = 5 := by rw [← hg]; exact dateB_first hd
  by_cases hc : i = S.frm + 10
  · simp only [dateS, hc, if_true]
    rw [← hc]
    refine apart_step hr he hlt ht hm hW (by omega) (by omega) (by omega) (by omega) ?_ (by omega)
    have e : i - S.frm = 10 := by omega
    unfold one
    rw [hd, e]; simp
  · simp only [dateS, hc, if_false]
    have h0 := (dateB_at hd (i - S.frm) (by omega)).1
    rw [getD_drop] at h0
    have e : S.frm + (i - S.frm) = i := by omega
    rw [e] at h0
    have hw := hr.one h0
    subst hw
    exact .inr ⟨he, hr.le, .inr ⟨by omega, ht, hm, hW, .inr (.inr (.inr (.inr (.inl ⟨hf, hd, by omega⟩))))⟩⟩

theorem quote_step (hr : Rune L i c w) (he : S.err = 0) (hlt : S.frm < i) (ht : S.tk.length ≤ S.frm) (hm : S.rm.length ≤ S.frm) (hW : W (L.drop S.frm) S.frm S.tk S.rm = R)
    (hf : S.fn = 68) (h7 : clsB (L.getD S.frm 0) = 7) (ha : ∀ j, S.frm < j → j < i → inQ (L.getD j 0) = true) : Good L R (quoteS L S i c) (i + w) := by
  have hil := hr.lt
  have hk := hr.cls
  have hdc := drop_cons L S.frm (by omega)
  have hb : blankB (L.getD S.frm 0) = false := blankB_cls (by omega) (by omega)
  have hg : (L.drop S.frm).getD 0 0 = L.getD S.frm 0 := by rw [getD_drop]; rfl
  by_cases hc : cls c = 7 ∨ cls c = 1
  · have hsp : span inQ ((L.drop S.frm).drop 1) = i - (S.frm + 1) := by
      rw [List.drop_drop]
      exact span_drop _ L (S.frm + 1) i (by omega) (by omega) (fun j h1 h2 => ha j (by omega) h2) (fun _ => decide_eq_false (by rw [← hk]; omega))
    have hgi : (L.drop S.frm).getD (i - (S.frm + 1) + 1) 0 = L.getD i 0 := by rw [getD_drop]; congr 1; omega
    have hw := hr.one (by omega)
    subst hw
    have ho : one (L.drop S.frm) = if cls c = 7 then (5, i - (S.frm + 1) + 2, 0, 0) else (0, 0, 42, 0) := by
      unfold one
      rw [dateB_not5 (by rw [hg]; omega), hg, h7, hsp, hgi, ← hk]
      simp
    rcases hc with hc | hc
    · simp only [quoteS, hc, if_true]
      rw [hc, if_pos rfl] at ho
      rw [hdc] at ho hW
      rw [W_tok _ _ _ _ _ hb (by omega) (by rw [ho]), ho] at hW
      simp only [← hdc, List.drop_drop] at hW
      have e1 : S.frm + (i - (S.frm + 1) + 2) = i + 1 := by omega
      rw [e1] at hW
      refine .inr ⟨he, hr.le, .inl ⟨rfl, by simp; omega, by simp; omega, ?_⟩⟩
      simp only [tokOf, if_true] at hW
      rw [← hW]
      have e2 : ((L.drop S.frm).take (i - (S.frm + 1) + 2 - 1)).drop 1 = sub L (S.frm + 1) i := by
        unfold sub
        rw [List.drop_take, List.drop_drop]
        congr 1
      rw [e2]
    · left
      rw [hc, if_neg (by decide)] at ho
      rw [hdc] at ho hW
      rw [W_err _ _ _ _ _ hb (by omega) (by rw [ho]; simp), ho] at hW
      refine ⟨42, by omega, by simp [quoteS, hc], ?_⟩
      rw [← hW]
      simp [quoteS, hc]
  · have h7' : ¬ cls c = 7 := fun h => hc (.inl h)
    have h1' : ¬ cls c = 1 := fun h => hc (.inr h)
    simp only [quoteS, h7', h1', if_false]
    have hle := hr.le
    refine .inr ⟨he, hr.le, .inr ⟨by omega, ht, hm, hW, .inr (.inr (.inr (.inr (.inr (.inl ⟨hf, h7, fun j h1 h2 => ?_⟩)))))⟩⟩
    by_cases e : j < i
    · exact ha j h1 e
    · by_cases e2 : j = i
      · subst e2; exact decide_eq_true (by rw [← hk]; exact ⟨h7', h1'⟩)
      · have := hr.high j (by omega) h2 (by omega)
        exact decide_eq_true (by rw [this]; decide)

theorem remark_step (hr : Rune L i c w) (he : S.err = 0) (hlt : S.frm < i) (ht : S.tk.length ≤ S.frm) (hm : S.rm.length ≤ S.frm) (hW : W (L.drop S.frm) S.frm S.tk S.rm = R)
    (hf : S.fn = 69) (h8 : clsB (L.getD S.frm 0) = 8) (ha : ∀ j, S.frm < j → j < i → noEnd (L.getD j 0) = true) : Good L R (remarkS L S i c) (i + w) := by
  have hil := hr.lt
  have hk := hr.cls
  have hdc := drop_cons L S.frm (by omega)
  by_cases hc : cls c = 1
  · have hsp : span noEnd (L.drop (S.frm + 1)) = i - (S.frm + 1) :=
      span_drop _ L (S.frm + 1) i (by omega) (by omega) (fun j h1 h2 => ha j (by omega) h2) (fun _ => decide_eq_false (by rw [← hk]; omega))
    have hw := hr.one (by omega)
    subst hw
    simp only [remarkS, hc, if_true]
    rw [hdc, W_remark _ _ _ _ _ h8, hsp, List.drop_drop] at hW
    have e1 : S.frm + 1 + (i - (S.frm + 1)) = i := by omega
    rw [e1] at hW
    refine .inr ⟨he, hr.le, .inl ⟨rfl, by simp; omega, by simp; omega, ?_⟩⟩
    rw [drop_cons L i hil, W_blank _ _ _ _ _ (decide_eq_true (.inl (by rw [← hk]; exact hc)))] at hW
    exact hW
  · simp only [remarkS, hc, if_false]
    refine .inr ⟨he, hr.le, .inr ⟨by have := hr.pos; omega, ht, hm, hW, .inr (.inr (.inr (.inr (.inr (.inr (.inl ⟨hf, h8, fun j h1 h2 => ?_⟩))))))⟩⟩
    by_cases e : j < i
    · exact ha j h1 e
    · by_cases e2 : j = i
      · subst e2; exact decide_eq_true (by rw [← hk]; exact hc)
      · have := hr.high j (by omega) h2 (by omega)
        exact decide_eq_true (by rw [this]; decide)

theorem mark_step (hr : Rune L i c w) (he : S.err = 0) (ht : S.tk.length ≤ S.frm) (hm : S.rm.length ≤ S.frm) (hW : W (L.drop S.frm) S.frm S.tk S.rm = R)
    (h9 : clsB (L.getD S.frm 0) = 9 ∨ clsB (L.getD S.frm 0) = 10) (hi : i = S.frm + 1) : Good L R (markS L S i c) (i + w) := by
  have hil := hr.lt
  have hk := hr.cls
  have hdc := drop_cons L S.frm (by omega)
  have hdd := drop_cons L i hil
  have hb : blankB (L.getD S.frm 0) = false := blankB_cls (by omega) (by omega)
  have hg : (L.drop S.frm).getD 0 0 = L.getD S.frm 0 := by rw [getD_drop]; rfl
  have e2 : (L.drop S.frm).take 2 = sub L S.frm (i + 1) := by unfold sub; congr 1; omega
  have e1 : (L.drop S.frm).take 1 = sub L S.frm i := by unfold sub; congr 1; omega
  have ho : one (L.drop S.frm) = if markB (sub L S.frm (i + 1)) = true then (6, 2, 0, 0) else if markB (sub L S.frm i) = true then (6, 1, 0, 0) else (0, 0, 41, 0) := by
    unfold one
    rw [dateB_not5 (by rw [hg]; omega), hg, e2, e1]
    have hl : 2 ≤ (L.drop S.frm).length := by simp; omega
    rcases h9 with h | h <;> rw [h, if_neg (by decide), if_neg (by decide), if_neg (by decide), if_neg (by decide), if_neg (by decide)] <;> simp only [hl, true_and]
  by_cases h2 : markB (sub L S.frm (i + 1)) = true
  · have hbb : clsB (L.getD i 0) ≠ 0 := by
      have hs : sub L S.frm (i + 1) = [L.getD S.frm 0, L.getD i 0] := by
        rw [← e2, hdc, ← hi, hdd]; rfl
      rw [hs] at h2
      simp only [markB, marksL, decide_eq_true_eq, List.mem_cons, List.cons.injEq, and_true, List.not_mem_nil, or_false] at h2
      generalize L.getD S.frm 0 = a at h2
      generalize L.getD i 0 = b at h2 ⊢
      rcases h2 with h | h | h | h | h | h | h | h | h | h | h | h | h | h | h | h | h | h | h | h | h
      all_goals first | (obtain ⟨rfl, rfl⟩ := h; decide) | (simp at h)
    have hw := hr.one hbb
    subst hw
    simp only [markS, h2, if_true]
    rw [if_pos h2] at ho
    rw [hdc] at ho hW
    rw [W_tok _ _ _ _ _ hb (by omega) (by rw [ho]), ho] at hW
    simp only [← hdc, List.drop_drop] at hW
    have e3 : S.frm + 2 = i + 1 := by omega
    rw [e3] at hW
    refine .inr ⟨he, hr.le, .inl ⟨rfl, by simp; omega, by simp; omega, ?_⟩⟩
    simp only [tokOf, e2] at hW
    exact hW
  · by_cases h1 : markB (sub L S.frm i) = true
    · simp only [markS, h2, h1, if_true]
      rw [if_neg h2, if_pos h1] at ho
      rw [hdc] at ho hW
      rw [W_tok _ _ _ _ _ hb (by omega) (by rw [ho]), ho] at hW
      simp only [← hdc, List.drop_drop] at hW
      rw [← hi] at hW
      refine between_step hr (S := { S with fn := 37, tk := S.tk ++ [⟨6, sub L S.frm i, S.frm⟩] }) he rfl (by simp; omega) (by simp; omega) ?_
      simp only [tokOf, e1] at hW
      exact hW
    · left
      rw [if_neg h2, if_neg h1] at ho
      rw [hdc] at ho hW
      rw [W_err _ _ _ _ _ hb (by omega) (by rw [ho]; simp), ho] at hW
      refine ⟨41, by omega, by simp [markS, h1, h2], ?_⟩
      rw [← hW]
      simp [markS, h1, h2]
end
end Go.Proofs.Ytlllgndbcagkgab
