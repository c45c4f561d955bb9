/- The scanner's steps keep to the walk. -/
import Derived.Test.YtlllgndbcagkgabWalk
namespace Go.Proofs.Ytlllgndbcagkgab

theorem getD_drop (L : List UInt8) (a j : Nat) : (L.drop a).getD j 0 = L.getD (a + j) 0 := by
  simp only [List.getD_eq_getElem?_getD, List.getElem?_drop]

theorem drop_cons (L : List UInt8) (i : Nat) (h : i < L.length) : L.drop i = L.getD i 0 :: L.drop (i + 1) := by
  rw [List.drop_eq_getElem_cons h, List.getD_eq_getElem?_getD, List.getElem?_eq_getElem h]; rfl

/-- What each state knows. -/
def Knows (L : List UInt8) (S : St) (i : Nat) : Prop :=
  (S.fn = 63 ∧ clsB (L.getD S.frm 0) = 3 ∧ ∀ j, S.frm ≤ j → j < i → nameB (L.getD j 0) = true) ∨
  (S.fn = 64 ∧ clsB (L.getD S.frm 0) = 4 ∧ ∀ j, S.frm ≤ j → j < i → wordB (L.getD j 0) = true) ∨
  (S.fn = 65 ∧ dateB (L.drop S.frm) = false ∧ ∀ j, S.frm ≤ j → j < i → digB (L.getD j 0) = true) ∨
  (S.fn = 74 ∧ dateB (L.drop S.frm) = false ∧ ∃ p, S.frm < p ∧ p < i ∧ (∀ j, S.frm ≤ j → j < p → digB (L.getD j 0) = true) ∧ clsB (L.getD p 0) = 9 ∧ digB (L.getD (p + 1) 0) = true ∧ ∀ j, p < j → j < i → digB (L.getD j 0) = true) ∨
  (S.fn = 67 ∧ dateB (L.drop S.frm) = true ∧ i ≤ S.frm + 10) ∨
  (S.fn = 68 ∧ clsB (L.getD S.frm 0) = 7 ∧ ∀ j, S.frm < j → j < i → inQ (L.getD j 0) = true) ∨
  (S.fn = 69 ∧ clsB (L.getD S.frm 0) = 8 ∧ ∀ j, S.frm < j → j < i → noEnd (L.getD j 0) = true) ∨
  (S.fn = 70 ∧ (clsB (L.getD S.frm 0) = 9 ∨ clsB (L.getD S.frm 0) = 10) ∧ i = S.frm + 1)

/-- The scanner stands ahead of place i. -/
def Inv (L : List UInt8) (R : Res) (S : St) (i : Nat) : Prop :=
  S.err = 0 ∧ i ≤ L.length ∧
  ((S.fn = 37 ∧ S.tk.length ≤ i ∧ S.rm.length ≤ i ∧ W (L.drop i) i S.tk S.rm = R) ∨
   (S.frm < i ∧ S.tk.length ≤ S.frm ∧ S.rm.length ≤ S.frm ∧ W (L.drop S.frm) S.frm S.tk S.rm = R ∧ Knows L S i))

/-- Behind a step: an error, and it is the walk's; or it stands further on. -/
def Good (L : List UInt8) (R : Res) (S : St) (i : Nat) : Prop :=
  (∃ e : Nat, e ≠ 0 ∧ S.err = (e : Int) ∧ R = ⟨[], [], e, S.place⟩) ∨ Inv L R S i

/-- A character of the text at place i, w bytes long. -/
structure Rune (L : List UInt8) (i : Nat) (c : Int) (w : Nat) : Prop where
  lt : i < L.length
  pos : 1 ≤ w
  le : i + w ≤ L.length
  cls : cls c = clsB (L.getD i 0)
  high : ∀ j, i ≤ j → j < i + w → 2 ≤ w → clsB (L.getD j 0) = 0

theorem Rune.one {L : List UInt8} {i w : Nat} {c : Int} (h : Rune L i c w) (hk : clsB (L.getD i 0) ≠ 0) : w = 1 := by
  have := h.pos
  rcases Nat.lt_or_ge w 2 with h1 | h1
  · omega
  · exact absurd (h.high i (Nat.le_refl _) (by omega) h1) hk

theorem blankB_cls {c : UInt8} (h1 : clsB c ≠ 1) (h2 : clsB c ≠ 2) : blankB c = false := by simp [blankB, h1, h2]

theorem markB_two (a b : UInt8) (h : markB [a, b] = true) : clsB a = 10 := by
  simp only [markB, marksL, decide_eq_true_eq, List.mem_cons, List.cons.injEq, and_true, List.not_mem_nil, or_false] at h
  rcases h with h | h | h | h | h | h | h | h | h | h | h | h | h | h | h | h | h | h | h | h | h
  all_goals first | (obtain ⟨rfl, rfl⟩ := h; decide) | (simp at h)

theorem markB_one (a : UInt8) (h : markB [a] = true) : clsB a = 9 ∨ clsB a = 10 := by
  simp only [markB, marksL, decide_eq_true_eq, List.mem_cons, List.cons.injEq, and_true, List.not_mem_nil, or_false] at h
  rcases h with h | h | h | h | h | h | h | h | h | h | h | h | h | h | h | h | h | h | h | h | h
  all_goals first | (subst h; decide) | (simp at h)

theorem dateB_first {l : List UInt8} (h : dateB l = true) : clsB (l.getD 0 0) = 5 := by
  simp only [dateB, Bool.and_eq_true, List.all_eq_true, List.mem_range] at h
  have := h.2 0 (by omega)
  exact digB_cls.1 (by simpa [dpat] using this)

theorem dateB_not5 {l : List UInt8} (h : clsB (l.getD 0 0) ≠ 5) : dateB l = false := by
  cases hd : dateB l with
  | false => rfl
  | true => exact absurd (dateB_first hd) h

/-- A byte that begins nothing. -/
theorem one_none {l : List UInt8} (h : clsB (l.getD 0 0) = 0 ∨ clsB (l.getD 0 0) = 6) (h0 : l ≠ []) : one l = (0, 0, 41, 0) := by
  cases l with
  | nil => exact absurd rfl h0
  | cons a r =>
    simp only [List.getD_cons_zero] at h
    have hd : dateB (a :: r) = false := dateB_not5 (by simp only [List.getD_cons_zero]; omega)
    have h2 : ¬ (2 ≤ (a :: r).length ∧ markB ((a :: r).take 2) = true) := by
      rintro ⟨hl, hm⟩
      cases r with
      | nil => simp at hl
      | cons b r => have := markB_two a b hm; omega
    have h1 : ¬ markB ((a :: r).take 1) = true := by
      intro hm
      have := markB_one a hm; omega
    unfold one
    simp only [hd, List.getD_cons_zero, Bool.false_eq_true, if_false, h2, h1]
    rcases h with h | h <;> simp [h]

theorem between_step {L : List UInt8} {R : Res} {S : St} {i w : Nat} {c : Int} (hr : Rune L i c w) (he : S.err = 0) (hf : S.fn = 37) (ht : S.tk.length ≤ i) (hm : S.rm.length ≤ i) (hW : W (L.drop i) i S.tk S.rm = R) :
    Good L R (betweenS L S i c) (i + w) := by
  have hlt := hr.lt
  have hle := hr.le
  have hk := hr.cls
  have hdc := drop_cons L i hr.lt
  rcases cls_cases c with e | e | e | e | e | e | e | e | e | e | e
  all_goals rw [e] at hk
  case inl =>
    left
    have hb : blankB (L.getD i 0) = false := blankB_cls (by omega) (by omega)
    have ho : one (L.drop i) = (0, 0, 41, 0) := one_none (.inl (by rw [getD_drop]; exact hk.symm)) (by rw [hdc]; simp)
    rw [hdc] at ho hW
    rw [W_err _ _ _ _ _ hb (by omega) (by rw [ho]; simp), ho] at hW
    refine ⟨41, by omega, ?_, ?_⟩
    · simp [betweenS, e]
    · simpa [betweenS, e] using hW.symm
  case inr.inr.inr.inr.inr.inr.inl =>
    left
    have hb : blankB (L.getD i 0) = false := blankB_cls (by omega) (by omega)
    have ho : one (L.drop i) = (0, 0, 41, 0) := one_none (.inr (by rw [getD_drop]; exact hk.symm)) (by rw [hdc]; simp)
    rw [hdc] at ho hW
    rw [W_err _ _ _ _ _ hb (by omega) (by rw [ho]; simp), ho] at hW
    refine ⟨41, by omega, ?_, ?_⟩
    · simp [betweenS, e]
    · simpa [betweenS, e] using hW.symm
  all_goals
    have hw := hr.one (by omega)
    subst hw
    right
    simp only [betweenS, e]
  case inr.inl =>
    simp only [true_or, if_true]
    refine ⟨he, hle, .inl ⟨hf, Nat.le_succ_of_le ht, Nat.le_succ_of_le hm, ?_⟩⟩
    rw [hdc, W_blank _ _ _ _ _ (decide_eq_true (.inl hk.symm))] at hW
    exact hW
  case inr.inr.inl =>
    simp only [or_true, if_true]
    refine ⟨he, hle, .inl ⟨hf, Nat.le_succ_of_le ht, Nat.le_succ_of_le hm, ?_⟩⟩
    rw [hdc, W_blank _ _ _ _ _ (decide_eq_true (.inr hk.symm))] at hW
    exact hW
  case inr.inr.inr.inl =>
    refine ⟨he, hle, .inr ⟨by simp, ht, hm, hW, .inl ⟨rfl, hk.symm, fun j h1 h2 => ?_⟩⟩⟩
    have : j = i := by simp at h1; omega
    subst this; exact decide_eq_true (.inl hk.symm)
  case inr.inr.inr.inr.inl =>
    refine ⟨he, hle, .inr ⟨by simp, ht, hm, hW, .inr (.inl ⟨rfl, hk.symm, fun j h1 h2 => ?_⟩)⟩⟩
    have : j = i := by simp at h1; omega
    subst this; exact decide_eq_true (.inr (.inl hk.symm))
  case inr.inr.inr.inr.inr.inl =>
    cases hd : dateB (L.drop i) with
    | true => exact ⟨he, hle, .inr ⟨by simp, ht, hm, hW, .inr (.inr (.inr (.inr (.inl ⟨by simp, hd, by simp⟩))))⟩⟩
    | false =>
      refine ⟨he, hle, .inr ⟨by simp, ht, hm, hW, .inr (.inr (.inl ⟨by simp, hd, fun j h1 h2 => ?_⟩))⟩⟩
      have : j = i := by simp at h1; omega
      subst this; exact digB_cls.2 hk.symm
  case inr.inr.inr.inr.inr.inr.inr.inl =>
    refine ⟨he, hle, .inr ⟨by simp, ht, hm, hW, .inr (.inr (.inr (.inr (.inr (.inl ⟨by simp, hk.symm, fun j h1 h2 => ?_⟩)))))⟩⟩
    simp at h1; omega
  case inr.inr.inr.inr.inr.inr.inr.inr.inl =>
    refine ⟨he, hle, .inr ⟨by simp, ht, hm, hW, .inr (.inr (.inr (.inr (.inr (.inr (.inl ⟨by simp, hk.symm, fun j h1 h2 => ?_⟩))))))⟩⟩
    simp at h1; omega
  case inr.inr.inr.inr.inr.inr.inr.inr.inr.inl =>
    exact ⟨he, hle, .inr ⟨by simp, ht, hm, hW, .inr (.inr (.inr (.inr (.inr (.inr (.inr ⟨by simp, .inl hk.symm, by simp⟩))))))⟩⟩
  case inr.inr.inr.inr.inr.inr.inr.inr.inr.inr =>
    exact ⟨he, hle, .inr ⟨by simp, ht, hm, hW, .inr (.inr (.inr (.inr (.inr (.inr (.inr ⟨by simp, .inr hk.symm, by simp⟩))))))⟩⟩

theorem sub_drop (L : List UInt8) (a b : Nat) : (L.drop a).take (b - a) = sub L a b := rfl

/-- A token that ends ahead of place i. -/
theorem apart_step {L : List UInt8} {R : Res} {S : St} {kind i w : Nat} {c : Int} (hr : Rune L i c w) (he : S.err = 0) (hlt : S.frm < i) (ht : S.tk.length ≤ S.frm) (hm : S.rm.length ≤ S.frm) (hW : W (L.drop S.frm) S.frm S.tk S.rm = R)
    (h1 : clsB (L.getD S.frm 0) ≠ 1) (h2 : clsB (L.getD S.frm 0) ≠ 2) (h8 : clsB (L.getD S.frm 0) ≠ 8) (hk5 : kind ≠ 5) (ho : one (L.drop S.frm) = fin kind (i - S.frm) (L.drop S.frm)) (hs : ¬ ((kind = 1 ∨ kind = 2) ∧ 32 < i - S.frm)) :
    Good L R (apartS L S kind i c) (i + w) := by
  have hil := hr.lt
  have hk := hr.cls
  have hdc := drop_cons L S.frm (by omega)
  have hb : blankB (L.getD S.frm 0) = false := blankB_cls h1 h2
  have hg : (L.drop S.frm).getD (i - S.frm) 0 = L.getD i 0 := by rw [getD_drop]; congr 1; omega
  unfold fin at ho
  rw [if_neg hs, hg] at ho
  by_cases hw : cls c = 3 ∨ cls c = 4 ∨ cls c = 5 ∨ cls c = 6
  · left
    have hwb : wordB (L.getD i 0) = true := decide_eq_true (by rw [← hk]; exact hw)
    rw [if_pos hwb] at ho
    rw [hdc] at ho hW
    rw [W_err _ _ _ _ _ hb h8 (by rw [ho]; simp), ho] at hW
    refine ⟨41, by omega, by simp [apartS, hw], ?_⟩
    simp only [apartS, hw, if_true]
    rw [← hW]
    simp only [Res.mk.injEq, true_and]
    omega
  · have hwb : ¬ wordB (L.getD i 0) = true := fun h => hw (by rw [hk]; exact of_decide_eq_true h)
    rw [if_neg hwb] at ho
    rw [hdc] at ho hW
    rw [W_tok _ _ _ _ _ hb h8 (by rw [ho]), ho] at hW
    simp only [← hdc, List.drop_drop] at hW
    simp only [apartS, hw, if_false]
    have e1 : S.frm + (i - S.frm) = i := by omega
    rw [e1] at hW
    refine between_step hr (S := { S with fn := 37, tk := S.tk ++ [⟨kind, sub L S.frm i, S.frm⟩] }) he rfl (by simp; omega) (by simp; omega) ?_
    simp only [tokOf, hk5, if_false, sub_drop] at hW
    exact hW
end Go.Proofs.Ytlllgndbcagkgab
